import Derived.Test.YtclpodmgpfdleaaNm
import Derived.Test.YtclpodmgpfdleaaSh
import Derived.Deep.DeepCutAuto
namespace Go.Proofs.Ytclpodmgpfdleaa
open Go.ChangeShapes Go.WideShapes Go.ChangeAt Go.RowKit
set_option linter.unusedVariables false

set_option maxRecDepth 1000000 in
set_option maxHeartbeats 4000000 in
theorem rnormal_any (tx : ByteArray) (b o cap : Nat) (xs : List Ed) (w : World) (hx : tx.size ≤ 140737488351232) (h : Eds w b o xs) (hl : xs.length * 32 ≤ 140737488351232) (hF : ∀ e ∈ xs, EdFit e) (hv : vld tx.size xs = 0) :
    Calls Try.prog 15 #[.string tx, .slice (some ⟨b, o, none⟩) xs.length cap] w fun e w' => ∃ v, e = .returned (.tuple #[v, .int .i64 0]) ∧ w'.ownsRow w.heap.size 27 3 v (nrm tx xs).length (flat (nrm tx xs)) ∧ Below w.heap.size w w' := by
  obtain ⟨i0, hi, hz0, hz1, hz2⟩ := info_parts infoEd
  have HX : Hid (Eds w b o xs) := h
  have HF : Hid (∀ e ∈ xs, EdFit e) := hF
  have hbw : b < w.heap.size := h.1
  have HV : Hid (vld tx.size xs = 0) := hv
  have HK : Hid (∀ e ∈ xs, 0 ≤ e.f ∧ e.f ≤ e.t ∧ e.t ≤ (tx.size : Int)) := chk_ok (vld_chk hv).1
  have HL : Hid (xs.length ≤ maxLen) := by unfold Hid maxLen; omega
  clear h hF hv
  go_enter Try.func15, Try.ntmps15
  go_wp2_with (first | (go_at_call 22; refine (rvalid_all tx.size _ cap xs _ (by omega) (by omega) (.inr ⟨b, o, rfl, HX.out⟩) HL.out).mono ?_; rintro e w1 ⟨rfl, hb1⟩; rw [HV.out]) | go_in)
  go_loopg [7, 8] xs.length (fun gk v i wr => ∃ k : Nat, gk = xs.length - k ∧ k ≤ xs.length ∧ i = .int .i64 k ∧ Below w.heap.size w wr ∧ wr.ownsRow w.heap.size 27 3 v (nrm tx (xs.take k)).length (flat (nrm tx (xs.take k))))
  case atStart => exact ⟨0, by omega, Nat.zero_le _, rfl, hb1, World.ownsRow_nil _ _ _ _⟩
  case round =>
    rename World => wo
    obtain ⟨k, rfl, hk, rfl, hbel, hown⟩ := hrel
    have hsz := hbel.size
    have hlen := nrm_len tx xs k
    have hlt1 : Hid (∀ k, u7.ownBlock = some k → w.heap.size ≤ k ∧ k < wo.heap.size) := hown.lt
    have HO : Hid (wo.ownsRow w.heap.size 27 3 u7 (nrm tx (xs.take k)).length (flat (nrm tx (xs.take k)))) := hown
    clear hown
    by_cases hlt : k < xs.length
    · obtain ⟨e, he⟩ : ∃ e, xs[k]? = some e := ⟨_, List.getElem?_eq_getElem hlt⟩
      obtain ⟨c0, c1, c2⟩ := HX.out.cells hbel he
      have hmem : e ∈ xs := List.mem_of_getElem? he
      have q4 := (HF.out e hmem).2.2.2.2
      obtain ⟨f, t, hee, hft, ht⟩ := nat_ed (HK.out e hmem)
      generalize e.s = s at *
      subst hee
      simp only at c0 c1 c2 q4
      have HE : Hid (xs[k]? = some ⟨f, t, s⟩) := he
      clear he hmem
      go_wp2
      clear c0 c1 c2
      go_loopg [] (t - f) (fun gk2 wr => ∃ (n : Nat) (s1 : ByteArray), gk2 = t - n ∧ f ≤ n ∧ n ≤ t ∧ s1.size ≤ s.size ∧ Below wo.heap.size wo wr ∧ wo.heap.size < wr.heap.size ∧ Box wr wo.heap.size n t s1 ∧ trimL tx.data.toList t f s.data.toList = trimL tx.data.toList t n s1.data.toList)
      case atStart => exact ⟨f, s, rfl, Nat.le_refl _, hft, Nat.le_refl _, by go_grown, by simp, Box.new wo f t s, rfl⟩
      case round =>
        rename World => wi
        obtain ⟨n, s1, rfl, h1, h2, h3, hbel2, hsz2, hbox, hc⟩ := hrel
        have HB : Hid (Box wi wo.heap.size n t s1) := hbox
        have HC : Hid (trimL tx.data.toList t f s.data.toList = trimL tx.data.toList t n s1.data.toList) := hc
        have c0 := hbox.c0
        have c1 := hbox.c1
        have c2 := hbox.c2
        have f0 := hbox.free 0
        have f1 := hbox.free 1
        have f2 := hbox.free 2
        clear hbox hc
        by_cases hgo : ∃ (h1 : n < t) (h2 : 0 < s1.size), (tx[n]'(by omega)) = s1[0]
        · obtain ⟨hlt0, hs1, hq⟩ := hgo
          have HS : Hid (trimL tx.data.toList t f s.data.toList = trimL tx.data.toList t (n + 1) (s1.extract 1 s1.size).data.toList) := HC.out.trans (trimL_step hlt0 ht hs1 hq)
          have he' := isEmpty_no hs1
          have hlt' : (n : Int) < (t : Int) := by omega
          have hn : (n : Int) < (tx.size : Int) := by omega
          go_wp2
          go_quiet (fail)
          go_wp2
          go_roundg (t - (n + 1))
          case measure => omega
          case rel => exact ⟨n + 1, s1.extract 1 s1.size, rfl, by omega, by omega, by simp; omega, by have := below_drewN hbel2 nq; go_grown, by simp; omega, ((HB.out.drewN nq).set0 (n + 1)).set2 _, HS.out⟩
        · have hstop : ¬ n < t ∨ s1.size = 0 ∨ ∃ (h1 : n < t) (h2 : 0 < s1.size), (tx[n]'(by omega)) ≠ s1[0] := by
            by_cases g1 : n < t
            · by_cases g2 : s1.size = 0
              · exact .inr (.inl g2)
              · exact .inr (.inr ⟨g1, by omega, fun h => hgo ⟨g1, by omega, h⟩⟩)
            · exact .inl g1
          have HT : Hid (trimL tx.data.toList t f s.data.toList = (n, s1.data.toList)) := HC.out.trans (trimL_stop ht hstop)
          clear HC hgo
          have hcase : (decide (n < t) = false) ∨ (n < t ∧ s1.toList.isEmpty = true) ∨ (n < t ∧ s1.toList.isEmpty = false ∧ ∃ (g1 : n < tx.size) (g2 : 0 < s1.size), ((tx[n].toNat : Int) == (s1[0].toNat : Int)) = false) := by
            rcases hstop with g | g | ⟨g1, g2, g3⟩
            · exact .inl (by simpa using g)
            · by_cases g1 : n < t
              · exact .inr (.inl ⟨g1, isEmpty_yes g⟩)
              · exact .inl (by simpa using g1)
            · exact .inr (.inr ⟨g1, isEmpty_no g2, by omega, g2, byte_ne g3⟩)
          clear hstop
          go_upto_region 9 with fail
          go_cut [46] (fun sl wc => sl = .bool false ∧ ∃ nq, wc = wi.drewN nq)
          case first =>
            rcases hcase with g1 | ⟨g1, g2⟩ | ⟨g1, g2, g3, g4, g5⟩
            all_goals
              go_quiet (fail)
              go_wp2_with fail
              go_meet
              exact ⟨rfl, _, rfl⟩
          case rest =>
            clear hcase c0 c1 c2 f0 f1 f2
            obtain ⟨rfl, nq, rfl⟩ := hcut
            go_wp2
            go_loopg [] (t - n) (fun gk2 wr => ∃ (m : Nat) (s2 : ByteArray), gk2 = m - n ∧ n ≤ m ∧ m ≤ t ∧ s2.size ≤ s.size ∧ Below wo.heap.size wo wr ∧ wo.heap.size < wr.heap.size ∧ Box wr wo.heap.size n m s2 ∧ trimR tx.data.toList n t s1.data.toList.reverse = trimR tx.data.toList n m s2.data.toList.reverse)
            case atStart => exact ⟨t, s1, rfl, h2, Nat.le_refl _, h3, below_drewN hbel2 _, hsz2, HB.out.drewN _, rfl⟩
            case round =>
              clear HB hbel2 hsz2
              obtain ⟨m, s2, rfl, k1, k2, k3, hbel2, hsz2, hbox, hc⟩ := hrel
              have HB : Hid (Box wr wo.heap.size n m s2) := hbox
              have HC : Hid (trimR tx.data.toList n t s1.data.toList.reverse = trimR tx.data.toList n m s2.data.toList.reverse) := hc
              have c0 := hbox.c0
              have c1 := hbox.c1
              have c2 := hbox.c2
              have f0 := hbox.free 0
              have f1 := hbox.free 1
              have f2 := hbox.free 2
              clear hbox hc
              by_cases hgo : ∃ (h1 : n < m) (h2 : 0 < s2.size), (tx[m - 1]'(by omega)) = s2[s2.size - 1]'(by omega)
              · obtain ⟨hlt0, hs2, hq⟩ := hgo
                have HS : Hid (trimR tx.data.toList n t s1.data.toList.reverse = trimR tx.data.toList n (m - 1) (s2.extract 0 (s2.size - 1)).data.toList.reverse) := HC.out.trans (trimR_step hlt0 (by omega) hs2 hq)
                have he' := isEmpty_no hs2
                have hlt' : (n : Int) < (m : Int) := by omega
                have e1 : IntKind.i64.wrap ((m : Int) - 1) = ((m - 1 : Nat) : Int) := by rw [IntWalk.i64_in _ ⟨by omega, by omega⟩]; omega
                have e2 : IntKind.i64.wrap ((s2.size : Int) - 1) = ((s2.size - 1 : Nat) : Int) := by rw [IntWalk.i64_in _ ⟨by omega, by omega⟩]; omega
                have n1 : m - 1 < tx.size := by omega
                have n2 : s2.size - 1 < s2.size := by omega
                go_wp2
                go_quiet (fail)
                go_wp2
                go_roundg (m - 1 - n)
                case measure => omega
                case rel => exact ⟨m - 1, s2.extract 0 (s2.size - 1), rfl, by omega, by omega, by simp; omega, by have := below_drewN hbel2 nq; go_grown, by simp; omega, ((HB.out.drewN nq).set1 _).set2 _, HS.out⟩
              · have hstop : ¬ n < m ∨ s2.size = 0 ∨ ∃ (h1 : n < m) (h2 : 0 < s2.size), (tx[m - 1]'(by omega)) ≠ s2[s2.size - 1]'(by omega) := by
                  by_cases j1 : n < m
                  · by_cases j2 : s2.size = 0
                    · exact .inr (.inl j2)
                    · exact .inr (.inr ⟨j1, by omega, fun h => hgo ⟨j1, by omega, h⟩⟩)
                  · exact .inl j1
                have HTE : Hid (trimE tx ⟨f, t, s⟩ = ⟨n, m, s2⟩) := trimE_of HT.out (HC.out.trans (trimR_stop (by omega) hstop))
                clear HC hgo
                have hcase : (decide (n < m) = false) ∨ (n < m ∧ s2.toList.isEmpty = true) ∨ (n < m ∧ s2.toList.isEmpty = false ∧ ∃ (j1 : m - 1 < tx.size) (j2 : s2.size - 1 < s2.size), ((tx[m - 1].toNat : Int) == (s2[s2.size - 1].toNat : Int)) = false) := by
                  rcases hstop with g | g | ⟨g1, g2, g3⟩
                  · exact .inl (by simpa using g)
                  · by_cases g1 : n < m
                    · exact .inr (.inl ⟨g1, isEmpty_yes g⟩)
                    · exact .inl (by simpa using g1)
                  · exact .inr (.inr ⟨g1, isEmpty_no g2, by omega, by omega, byte_ne g3⟩)
                have e1 : 0 < m → IntKind.i64.wrap ((m : Int) - 1) = ((m - 1 : Nat) : Int) := fun hm => by rw [IntWalk.i64_in _ ⟨by omega, by omega⟩]; omega
                have e2 : 0 < s2.size → IntKind.i64.wrap ((s2.size : Int) - 1) = ((s2.size - 1 : Nat) : Int) := fun hm => by rw [IntWalk.i64_in _ ⟨by omega, by omega⟩]; omega
                clear hstop
                go_upto_region 12 with fail
                go_cut [79] (fun sl wc => sl = .bool false ∧ ∃ nq, wc = wr.drewN nq)
                case first =>
                  rcases hcase with j1 | ⟨j1, j2⟩ | ⟨j1, j2, j3, j4, j5⟩
                  · clear e1 e2
                    go_quiet (fail)
                    go_wp2_with fail
                    go_meet
                    exact ⟨rfl, _, rfl⟩
                  · clear e1 e2
                    go_quiet (fail)
                    go_wp2_with fail
                    go_meet
                    exact ⟨rfl, _, rfl⟩
                  · have e3 := e1 (by omega)
                    have e4 := e2 (by omega)
                    clear e1 e2
                    go_quiet (fail)
                    go_wp2_with fail
                    go_meet
                    exact ⟨rfl, _, rfl⟩
                case rest =>
                  clear hcase e1 e2
                  obtain ⟨rfl, nq2, rfl⟩ := hcut
                  have hbelr : Below w.heap.size w (wr.drewN nq2) := below_drewN (hbel.trans (hbel2.mono hsz)) nq2
                  have hown2 : (wr.drewN nq2).ownsRow w.heap.size 27 3 u7 (nrm tx (xs.take k)).length (flat (nrm tx (xs.take k))) := ownsRow_below HO.out (below_drewN hbel2 nq2) (Nat.le_refl _)
                  have HO2 : Hid ((wr.drewN nq2).ownsRow w.heap.size 27 3 u7 (nrm tx (xs.take k)).length (flat (nrm tx (xs.take k)))) := hown2
                  have HBR : Hid (Below w.heap.size w (wr.drewN nq2)) := hbelr
                  have hszr : w.heap.size ≤ wr.heap.size := hbelr.size
                  clear hown2 hbelr
                  by_cases hkeep : n < m ∨ 0 < s2.size
                  · have HS : Hid (nrm tx (xs.take (k + 1)) = nrm tx (xs.take k) ++ [⟨n, m, s2⟩]) := by
                      unfold Hid
                      rw [nrm_snoc_yes HE.out (by rw [HTE.out]; exact keepB_yes hkeep), HTE.out]
                    have hnews : ∀ j u, (flat [⟨n, m, s2⟩])[j]? = some u → ((wr.drewN nq2).alloc (.cells #[.int .i64 n, .int .i64 m, .string s2] 27)).cell? ((⟨wr.heap.size, 0, none⟩ : Addr).add j) = some u := cells_new (wr.drewN nq2) (flat [⟨n, m, s2⟩]) 27
                    have HNW : Hid (∀ j u, (flat [⟨n, m, s2⟩])[j]? = some u → ((wr.drewN nq2).alloc (.cells #[.int .i64 n, .int .i64 m, .string s2] 27)).cell? ((⟨wr.heap.size, 0, none⟩ : Addr).add j) = some u) := hnews
                    clear hnews
                    have hcase : (n : Int) < (m : Int) ∨ (decide (n < m) = false ∧ s2.toList.isEmpty = false) := by
                      by_cases hc : n < m
                      · exact .inl (by omega)
                      · exact .inr ⟨by simp; omega, isEmpty_no (by omega)⟩
                    clear hkeep
                    rcases hcase with g1 | ⟨g1, g2⟩
                    all_goals
                      go_wp2_with (at_builtin; (refine wpList_append_own _ rfl (.tmp 102) (.tmp 104) 22 rfl w.heap.size 27 i0 (.agg #[.int .i64 0, .int .i64 0, .string ⟨#[]⟩]) 3 32 Try.underlying22 hi hz0 hz1 hz2 rfl (by decide) _ _ _ rfl (HO2.out.alloc _) ⟨wr.heap.size, 0, none⟩ 1 1 (flat [⟨n, m, s2⟩]) rfl rfl HNW.out (flat_oneCell _) ?_ ?_ ?_ ?_))
                      case refine_1 => unfold maxLen; omega
                      case refine_2 => omega
                      case refine_3 => simp; omega
                      intro v4 w4 hown4 hgrow4 _
                      have hbel4 : Below w.heap.size w w4 := (HBR.out.alloc (by simpa using hszr) _).grown hgrow4 (by simp; omega) (fun k h => (hlt1.out k h).1)
                      rw [← flat_append, ← List.length_singleton (a := (⟨n, m, s2⟩ : Ed)), ← List.length_append, ← HS.out] at hown4
                      clear hgrow4 HO2 HBR HNW HO
                      go_wp2
                      go_roundg (xs.length - (k + 1))
                      case measure => omega
                      case rel => exact ⟨k + 1, rfl, by omega, by go_num, hbel4, hown4⟩
                  · have HS : Hid (nrm tx (xs.take (k + 1)) = nrm tx (xs.take k)) := nrm_snoc_no HE.out (by rw [HTE.out]; exact keepB_no hkeep)
                    have g1 : decide (n < m) = false := by simp; omega
                    have g2 : s2.toList.isEmpty = true := isEmpty_yes (by omega)
                    clear hkeep
                    go_wp2
                    go_roundg (xs.length - (k + 1))
                    case measure => omega
                    case rel => exact ⟨k + 1, rfl, by omega, by go_num, HBR.out, by rw [HS.out]; exact HO2.out⟩
    · have hke : k = xs.length := by omega
      subst hke
      rw [List.take_length] at HO
      go_wp2
      go_ret2
      exact ⟨_, rfl, HO.out, by (repeat (with_reducible refine below_drewN ?_ _)); go_grown⟩
end Go.Proofs.Ytclpodmgpfdleaa
