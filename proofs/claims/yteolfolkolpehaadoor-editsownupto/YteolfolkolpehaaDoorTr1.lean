import Derived.Test.YteolfolkolpehaaDoorTrim
namespace Go.Proofs.YteolfolkolpehaaDoor
open Go.ChangeShapes Go.WideShapes Go.ChangeAt Go.RowKit
set_option linter.unusedVariables false

set_option maxHeartbeats 4000000 in
theorem trimmed_any (tx : ByteArray) (f t : Nat) (s : ByteArray) (w : World) (hft : f ≤ t) (ht : t ≤ tx.size) (hx : tx.size ≤ 140737488351232) (hs : s.size ≤ maxLen) :
    Calls Tryd.prog 49 #[.string tx, .agg #[.int .i64 f, .int .i64 t, .string s]] w fun e w' => e = .returned (.agg #[.int .i64 (trimE tx ⟨f, t, s⟩).f, .int .i64 (trimE tx ⟨f, t, s⟩).t, .string (trimE tx ⟨f, t, s⟩).s]) ∧ Below w.heap.size w w' := by
  unfold maxLen at hs
  go_enter Tryd.func49, Tryd.ntmps49
  go_wp2
  go_loopg [] (t - f) (fun gk wr => ∃ (n : Nat) (s1 : ByteArray), gk = t - n ∧ f ≤ n ∧ n ≤ t ∧ s1.size ≤ s.size ∧ Below w.heap.size w wr ∧ w.heap.size + 1 < wr.heap.size ∧ Box wr w.heap.size n t s1 ∧ Box wr (w.heap.size + 1) 0 0 ⟨#[]⟩ ∧ trimL tx.data.toList t f s.data.toList = trimL tx.data.toList t n s1.data.toList)
  case atStart => exact ⟨f, s, rfl, Nat.le_refl _, hft, Nat.le_refl _, by go_grown, by simp, (Box.new w f t s).alloc _, by simpa using Box.new (w.alloc (.cells #[.int .i64 f, .int .i64 t, .string s] 45)) 0 0 ⟨#[]⟩, rfl⟩
  case round =>
    obtain ⟨n, s1, rfl, h1, h2, h3, hbel, hsz, hbox, hres, hc⟩ := hrel
    have HB : Hid (Box wr w.heap.size n t s1) := hbox
    have HR : Hid (Box wr (w.heap.size + 1) 0 0 ⟨#[]⟩) := hres
    have HC : Hid (trimL tx.data.toList t f s.data.toList = trimL tx.data.toList t n s1.data.toList) := hc
    have c0 := hbox.c0
    have c1 := hbox.c1
    have c2 := hbox.c2
    have f0 := hbox.free 0
    have f1 := hbox.free 1
    have f2 := hbox.free 2
    clear hbox hres hc
    by_cases hgo : ∃ (h1 : n < t) (h2 : 0 < s1.size), (tx[n]'(by omega)) = s1[0]
    · obtain ⟨hlt, hs1, hq⟩ := hgo
      have HS : Hid (trimL tx.data.toList t f s.data.toList = trimL tx.data.toList t (n + 1) (s1.extract 1 s1.size).data.toList) := HC.out.trans (trimL_step hlt ht hs1 hq)
      have he' := isEmpty_no hs1
      have hlt' : (n : Int) < (t : Int) := by omega
      have hn : (n : Int) < (tx.size : Int) := by omega
      go_wp2
      go_quiet (fail)
      go_wp2
      go_roundg (t - (n + 1))
      case measure => omega
      case rel => exact ⟨n + 1, s1.extract 1 s1.size, rfl, by omega, by omega, by simp; omega, by have := below_drewN hbel nq; go_grown, by simp; omega, ((HB.out.drewN nq).set0 (n + 1)).set2 _, (heap_setCell_other _ _ _ _ (by simp)).trans ((heap_setCell_other _ _ _ _ (by simp)).trans (HR.out.drewN nq)), HS.out⟩
    · have hstop : ¬ n < t ∨ s1.size = 0 ∨ ∃ (h1 : n < t) (h2 : 0 < s1.size), (tx[n]'(by omega)) ≠ s1[0] := by
        by_cases g1 : n < t
        · by_cases g2 : s1.size = 0
          · exact .inr (.inl g2)
          · exact .inr (.inr ⟨g1, by omega, fun h => hgo ⟨g1, by omega, h⟩⟩)
        · exact .inl g1
      have HT : Hid (trimL tx.data.toList t f s.data.toList = (n, s1.data.toList)) := HC.out.trans (trimL_stop ht hstop)
      clear HC hgo
      have hcase : (decide (n < t) = false) ∨ (n < t ∧ s1.toList.isEmpty = true) ∨ (n < t ∧ s1.toList.isEmpty = false ∧ ∃ (g1 : n < tx.size) (g2 : 0 < s1.size), ((tx[n].toNat : Int) == (s1[0].toNat : Int)) = false) := by
        rcases hstop with g | g | ⟨g1, g2, g3⟩
        · exact .inl (by simpa using g)
        · by_cases g1 : n < t
          · exact .inr (.inl ⟨g1, isEmpty_yes g⟩)
          · exact .inl (by simpa using g1)
        · exact .inr (.inr ⟨g1, isEmpty_no g2, by omega, g2, byte_ne g3⟩)
      clear hstop
      rcases hcase with g1 | ⟨g1, g2⟩ | ⟨g1, g2, g3, g4, g5⟩
      all_goals
        go_wp2
        go_quiet (fail)
        go_wp2
        clear c0 c1 c2 f0 f1 f2
        go_loopg [] (t - n) (fun gk wr2 => ∃ (m : Nat) (s2 : ByteArray), gk = m - n ∧ n ≤ m ∧ m ≤ t ∧ s2.size ≤ s.size ∧ Below w.heap.size w wr2 ∧ w.heap.size + 1 < wr2.heap.size ∧ Box wr2 w.heap.size n m s2 ∧ Box wr2 (w.heap.size + 1) 0 0 ⟨#[]⟩ ∧ trimR tx.data.toList n t s1.data.toList.reverse = trimR tx.data.toList n m s2.data.toList.reverse)
        case atStart => exact ⟨t, s1, rfl, h2, Nat.le_refl _, h3, below_drewN hbel _, hsz, HB.out.drewN _, HR.out.drewN _, rfl⟩
        case round =>
          clear HB HR hbel hsz
          obtain ⟨m, s2, rfl, k1, k2, k3, hbel, hsz, hbox, hres, hc⟩ := hrel
          have HB : Hid (Box wr w.heap.size n m s2) := hbox
          have HR : Hid (Box wr (w.heap.size + 1) 0 0 ⟨#[]⟩) := hres
          have HC : Hid (trimR tx.data.toList n t s1.data.toList.reverse = trimR tx.data.toList n m s2.data.toList.reverse) := hc
          have c0 := hbox.c0
          have c1 := hbox.c1
          have c2 := hbox.c2
          have f0 := hbox.free 0
          have f1 := hbox.free 1
          have f2 := hbox.free 2
          have r0 := hres.free 0
          have r1 := hres.free 1
          have r2 := hres.free 2
          have d0 := hres.c0
          have d1 := hres.c1
          have d2 := hres.c2
          clear hbox hres hc
          by_cases hgo : ∃ (h1 : n < m) (h2 : 0 < s2.size), (tx[m - 1]'(by omega)) = s2[s2.size - 1]'(by omega)
          · obtain ⟨hlt, hs2, hq⟩ := hgo
            have HS : Hid (trimR tx.data.toList n t s1.data.toList.reverse = trimR tx.data.toList n (m - 1) (s2.extract 0 (s2.size - 1)).data.toList.reverse) := HC.out.trans (trimR_step hlt (by omega) hs2 hq)
            have he' := isEmpty_no hs2
            have hlt' : (n : Int) < (m : Int) := by omega
            have e1 : IntKind.i64.wrap ((m : Int) - 1) = ((m - 1 : Nat) : Int) := by rw [IntWalk.i64_in _ ⟨by omega, by omega⟩]; omega
            have e2 : IntKind.i64.wrap ((s2.size : Int) - 1) = ((s2.size - 1 : Nat) : Int) := by rw [IntWalk.i64_in _ ⟨by omega, by omega⟩]; omega
            have n1 : m - 1 < tx.size := by omega
            have n2 : s2.size - 1 < s2.size := by omega
            go_wp2
            go_quiet (fail)
            go_wp2
            go_roundg (m - 1 - n)
            case measure => omega
            case rel => exact ⟨m - 1, s2.extract 0 (s2.size - 1), rfl, by omega, by omega, by simp; omega, by have := below_drewN hbel nq; go_grown, by simp; omega, ((HB.out.drewN nq).set1 _).set2 _, (heap_setCell_other _ _ _ _ (by simp)).trans ((heap_setCell_other _ _ _ _ (by simp)).trans (HR.out.drewN nq)), HS.out⟩
          · have hstop : ¬ n < m ∨ s2.size = 0 ∨ ∃ (h1 : n < m) (h2 : 0 < s2.size), (tx[m - 1]'(by omega)) ≠ s2[s2.size - 1]'(by omega) := by
              by_cases j1 : n < m
              · by_cases j2 : s2.size = 0
                · exact .inr (.inl j2)
                · exact .inr (.inr ⟨j1, by omega, fun h => hgo ⟨j1, by omega, h⟩⟩)
              · exact .inl j1
            have HE : Hid (trimE tx ⟨f, t, s⟩ = ⟨n, m, s2⟩) := trimE_of HT.out (HC.out.trans (trimR_stop (by omega) hstop))
            clear HC hgo
            have hcase : (decide (n < m) = false) ∨ (n < m ∧ s2.toList.isEmpty = true) ∨ (n < m ∧ s2.toList.isEmpty = false ∧ ∃ (j1 : m - 1 < tx.size) (j2 : s2.size - 1 < s2.size), ((tx[m - 1].toNat : Int) == (s2[s2.size - 1].toNat : Int)) = false) := by
              rcases hstop with g | g | ⟨g1, g2, g3⟩
              · exact .inl (by simpa using g)
              · by_cases g1 : n < m
                · exact .inr (.inl ⟨g1, isEmpty_yes g⟩)
                · exact .inl (by simpa using g1)
              · exact .inr (.inr ⟨g1, isEmpty_no g2, by omega, by omega, byte_ne g3⟩)
            have e1 : 0 < m → IntKind.i64.wrap ((m : Int) - 1) = ((m - 1 : Nat) : Int) := fun hm => by rw [IntWalk.i64_in _ ⟨by omega, by omega⟩]; omega
            have e2 : 0 < s2.size → IntKind.i64.wrap ((s2.size : Int) - 1) = ((s2.size - 1 : Nat) : Int) := fun hm => by rw [IntWalk.i64_in _ ⟨by omega, by omega⟩]; omega
            clear hstop
            rcases hcase with j1 | ⟨j1, j2⟩ | ⟨j1, j2, j3, j4, j5⟩
            · clear e1 e2
              go_wp2
              go_quiet (fail)
              go_wp2
              refine bodyPost_ret (v := .agg #[.int .i64 n, .int .i64 m, .string s2]) (by simp [results, Tryd.results49, go_sem, d0, d1, d2]) rfl ⟨by rw [HE.out], ?_⟩
              have := below_drewN hbel nq; go_grown
            · clear e1 e2
              go_wp2
              go_quiet (fail)
              go_wp2
              refine bodyPost_ret (v := .agg #[.int .i64 n, .int .i64 m, .string s2]) (by simp [results, Tryd.results49, go_sem, d0, d1, d2]) rfl ⟨by rw [HE.out], ?_⟩
              have := below_drewN hbel nq; go_grown
            · have e3 := e1 (by omega)
              have e4 := e2 (by omega)
              clear e1 e2
              go_wp2
              go_quiet (fail)
              go_wp2
              refine bodyPost_ret (v := .agg #[.int .i64 n, .int .i64 m, .string s2]) (by simp [results, Tryd.results49, go_sem, d0, d1, d2]) rfl ⟨by rw [HE.out], ?_⟩
              have := below_drewN hbel nq; go_grown
end Go.Proofs.YteolfolkolpehaaDoor
