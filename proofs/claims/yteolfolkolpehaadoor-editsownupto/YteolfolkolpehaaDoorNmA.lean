import Derived.Test.YteolfolkolpehaaDoorNm
import Derived.Test.YteolfolkolpehaaDoorSh
import Derived.Test.YteolfolkolpehaaDoorCm3
import Derived.Test.YteolfolkolpehaaDoorClone
namespace Go.Proofs.YteolfolkolpehaaDoor
open Go.ChangeShapes Go.WideShapes Go.ChangeAt Go.RowKit
set_option linter.unusedVariables false

theorem trimmed_at (tx : ByteArray) (f t : Nat) (s : ByteArray) (E : Ed) (hE : trimE tx ⟨f, t, s⟩ = E) (w : World) (hft : f ≤ t) (ht : t ≤ tx.size) (hx : tx.size ≤ 140737488351232) (hs : s.size ≤ maxLen) :
    Calls Tryd.prog 49 #[.string tx, .agg #[.int .i64 f, .int .i64 t, .string s]] w fun e w' => e = .returned (.agg #[.int .i64 E.f, .int .i64 E.t, .string E.s]) ∧ Below w.heap.size w w' := by
  subst hE
  exact trimmed_any tx f t s w hft ht hx hs

set_option maxRecDepth 1000000 in
set_option maxHeartbeats 2000000 in
theorem normal_any (tx : ByteArray) (b o cap : Nat) (xs : List Ed) (w : World) (hx : tx.size ≤ 140737488351232) (h : Eds w b o xs) (hl : xs.length * 32 ≤ 140737488351232) (hF : ∀ e ∈ xs, EdFit e) (hv : vld tx.size xs = 0) :
    Calls Tryd.prog 24 #[.string tx, .slice (some ⟨b, o, none⟩) xs.length cap] w fun e w' => ∃ v, e = .returned (.tuple #[v, .int .i64 0]) ∧ w'.ownsRow w.heap.size 45 3 v (nrm tx xs).length (flat (nrm tx xs)) ∧ Below w.heap.size w w' := by
  obtain ⟨i0, hi, hz0, hz1, hz2⟩ := info_parts infoEd
  have HX : Hid (Eds w b o xs) := h
  have HF : Hid (∀ e ∈ xs, EdFit e) := hF
  have hbw : b < w.heap.size := h.1
  have HV : Hid (val62 tx.size xs = 0) := by unfold Hid val62; rw [if_pos (by omega)]; exact hv
  have HK : Hid (∀ e ∈ xs, 0 ≤ e.f ∧ e.f ≤ e.t ∧ e.t ≤ (tx.size : Int)) := chk_ok (vld_chk hv).1
  have HL : Hid (xs.length ≤ maxLen) := by unfold Hid maxLen; omega
  clear h hF hv
  go_enter Tryd.func24, Tryd.ntmps24
  go_wp2_with (first | (go_at_call 33; refine (valid_all tx.size _ cap xs _ (by omega) (by omega) (.inr ⟨b, o, rfl, HX.out⟩) HL.out).mono ?_; rintro e w1 ⟨rfl, hb1⟩; rw [HV.out]) | go_in)
  go_loopw [7, 19] (fun v i wr => ∃ k : Nat, k ≤ xs.length ∧ i = .int .i64 k ∧ Below w.heap.size w wr ∧ wr.ownsRow w.heap.size 45 3 v (nrm tx (xs.take k)).length (flat (nrm tx (xs.take k)))) (fun _ i _ => xs.length - (intOf i).toNat)
  case atStart => exact ⟨0, Nat.zero_le _, rfl, hb1, World.ownsRow_nil _ _ _ _⟩
  case round =>
    obtain ⟨k, hk, rfl, hbel, hown⟩ := hrel
    have hsz := hbel.size
    have hlen := nrm_len tx xs k
    have hlt1 : Hid (∀ k, u7.ownBlock = some k → w.heap.size ≤ k ∧ k < wr.heap.size) := hown.lt
    have HO : Hid (wr.ownsRow w.heap.size 45 3 u7 (nrm tx (xs.take k)).length (flat (nrm tx (xs.take k)))) := hown
    clear hown
    by_cases hlt : k < xs.length
    · obtain ⟨e, he⟩ : ∃ e, xs[k]? = some e := ⟨_, List.getElem?_eq_getElem hlt⟩
      obtain ⟨c0, c1, c2⟩ := HX.out.cells hbel he
      have hmem : e ∈ xs := List.mem_of_getElem? he
      have q4 := (HF.out e hmem).2.2.2.2
      obtain ⟨f, t, hee, hft, ht⟩ := nat_ed (HK.out e hmem)
      generalize e.s = s at *
      subst hee
      simp only at c0 c1 c2 q4
      obtain ⟨f', t', hE, hf1, hf2, hf3, hf4⟩ := trimE_fit tx f t s hft
      generalize (trimE tx ⟨f, t, s⟩).s = s' at *
      have HE : Hid (xs[k]? = some ⟨f, t, s⟩) := he
      have HT : Hid (trimE tx ⟨f, t, s⟩ = ⟨f', t', s'⟩) := hE
      clear he hmem hE
      by_cases hkeep : f' < t' ∨ 0 < s'.size
      · have HS : Hid (nrm tx (xs.take (k + 1)) = nrm tx (xs.take k) ++ [⟨f', t', s'⟩]) := by
          unfold Hid
          rw [nrm_snoc_yes HE.out (by rw [HT.out]; exact keepB_yes hkeep), HT.out]
        have hcase : (f' : Int) < (t' : Int) ∨ (decide (f' < t') = false ∧ s'.toList.isEmpty = false) := by
          by_cases hc : f' < t'
          · exact .inl (by omega)
          · exact .inr ⟨by simp; omega, isEmpty_no (by omega)⟩
        clear hkeep
        rcases hcase with g1 | ⟨g1, g2⟩
        all_goals
          go_wp2_with fail
          refine (trimmed_at tx f t s _ HT.out _ hft ht hx (by unfold maxLen; omega)).mono ?_
          rintro e w2 ⟨rfl, hb2⟩
          have hbx : Box w2 wr.heap.size f t s := (Box.new wr f t s).below hb2 (by simp)
          have HBX : Hid (Box w2 wr.heap.size f t s) := hbx
          have a0 := hbx.c0
          have a1 := hbx.c1
          have a2 := hbx.c2
          have b0 := hbx.free 0
          have b1 := hbx.free 1
          have b2 := hbx.free 2
          clear hbx
          go_wp2_with fail
          refine (clone_any s' _ (by omega)).mono ?_
          rintro e w3 ⟨rfl, hb3⟩
          have hb3' : Below w2.heap.size (((w2.setCell ⟨wr.heap.size, 0, none⟩ (.int .i64 f')).setCell ⟨wr.heap.size, 1, none⟩ (.int .i64 t')).setCell ⟨wr.heap.size, 2, none⟩ (.string s')) w3 := by simpa using hb3
          have hlt2 : wr.heap.size < w2.heap.size := HBX.out.lt
          have hbx3 : Box w3 wr.heap.size f' t' s' := (HBX.out.set3 f' t' s').below hb3' hlt2
          have HB3 : Hid (Box w3 wr.heap.size f' t' s') := hbx3
          clear a0 a1 a2 b0 b1 b2
          have a0 := hbx3.c0
          have a1 := hbx3.c1
          have a2 := hbx3.c2
          have b2 := hbx3.free 2
          clear hbx3
          have hown3 : (w3.setCell ⟨wr.heap.size, 2, none⟩ (.string s')).ownsRow w.heap.size 45 3 u7 (nrm tx (xs.take k)).length (flat (nrm tx (xs.take k))) := by
            have hne : ∀ k, u7.ownBlock = some k → k ≠ wr.heap.size := fun k hk => Nat.ne_of_lt (hlt1.out k hk).2
            have o1 := ownsRow_below (HO.out.alloc (.cells #[.int .i64 f, .int .i64 t, .string s] 45)) hb2 (Nat.le_refl _)
            have o2 := own_set3 o1 hne (.int .i64 f') (.int .i64 t') (.string s')
            have o3 := ownsRow_below o2 hb3' (by simp)
            exact ownsRow_setCell_other o3 (a := ⟨wr.heap.size, 2, none⟩) (fun h => hne _ h rfl) _
          have hbel3 : Below w.heap.size w (w3.setCell ⟨wr.heap.size, 2, none⟩ (.string s')) := by
            have e1 : Below w.heap.size w (wr.alloc (.cells #[.int .i64 f, .int .i64 t, .string s] 45)) := hbel.alloc hsz _
            have e2 : Below w.heap.size w w2 := e1.trans (hb2.mono (by simp; omega))
            exact ((((e2.setCell (p := ⟨wr.heap.size, 0, none⟩) hsz _).setCell (p := ⟨wr.heap.size, 1, none⟩) hsz _).setCell (p := ⟨wr.heap.size, 2, none⟩) hsz _).trans (hb3'.mono (by omega))).setCell (p := ⟨wr.heap.size, 2, none⟩) hsz _
          have HO3 : Hid ((w3.setCell ⟨wr.heap.size, 2, none⟩ (.string s')).ownsRow w.heap.size 45 3 u7 (nrm tx (xs.take k)).length (flat (nrm tx (xs.take k)))) := hown3
          have HB4 : Hid (Below w.heap.size w (w3.setCell ⟨wr.heap.size, 2, none⟩ (.string s'))) := hbel3
          have hsz3 : w.heap.size ≤ w3.heap.size := by have := hbel3.size; simpa using this
          clear hown3 hbel3 hb3 hb3' hb2
          have hnews : ∀ j u, (flat [⟨f', t', s'⟩])[j]? = some u → ((w3.setCell ⟨wr.heap.size, 2, none⟩ (.string s')).alloc (.cells #[.int .i64 f', .int .i64 t', .string s'] 45)).cell? ((⟨w3.heap.size, 0, none⟩ : Addr).add j) = some u := by
            have := cells_new (w3.setCell ⟨wr.heap.size, 2, none⟩ (.string s')) (flat [⟨f', t', s'⟩]) 45
            rw [World.size_setCell] at this
            exact this
          have HNW : Hid (∀ j u, (flat [⟨f', t', s'⟩])[j]? = some u → ((w3.setCell ⟨wr.heap.size, 2, none⟩ (.string s')).alloc (.cells #[.int .i64 f', .int .i64 t', .string s'] 45)).cell? ((⟨w3.heap.size, 0, none⟩ : Addr).add j) = some u) := hnews
          clear hnews
          go_wp2_with (at_builtin; (refine wpList_append_own _ rfl (.tmp 40) (.tmp 42) 22 rfl w.heap.size 45 i0 (.agg #[.int .i64 0, .int .i64 0, .string ⟨#[]⟩]) 3 32 Tryd.underlying22 hi hz0 hz1 hz2 rfl (by decide) _ _ _ rfl (HO3.out.alloc _) ⟨w3.heap.size, 0, none⟩ 1 1 (flat [⟨f', t', s'⟩]) rfl rfl HNW.out (flat_oneCell _) ?_ ?_ ?_ ?_))
          case refine_1 => unfold maxLen; omega
          case refine_2 => omega
          case refine_3 => simp; omega
          intro v4 w4 hown4 hgrow4 _
          have hbel4 : Below w.heap.size w w4 := (HB4.out.alloc (by simpa using hsz3) _).grown hgrow4 (by simp; omega) (fun k h => (hlt1.out k h).1)
          rw [← flat_append, ← List.length_singleton (a := (⟨f', t', s'⟩ : Ed)), ← List.length_append, ← HS.out] at hown4
          clear hgrow4 HO3 HB4 HNW HO
          go_wp2
          go_roundw
          case rel => exact ⟨k + 1, by omega, by go_num, hbel4, hown4⟩
          case measure => simp [intOf]; omega
      · have HS : Hid (nrm tx (xs.take (k + 1)) = nrm tx (xs.take k)) := nrm_snoc_no HE.out (by rw [HT.out]; exact keepB_no hkeep)
        have g1 : decide (f' < t') = false := by simp; omega
        have g2 : s'.toList.isEmpty = true := isEmpty_yes (by omega)
        clear hkeep
        go_wp2_with fail
        refine (trimmed_at tx f t s _ HT.out _ hft ht hx (by unfold maxLen; omega)).mono ?_
        rintro e w2 ⟨rfl, hb2⟩
        have hbx : Box w2 wr.heap.size f t s := (Box.new wr f t s).below hb2 (by simp)
        have a0 := hbx.c0
        have a1 := hbx.c1
        have a2 := hbx.c2
        have b0 := hbx.free 0
        have b1 := hbx.free 1
        have b2 := hbx.free 2
        clear hbx
        have hown3 : Hid ((((w2.setCell ⟨wr.heap.size, 0, none⟩ (.int .i64 f')).setCell ⟨wr.heap.size, 1, none⟩ (.int .i64 t')).setCell ⟨wr.heap.size, 2, none⟩ (.string s')).ownsRow w.heap.size 45 3 u7 (nrm tx (xs.take (k + 1))).length (flat (nrm tx (xs.take (k + 1))))) := by
          have hne : ∀ k, u7.ownBlock = some k → k ≠ wr.heap.size := fun k hk => Nat.ne_of_lt (hlt1.out k hk).2
          have o1 := ownsRow_below (HO.out.alloc (.cells #[.int .i64 f, .int .i64 t, .string s] 45)) hb2 (Nat.le_refl _)
          unfold Hid
          rw [HS.out]
          exact own_set3 o1 hne (.int .i64 f') (.int .i64 t') (.string s')
        have hbel3 : Hid (Below w.heap.size w (((w2.setCell ⟨wr.heap.size, 0, none⟩ (.int .i64 f')).setCell ⟨wr.heap.size, 1, none⟩ (.int .i64 t')).setCell ⟨wr.heap.size, 2, none⟩ (.string s'))) := by
          have e1 : Below w.heap.size w (wr.alloc (.cells #[.int .i64 f, .int .i64 t, .string s] 45)) := hbel.alloc hsz _
          have e2 : Below w.heap.size w w2 := e1.trans (hb2.mono (by simp; omega))
          exact ((e2.setCell (p := ⟨wr.heap.size, 0, none⟩) hsz _).setCell (p := ⟨wr.heap.size, 1, none⟩) hsz _).setCell (p := ⟨wr.heap.size, 2, none⟩) hsz _
        clear hb2
        go_wp2
        go_roundw
        case rel => exact ⟨k + 1, by omega, by go_num, hbel3.out, hown3.out⟩
        case measure => simp [intOf]; omega
    · have hke : k = xs.length := by omega
      subst hke
      rw [List.take_length] at HO
      go_wp2
      go_ret2
      exact ⟨_, rfl, HO.out, by (repeat (with_reducible refine below_drewN ?_ _)); go_grown⟩
end Go.Proofs.YteolfolkolpehaaDoor

namespace Go.Proofs.YteolfolkolpehaaDoor
open Go.ChangeShapes Go.WideShapes Go.ChangeAt Go.RowKit
set_option linter.unusedVariables false

def nrmA (tx : ByteArray) (xs : List Ed) : List Ed := if vld tx.size xs = 0 then nrm tx xs else []

set_option maxHeartbeats 800000 in
theorem normal_all (tx : ByteArray) (a : Option Addr) (cap : Nat) (xs : List Ed) (w : World) (hx : tx.size ≤ 140737488351232) (h : EdsA w a xs) (hl : xs.length * 32 ≤ 140737488351232) (hF : ∀ e ∈ xs, EdFit e) :
    Calls Tryd.prog 24 #[.string tx, .slice a xs.length cap] w fun e w' => ∃ a' cap', e = .returned (.tuple #[.slice a' (nrmA tx xs).length cap', .int .i64 (vld tx.size xs)]) ∧ EdsA w' a' (nrmA tx xs) ∧ (a' = none → (nrmA tx xs).length = 0 ∧ cap' = 0) ∧ Below w.heap.size w w' := by
  have HL : Hid (xs.length ≤ maxLen) := by unfold Hid maxLen; omega
  by_cases hv : vld tx.size xs = 0
  · have hN : nrmA tx xs = nrm tx xs := by unfold nrmA; rw [if_pos hv]
    rw [hN, hv]
    rcases h with rfl | ⟨b, o, rfl, h⟩
    · rw [List.length_nil]
      go_enter Tryd.func24, Tryd.ntmps24
      go_wp2_with (first | (go_at_call 33; refine (valid_all tx.size a cap [] _ (by omega) (by omega) (.inl rfl) HL.out).mono ?_; rintro e w1 ⟨rfl, hb1⟩; rw [show val62 (tx.size : Int) [] = 0 from by unfold val62; rw [if_pos (by omega)]; rfl]) | go_in)
      refine wp_loop_rounds 1 ?_
      rw [rounds_succ]
      go_wp2
      go_ret2
      exact ⟨none, 0, rfl, .inl rfl, fun _ => ⟨rfl, rfl⟩, hb1⟩
    · refine (normal_any tx b o cap xs w hx h hl hF hv).mono ?_
      rintro e w' ⟨v, rfl, hown, hb⟩
      obtain ⟨a', cap', rfl, hE, _, hn⟩ := own_form hown
      exact ⟨a', cap', rfl, hE, hn, hb⟩
  · have hN : nrmA tx xs = [] := by unfold nrmA; rw [if_neg hv]
    rw [hN]
    have H : Hid (EdsA w a xs) := h
    have HV : Hid (val62 tx.size xs = vld tx.size xs) := by unfold Hid val62; rw [if_pos (by omega)]
    have HW : Hid ((vld tx.size xs != 0) = true) := by unfold Hid; simpa using hv
    clear h hv
    go_enter Tryd.func24, Tryd.ntmps24
    go_wp2_with (first | (go_at_call 33; refine (valid_all tx.size a cap xs _ (by omega) (by omega) H.out HL.out).mono ?_; rintro e w1 ⟨rfl, hb1⟩; rw [HV.out]; have hne := HW.out) | go_in)
    go_ret2
    exact ⟨none, 0, rfl, .inl rfl, by simp, hb1⟩

end Go.Proofs.YteolfolkolpehaaDoor
