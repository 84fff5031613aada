import Derived.Test.YtkfdlccacddbfaaGr4
import Derived.Laws.EntriesVeiled
namespace Go.Proofs.Ytkfdlccacddbfaa
open Go.ChangeShapes Go.WideShapes Go.ChangeAt Go.RowKit
set_option linter.unusedVariables false
set_option linter.unusedSimpArgs false

set_option maxRecDepth 1000000 in
theorem walkerC_any (B gV n bf bl : Nat) (w0 w : World) (rs : List Rr) (hn : n ≤ 131072) (hL : Lv B gV n w0 w rs) :
    Calls Try.prog 14 #[.slice (some ⟨gV, 0, none⟩) n n, .func (.func 23) #[] #[.pointer (some ⟨bf, 0, none⟩), .pointer (some ⟨bl, 0, none⟩)]] w fun e w' => ∃ bm bn bk bt gm, e = .returned (.func (.func 26) #[] #[.pointer (some ⟨bm, 0, none⟩), .pointer (some ⟨bn, 0, none⟩), .pointer (some ⟨bk, 0, none⟩), .pointer (some ⟨bt, 0, none⟩)]) ∧ Wc B bm bn bk bt gm gV n (.func (.func 23) #[] #[.pointer (some ⟨bf, 0, none⟩), .pointer (some ⟨bl, 0, none⟩)]) w0 rs (List.replicate n false) w' ∧ Below w.heap.size w w' := by
  obtain ⟨i0, hi, hz0, hz1, hz2⟩ := info_parts infoBool
  have hmf : ∀ (fn : Fn) (first cap : Array Value) (w : World), (Instr.makeFunc fn first cap).run Try.prog w = .ok (.func fn first cap) w := fun _ _ _ _ => rfl
  have HL : Hid (Lv B gV n w0 w rs) := hL
  obtain ⟨s, hs⟩ : ∃ s, w.heap.size = s := ⟨_, rfl⟩
  obtain ⟨w1, e1, hb1, hs1, B1⟩ := bx1 w #[.slice (some ⟨gV, 0, none⟩) n n] 40
  obtain ⟨w2, e2, hb2, hs2, B2⟩ := bx1 w1 #[.func (.func 23) #[] #[.pointer (some ⟨bf, 0, none⟩), .pointer (some ⟨bl, 0, none⟩)]] 38
  rw [hs] at B1 hs1
  rw [hs1] at B2 hs2
  have L2 : Hid (Lv B gV n w0 w2 rs) := (hL.below hb1).below hb2
  have X2 : Hid (Bx w2 s #[.slice (some ⟨gV, 0, none⟩) n n] 40 ∧ Bx w2 (s + 1) #[.func (.func 23) #[] #[.pointer (some ⟨bf, 0, none⟩), .pointer (some ⟨bl, 0, none⟩)]] 38 ∧ w2.heap.size = s + 2) := ⟨B1.below hb2 (by omega), B2, hs2⟩
  have HB2 : Hid (Below w.heap.size w w2) := hb1.trans (hb2.mono (by omega))
  have c1 := X2.out.1.one
  have HE1 : Hid (w.alloc (.cells #[.slice (some ⟨gV, 0, none⟩) n n] 40) = w1) := e1
  have HE2 : Hid (w1.alloc (.cells #[.func (.func 23) #[] #[.pointer (some ⟨bf, 0, none⟩), .pointer (some ⟨bl, 0, none⟩)]] 38) = w2) := e2
  clear hL hb1 hb2 B1 B2 hs1 hs2 e1 e2
  go_enter Try.func14, Try.ntmps14
  go_upto_region 1 with fail
  rw [HE1.out, HE2.out]
  go_wp2_with (at_make; refine wpList_make_full _ rfl _ _ 43 rfl B 4 i0 (.bool false) 1 Try.underlying43 hi hz0 hz1 _ _ _ _ n rfl rfl rfl rfl (by rw [hz2]; omega) (by unfold maxLen; omega) L2.out.base ?_; intro w3 hown3 hgr3; have L3 : Hid (Lv B gV n w0 w3 rs) := L2.out.below ((Below.refl _ _).grown hgr3 (Nat.le_refl _) (fun k h => by cases h)); have B3 : Hid (Below w2.heap.size w2 w3) := (Below.refl _ _).grown hgr3 (Nat.le_refl _) (fun k h => by cases h); have O3 : Hid (w3.ownsRow B 4 1 (.slice (some ⟨w2.heap.size, 0, none⟩) n n) n (List.replicate n (.bool false))) := (by have h9 := rep_made (.bool false) n; rw [show (Value.bool false).cells = #[.bool false] by rfl] at hown3; rw [h9] at hown3; exact hown3); clear hgr3 hown3)
  go_ret
  obtain ⟨w4, e4, hb4, hs4, B4⟩ := bx1 w3 #[.slice (some ⟨w2.heap.size, 0, none⟩) n n] 43
  obtain ⟨w5, e5, hb5, hs5, B5⟩ := bx1 w4 #[.func (.func 26) #[] #[.pointer (some ⟨w3.heap.size, 0, none⟩), .pointer (some ⟨s, 0, none⟩), .pointer (some ⟨w3.heap.size + 1, 0, none⟩), .pointer (some ⟨s + 1, 0, none⟩)]] 38
  rw [hs4] at B5
  rw [e4, e5]
  have hb45 : Below w3.heap.size w3 w5 := hb4.trans (hb5.mono (by omega))
  have hb25 : Below w2.heap.size w2 w5 := B3.out.trans (hb45.mono B3.out.size)
  have hw2 := X2.out.2.2
  refine ⟨w3.heap.size, s, w3.heap.size + 1, s + 1, w2.heap.size, rfl, ⟨L3.out.below hb45, ?_, B4.below hb5 (by omega), X2.out.1.below hb25 (by omega), B5, X2.out.2.1.below hb25 (by omega)⟩, HB2.out.trans (hb25.mono (by omega))⟩
  have h9 := ownsRow_below O3.out hb45 (Nat.le_refl _)
  rw [List.map_replicate]
  exact h9
end Go.Proofs.Ytkfdlccacddbfaa
