import Derived.Test.YthdfccdkomfikaaGreatDoorRlH
import Derived.Test.YthdfccdkomfikaaGreatDoorSmT
import Derived.Test.YthdfccdkomfikaaGreatDoorFirstB
namespace Go.Proofs.YthdfccdkomfikaaGreatDoor
open Go.ChangeShapes Go.WideShapes Go.ChangeAt Go.RowKit
set_option linter.unusedVariables false
set_option linter.unusedSimpArgs false

/-- the reference's Scan of a text with a fault -/
theorem rscan_no {s : ByteArray} (hs : s.size ≤ 4294967280) {y z : Nat} (hc : (cut s 0).2 = some (y, z)) (w : World) (hT : Lt w) :
    Calls Tryz.prog 11 #[.string s] w fun e w' => e = .returned (.tuple #[.slice none 0 0, .int .i64 (y : Int), .int .i64 (z : Int)]) ∧ Below w.heap.size w w' := by
  refine (rScan_any s hs w hT).mono fun e w' h => ?_
  unfold RsE at h
  rw [hc] at h
  exact ⟨h.2, h.1⟩
/-- .. and of one without -/
theorem rscan_ok {s : ByteArray} (hs : s.size ≤ 4294967280) (hc : (cut s 0).2 = none) (w : World) (hT : Lt w) :
    Calls Tryz.prog 11 #[.string s] w fun e w' => ∃ a c, e = .returned (.tuple #[.slice a (wau s (cut s 0).1).length c, .int .i64 0, .int .i64 0]) ∧ LiesA w' a (wau s (cut s 0).1) ∧ (wau s (cut s 0).1).length ≤ c ∧ Below w.heap.size w w' := by
  refine (rScan_any s hs w hT).mono fun e w' h => ?_
  unfold RsE at h
  rw [hc] at h
  obtain ⟨hb, v, he, ho⟩ := h
  obtain ⟨a, c, rfl, hl, -, hn⟩ := own_form ho
  refine ⟨a, c, he, hl, ?_, hb⟩
  rcases ho.2 with ⟨h1, h2⟩ | ⟨g, cap, cur, hv, hg, hh, hcap, -⟩
  · omega
  · cases hv; exact hcap
theorem wau_len (s : ByteArray) : ∀ l, (wau s l).length ≤ 2 * l.length
  | [] => by simp [wau]
  | q :: r => by
    have := wau_len s r
    rw [wau]
    split <;> simp <;> omega
theorem wau_max {s : ByteArray} (hs : s.size ≤ 4294967280) : (wau s (cut s 0).1).length ≤ 8589934560 := by
  have h1 := wau_len s (cut s 0).1
  have h2 := (cut_all s s.size 0 (by omega)).2
  omega

set_option maxRecDepth 1000000 in
set_option maxHeartbeats 8000000 in
theorem lexerScans_walk (s : ByteArray) (hB : s.size ≤ 1048576) (w : World) (hS : Spl w) (hT : Lt w) (hM : MaxL w) :
    Calls Tryz.prog 4 #[.string s] w fun e w' => e = .returned (.bool true) ∧ Below w.heap.size w w' := by
  have hs : s.size ≤ 4294967280 := by omega
  have HT : Hid (∀ v, Below w.heap.size w v → Lt v) := fun v hv => hT.below hv
  cases hC : (cut s 0).2 with
  | none =>
    have hmx := wau_max hs
    obtain ⟨L, hL⟩ : ∃ L, wau s (cut s 0).1 = L := ⟨_, rfl⟩
    have HS1 : Hid (Calls Tryz.prog 6 #[.string s] w fun e w' => ∃ a c, e = .returned (.tuple #[.slice a L.length c, .agg #[.int .i64 0, .int .i64 0, .int .i64 0]]) ∧ LiesA w' a L ∧ L.length ≤ c ∧ (a = none → c = 0) ∧ Below w.heap.size w w') := by rw [← hL]; exact scan_ok hs hC w hS hT hM
    have HR1 : Hid (∀ v, Below w.heap.size w v → Calls Tryz.prog 11 #[.string s] v fun e w' => ∃ a c, e = .returned (.tuple #[.slice a L.length c, .int .i64 0, .int .i64 0]) ∧ LiesA w' a L ∧ L.length ≤ c ∧ Below v.heap.size v w') := fun v hv => by rw [← hL]; exact rscan_ok hs hC v (HT.out v hv)
    rw [hL] at hmx
    have HSM : Hid (∀ a1 c1 a2 c2 v, LiesA v a1 L → LiesA v a2 L → Calls Tryz.prog 12 #[.slice a1 L.length c1, .slice a2 L.length c2] v fun e w' => e = .returned (.bool true) ∧ Below v.heap.size v w') := fun a1 c1 a2 c2 v h1 h2 => same_tokens a1 a2 c1 c2 L v h1 h2 (by unfold maxLen; omega)
    clear hC hS hT hM hL
    go_enter Tryz.func4, Tryz.ntmps4
    go_wp2_with (first
      | (go_at_call 6; (with_reducible refine HS1.out.mono ?_); rintro e w3 ⟨a3, c3, rfl, hl3, -, -, hb3⟩; have HB3 : Hid (Below w.heap.size w w3) := hb3; have HL3 : Hid (LiesA w3 a3 L) := hl3; clear hb3 hl3)
      | (go_at_call 11; (with_reducible refine (HR1.out _ (HB3.out.alloc HB3.out.size _)).mono ?_); rintro e w4 ⟨a4, c4, rfl, hl4, -, hb4⟩; have HB4 : Hid (Below w.heap.size w w4) := (HB3.out.alloc HB3.out.size _).trans (hb4.mono (by have := HB3.out.size; simp; omega)); have X4 := (Bx.new w3 _ _).below hb4 (Bx.new w3 _ _).lt; have HX4 := hid_of X4; have HL4 : Hid (LiesA w4 a4 L) := hl4; have HM4 : Hid (LiesA w4 a3 L) := (HL3.out.below ((Below.refl _ _).alloc (Nat.le_refl _) _)).below hb4; clear hb4 X4 hl4)
      | (go_at_call 12; (with_reducible refine (HSM.out a3 c3 a4 c4 w4 HM4.out HL4.out).mono ?_); rintro e w5 ⟨rfl, hb5⟩; have HB5 : Hid (Below w.heap.size w w5) := HB4.out.trans (hb5.mono HB4.out.size); have X5 := HX4.out.below hb5 HX4.out.lt; have k0 := X5.cell 0; have k1 := X5.cell 1; have k2 := X5.cell 2; have kz := X5.lt; simp at k0 k1 k2; clear hb5 X5))
    go_ret
    exact ⟨rfl, HB5.out⟩
  | some yz =>
    obtain ⟨y, z⟩ := yz
    have HS1 : Hid (Calls Tryz.prog 6 #[.string s] w fun e w' => e = .returned (.tuple #[.slice none 0 0, .agg #[.int .i64 (y : Int), .int .i64 0, .int .i64 (z : Int)]]) ∧ Below w.heap.size w w') := scan_no hs hC w hS hT hM
    have HR1 : Hid (∀ v, Below w.heap.size w v → Calls Tryz.prog 11 #[.string s] v fun e w' => e = .returned (.tuple #[.slice none 0 0, .int .i64 (y : Int), .int .i64 (z : Int)]) ∧ Below v.heap.size v w') := fun v hv => rscan_no hs hC v (HT.out v hv)
    have HSM : Hid (∀ v, Calls Tryz.prog 12 #[.slice none 0 0, .slice none 0 0] v fun e w' => e = .returned (.bool true) ∧ Below v.heap.size v w') := fun v => same_tokens none none 0 0 [] v (.inl rfl) (.inl rfl) (by simp)
    clear hC hS hT hM
    go_enter Tryz.func4, Tryz.ntmps4
    go_wp2_with (first
      | (go_at_call 6; (with_reducible refine HS1.out.mono ?_); rintro e w3 ⟨rfl, hb3⟩; have HB3 : Hid (Below w.heap.size w w3) := hb3; clear hb3)
      | (go_at_call 11; (with_reducible refine (HR1.out _ (HB3.out.alloc HB3.out.size _)).mono ?_); rintro e w4 ⟨rfl, hb4⟩; have HB4 : Hid (Below w.heap.size w w4) := (HB3.out.alloc HB3.out.size _).trans (hb4.mono (by have := HB3.out.size; simp; omega)); have X4 := (Bx.new w3 _ _).below hb4 (Bx.new w3 _ _).lt; have HX4 := hid_of X4; clear hb4 X4)
      | (go_at_call 12; (with_reducible refine (HSM.out w4).mono ?_); rintro e w5 ⟨rfl, hb5⟩; have HB5 : Hid (Below w.heap.size w w5) := HB4.out.trans (hb5.mono HB4.out.size); have X5 := HX4.out.below hb5 HX4.out.lt; have k0 := X5.cell 0; have k1 := X5.cell 1; have k2 := X5.cell 2; have kz := X5.lt; simp at k0 k1 k2; clear hb5 X5))
    go_ret
    exact ⟨rfl, HB5.out⟩
end Go.Proofs.YthdfccdkomfikaaGreatDoor
