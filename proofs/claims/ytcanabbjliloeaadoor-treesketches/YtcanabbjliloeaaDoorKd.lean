import Derived.Test.YtcanabbjliloeaaDoorInf
import Derived.Test.YtcanabbjliloeaaDoorCls
import Derived.Deep.RegionHeld3
import Derived.Deep.AppendLies
import Derived.Deep.DrawnRows
import Derived.Deep.DeepCutAuto
namespace Go.Proofs.YtcanabbjliloeaaDoor
open Go.ChangeShapes Go.WideShapes Go.ChangeAt Go.RowKit
set_option linter.unusedVariables false

theorem ret_b {a b : Bool} (h : a = b) : Ending.returned (.bool a) = .returned (.bool b) := by rw [h]

/-- the kids from one on, up to an end -/
def kds (ns : List Nd) (e : Nat) (k : Nat) : Option (List Int) :=
  if h : k < e then
    match ns[k]? with
    | none => none
    | some x => if hs : 1 ≤ x.s ∧ x.s ≤ (e : Int) - k then (kds ns e (k + x.s.toNat)).map (fun l => (k : Int) :: l) else none
  else some []
termination_by e - k
decreasing_by omega

/-- is all of a node in the list? -/
def whl (ns : List Nd) (n : Int) : Bool := decide (0 ≤ n) && (match ns[n.toNat]? with | none => false | some x => decide (1 ≤ x.s) && decide (x.s ≤ (ns.length : Int) - n))

def kid (ns : List Nd) (n : Int) : Option (List Int) := if whl ns n then (match ns[n.toNat]? with | none => none | some x => kds ns (n.toNat + x.s.toNat) (n.toNat + 1)) else none

theorem kds_end {ns : List Nd} {e k : Nat} (h : ¬ k < e) : kds ns e k = some [] := by rw [kds, dif_neg h]
theorem kds_step {ns : List Nd} {e k : Nat} {x : Nd} (h : k < e) (hx : ns[k]? = some x) (h1 : 1 ≤ x.s) (h2 : x.s ≤ (e : Int) - k) : kds ns e k = (kds ns e (k + x.s.toNat)).map (fun l => (k : Int) :: l) := by
  rw [kds, dif_pos h, hx]; simp only; rw [dif_pos ⟨h1, h2⟩]
theorem kds_bad {ns : List Nd} {e k : Nat} {x : Nd} (h : k < e) (hx : ns[k]? = some x) (h1 : ¬ (1 ≤ x.s ∧ x.s ≤ (e : Int) - k)) : kds ns e k = none := by
  rw [kds, dif_pos h, hx]; simp only; rw [dif_neg h1]

theorem whl_neg {ns : List Nd} {n : Int} (h : n < 0) : whl ns n = false := by
  unfold whl; rw [decide_eq_false (by omega)]; rfl
theorem whl_big {ns : List Nd} {n : Int} (h : (ns.length : Int) ≤ n) : whl ns n = false := by
  unfold whl; rw [List.getElem?_eq_none (by omega)]; simp
theorem whl_at {ns : List Nd} {n : Nat} {x : Nd} (hx : ns[n]? = some x) : whl ns n = (decide (1 ≤ x.s) && decide (x.s ≤ (ns.length : Int) - n)) := by
  unfold whl; rw [Int.toNat_natCast, hx]; simp

theorem isNode_any (a : Option Addr) (len cap : Nat) (n : Int) (w : World) :
    Calls Tryd.prog 21 #[.agg #[.slice a len cap], .int .i64 n] w fun e w' => e = .returned (.bool (decide (0 ≤ n) && decide (n < (len : Int)))) ∧ Below w.heap.size w w' := by
  by_cases h0 : 0 ≤ n
  · by_cases h1 : n < (len : Int)
    · go_enter Tryd.func21, Tryd.ntmps21
      go_wp2
      go_ret
      exact ⟨ret_b (by simp [h0, h1]), (Below.refl _ w).alloc (Nat.le_refl _) _⟩
    · go_enter Tryd.func21, Tryd.ntmps21
      go_wp2
      go_ret
      exact ⟨ret_b (by simp [h1]), (Below.refl _ w).alloc (Nat.le_refl _) _⟩
  · go_enter Tryd.func21, Tryd.ntmps21
    go_wp2
    go_ret
    exact ⟨ret_b (by rw [decide_eq_false (by omega)]; rfl), (Below.refl _ w).alloc (Nat.le_refl _) _⟩

set_option maxHeartbeats 1000000 in
theorem isWhole_any (a : Option Addr) (cap : Nat) (ns : List Nd) (n : Int) (w : World) (h : LiesA w a ns) (hl : ns.length ≤ maxLen) (hn0 : -9223372036854775808 ≤ n) (hn1 : n ≤ 9223372036854775807) :
    Calls Tryd.prog 19 #[.agg #[.slice a ns.length cap], .int .i64 n] w fun e w' => e = .returned (.bool (whl ns n)) ∧ Below w.heap.size w w' := by
  unfold maxLen at hl
  by_cases hn : 0 ≤ n ∧ n < (ns.length : Int)
  · obtain ⟨k, rfl⟩ : ∃ k : Nat, n = k := ⟨n.toNat, by omega⟩
    have hk : k < ns.length := by omega
    obtain ⟨x, hx⟩ : ∃ e, ns[k]? = some e := ⟨_, List.getElem?_eq_getElem hk⟩
    rcases h with rfl | ⟨b, o, rfl, h⟩
    · simp at hk
    have hbw := h.1
    have HW := whl_at hx
    obtain ⟨c0, c1, c2, c3⟩ := h.nd (Below.refl _ _) hx
    have HC : Hid (w.cell? ⟨b, o + k * 4 + 3, none⟩ = some (.int .i64 x.s)) := c3
    have hxs : Hid (whl ns k = (decide (1 ≤ x.s) && decide (x.s ≤ (ns.length : Int) - k))) := HW
    clear HW h hx c0 c1 c2 c3 hn
    have hd : (decide ((0 : Int) ≤ (k : Int)) && decide ((k : Int) < (ns.length : Int))) = true := by simp; omega
    have hcase : (decide (1 ≤ x.s) = false ∧ whl ns k = false) ∨ (1 ≤ x.s ∧ x.s ≤ (ns.length : Int) - k ∧ whl ns k = true) ∨ (1 ≤ x.s ∧ decide (x.s ≤ (ns.length : Int) - k) = false ∧ whl ns k = false) := by
      have h := hxs.out
      by_cases h1 : 1 ≤ x.s
      · by_cases h2 : x.s ≤ (ns.length : Int) - k
        · exact .inr (.inl ⟨h1, h2, by rw [h]; simp [h1, h2]⟩)
        · exact .inr (.inr ⟨h1, by simp [h2], by rw [h]; simp [h2]⟩)
      · exact .inl ⟨by simp [h1], by rw [h]; simp [h1]⟩
    have hk' : (k : Int) < (ns.length : Int) := by omega
    clear hxs
    rcases hcase with ⟨g1, g2⟩ | ⟨g1, g3, g2⟩ | ⟨g1, g3, g2⟩
    all_goals
      have HR : Hid (whl ns k = _) := g2
      clear g2
      go_enter Tryd.func19, Tryd.ntmps19
      go_upto_region 1 with fail
      obtain ⟨w2, e2, hw, hs2, B0⟩ := bx1 w #[.slice (some ⟨b, o, none⟩) ns.length cap] 25
      rw [e2]
      clear e2
      have x0 := B0.one
      have c3 := (hw.cell (p := ⟨b, o + k * 4 + 3, none⟩) hbw).trans HC.out
      have hsw : w.heap.size < w2.heap.size := by omega
      have HB0 : Hid (Below w.heap.size w w2) := hw
      clear hw B0
      obtain ⟨X, F, hX, hF, onto⟩ := class_of (fun v => Below w2.heap.size w2 v) (Below.refl _ w2)
      have f0 : ∀ y, (F y).cell? ⟨b, o + k * 4 + 3, none⟩ = some (.int .i64 x.s) := fun y => ((hF y).cell (p := ⟨b, o + k * 4 + 3, none⟩) (by show b < _; omega)).trans c3
      have f1 : ∀ y, (F y).cell? ⟨w.heap.size, 0, none⟩ = some (.slice (some ⟨b, o, none⟩) ns.length cap) := fun y => ((hF y).cell (p := ⟨w.heap.size, 0, none⟩) hsw).trans x0
      have HF : Hid (∀ y, Below w2.heap.size w2 (F y)) := hF
      have HO : Hid (∀ v, Below w2.heap.size w2 v → ∃ x, F x = v) := onto
      clear hF onto x0 c3
      refine region_class F (by kernel_rfl) (by kernel_rfl) (HO.out _ (Below.refl _ _).drew) ?_
      repeat (go_big_quiet_step ((go_at_call 21; refine (isNode_any _ ns.length cap k _).mono ?_; rintro e w3 ⟨rfl, hb3⟩; rw [hd]; exact ⟨rfl, by obtain ⟨x, hx⟩ := HO.out w3 ((HF.out _).trans (hb3.mono (HF.out _).size)); exact ⟨x, hx.symm⟩⟩)))
      refine wpQuiet_nil ?_
      rintro _ ⟨nq, rfl⟩
      go_wp2
      go_ret
      refine ⟨ret_b HR.out.symm, HB0.out.trans ((HF.out nq).mono (by omega))⟩
  · have hd : (decide (0 ≤ n) && decide (n < (ns.length : Int))) = false := by
      simp only [Bool.and_eq_false_iff, decide_eq_false_iff_not]; omega
    have HW : Hid (whl ns n = false) := by
      by_cases h0 : n < 0
      · exact whl_neg h0
      · exact whl_big (by omega)
    clear h hn
    go_enter Tryd.func19, Tryd.ntmps19
    go_upto_region 1 with fail
    obtain ⟨w2, e2, hw, hs2, B0⟩ := bx1 w #[.slice a ns.length cap] 25
    rw [e2]
    clear e2
    have x0 := B0.one
    have hsw : w.heap.size < w2.heap.size := by omega
    have HB0 : Hid (Below w.heap.size w w2) := hw
    clear hw B0
    obtain ⟨X, F, hX, hF, onto⟩ := class_of (fun v => Below w2.heap.size w2 v) (Below.refl _ w2)
    have f1 : ∀ y, (F y).cell? ⟨w.heap.size, 0, none⟩ = some (.slice a ns.length cap) := fun y => ((hF y).cell (p := ⟨w.heap.size, 0, none⟩) hsw).trans x0
    have HF : Hid (∀ y, Below w2.heap.size w2 (F y)) := hF
    have HO : Hid (∀ v, Below w2.heap.size w2 v → ∃ x, F x = v) := onto
    clear hF onto x0
    refine region_class F (by kernel_rfl) (by kernel_rfl) (HO.out _ (Below.refl _ _).drew) ?_
    repeat (go_big_quiet_step ((go_at_call 21; refine (isNode_any _ ns.length cap n _).mono ?_; rintro e w3 ⟨rfl, hb3⟩; rw [hd]; exact ⟨rfl, by obtain ⟨x, hx⟩ := HO.out w3 ((HF.out _).trans (hb3.mono (HF.out _).size)); exact ⟨x, hx.symm⟩⟩)))
    refine wpQuiet_nil ?_
    rintro _ ⟨nq, rfl⟩
    go_wp2
    go_ret
    refine ⟨ret_b HW.out.symm, HB0.out.trans ((HF.out nq).mono (by omega))⟩
end Go.Proofs.YtcanabbjliloeaaDoor
