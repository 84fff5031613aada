import Derived.Test.YtaploloedocgbaaDoorDw
import Derived.Deep.RegionHeld3
import Derived.Deep.AppendLies
import Derived.Deep.DrawnRows
import Derived.Deep.DeepCutAuto
namespace Go.Proofs.YtaploloedocgbaaDoor
open Go.ChangeShapes Go.WideShapes Go.ChangeAt Go.RowKit
set_option linter.unusedVariables false

theorem ret_b {a b : Bool} (h : a = b) : Ending.returned (.bool a) = .returned (.bool b) := by rw [h]

/-- the kids from one on, up to an end -/
def kds (ns : List Nd) (e : Nat) (k : Nat) : Option (List Int) :=
  if h : k < e then
    match ns[k]? with
    | none => none
    | some x => if hs : 1 ≤ x.s ∧ x.s ≤ (e : Int) - k then (kds ns e (k + x.s.toNat)).map (fun l => (k : Int) :: l) else none
  else some []
termination_by e - k
decreasing_by omega

/-- is all of a node in the list? -/
def whl (ns : List Nd) (n : Int) : Bool := decide (0 ≤ n) && (match ns[n.toNat]? with | none => false | some x => decide (1 ≤ x.s) && decide (x.s ≤ (ns.length : Int) - n))

def kid (ns : List Nd) (n : Int) : Option (List Int) := if whl ns n then (match ns[n.toNat]? with | none => none | some x => kds ns (n.toNat + x.s.toNat) (n.toNat + 1)) else none

theorem kds_end {ns : List Nd} {e k : Nat} (h : ¬ k < e) : kds ns e k = some [] := by rw [kds, dif_neg h]
theorem kds_step {ns : List Nd} {e k : Nat} {x : Nd} (h : k < e) (hx : ns[k]? = some x) (h1 : 1 ≤ x.s) (h2 : x.s ≤ (e : Int) - k) : kds ns e k = (kds ns e (k + x.s.toNat)).map (fun l => (k : Int) :: l) := by
  rw [kds, dif_pos h, hx]; simp only; rw [dif_pos ⟨h1, h2⟩]
theorem kds_bad {ns : List Nd} {e k : Nat} {x : Nd} (h : k < e) (hx : ns[k]? = some x) (h1 : ¬ (1 ≤ x.s ∧ x.s ≤ (e : Int) - k)) : kds ns e k = none := by
  rw [kds, dif_pos h, hx]; simp only; rw [dif_neg h1]

theorem whl_neg {ns : List Nd} {n : Int} (h : n < 0) : whl ns n = false := by
  unfold whl; rw [decide_eq_false (by omega)]; rfl
theorem whl_big {ns : List Nd} {n : Int} (h : (ns.length : Int) ≤ n) : whl ns n = false := by
  unfold whl; rw [List.getElem?_eq_none (by omega)]; simp
theorem whl_at {ns : List Nd} {n : Nat} {x : Nd} (hx : ns[n]? = some x) : whl ns n = (decide (1 ≤ x.s) && decide (x.s ≤ (ns.length : Int) - n)) := by
  unfold whl; rw [Int.toNat_natCast, hx]; simp

theorem isNode_any (a : Option Addr) (len cap : Nat) (n : Int) (w : World) :
    Calls Tryd.prog 27 #[.agg #[.slice a len cap], .int .i64 n] w fun e w' => e = .returned (.bool (decide (0 ≤ n) && decide (n < (len : Int)))) ∧ Below w.heap.size w w' := by
  by_cases h0 : 0 ≤ n
  · by_cases h1 : n < (len : Int)
    · go_enter Tryd.func27, Tryd.ntmps27
      go_wp2
      go_ret
      exact ⟨ret_b (by simp [h0, h1]), (Below.refl _ w).alloc (Nat.le_refl _) _⟩
    · go_enter Tryd.func27, Tryd.ntmps27
      go_wp2
      go_ret
      exact ⟨ret_b (by simp [h1]), (Below.refl _ w).alloc (Nat.le_refl _) _⟩
  · go_enter Tryd.func27, Tryd.ntmps27
    go_wp2
    go_ret
    exact ⟨ret_b (by rw [decide_eq_false (by omega)]; rfl), (Below.refl _ w).alloc (Nat.le_refl _) _⟩

set_option maxHeartbeats 1000000 in
theorem isWhole_any (a : Option Addr) (cap : Nat) (ns : List Nd) (n : Int) (w : World) (h : LiesA w a ns) (hl : ns.length ≤ maxLen) (hn0 : -9223372036854775808 ≤ n) (hn1 : n ≤ 9223372036854775807) :
    Calls Tryd.prog 54 #[.agg #[.slice a ns.length cap], .int .i64 n] w fun e w' => e = .returned (.bool (whl ns n)) ∧ Below w.heap.size w w' := by
  unfold maxLen at hl
  by_cases hn : 0 ≤ n ∧ n < (ns.length : Int)
  · obtain ⟨k, rfl⟩ : ∃ k : Nat, n = k := ⟨n.toNat, by omega⟩
    have hk : k < ns.length := by omega
    obtain ⟨x, hx⟩ : ∃ e, ns[k]? = some e := ⟨_, List.getElem?_eq_getElem hk⟩
    rcases h with rfl | ⟨b, o, rfl, h⟩
    · simp at hk
    have hbw := h.1
    have HW := whl_at hx
    obtain ⟨c0, c1, c2, c3⟩ := h.nd (Below.refl _ _) hx
    have HC : Hid (w.cell? ⟨b, o + k * 4 + 3, none⟩ = some (.int .i64 x.s)) := c3
    have hxs : Hid (whl ns k = (decide (1 ≤ x.s) && decide (x.s ≤ (ns.length : Int) - k))) := HW
    clear HW h hx c0 c1 c2 c3 hn
    have hd : (decide ((0 : Int) ≤ (k : Int)) && decide ((k : Int) < (ns.length : Int))) = true := by simp; omega
    have hcase : (decide (1 ≤ x.s) = false ∧ whl ns k = false) ∨ (1 ≤ x.s ∧ x.s ≤ (ns.length : Int) - k ∧ whl ns k = true) ∨ (1 ≤ x.s ∧ decide (x.s ≤ (ns.length : Int) - k) = false ∧ whl ns k = false) := by
      have h := hxs.out
      by_cases h1 : 1 ≤ x.s
      · by_cases h2 : x.s ≤ (ns.length : Int) - k
        · exact .inr (.inl ⟨h1, h2, by rw [h]; simp [h1, h2]⟩)
        · exact .inr (.inr ⟨h1, by simp [h2], by rw [h]; simp [h2]⟩)
      · exact .inl ⟨by simp [h1], by rw [h]; simp [h1]⟩
    have hk' : (k : Int) < (ns.length : Int) := by omega
    clear hxs
    rcases hcase with ⟨g1, g2⟩ | ⟨g1, g3, g2⟩ | ⟨g1, g3, g2⟩
    all_goals
      have HR : Hid (whl ns k = _) := g2
      clear g2
      go_enter Tryd.func54, Tryd.ntmps54
      go_upto_region 1 with fail
      obtain ⟨w2, e2, hw, hs2, B0⟩ := bx1 w #[.slice (some ⟨b, o, none⟩) ns.length cap] 25
      rw [e2]
      clear e2
      have x0 := B0.one
      have c3 := (hw.cell (p := ⟨b, o + k * 4 + 3, none⟩) hbw).trans HC.out
      have hsw : w.heap.size < w2.heap.size := by omega
      have HB0 : Hid (Below w.heap.size w w2) := hw
      clear hw B0
      obtain ⟨X, F, hX, hF, onto⟩ := class_of (fun v => Below w2.heap.size w2 v) (Below.refl _ w2)
      have f0 : ∀ y, (F y).cell? ⟨b, o + k * 4 + 3, none⟩ = some (.int .i64 x.s) := fun y => ((hF y).cell (p := ⟨b, o + k * 4 + 3, none⟩) (by show b < _; omega)).trans c3
      have f1 : ∀ y, (F y).cell? ⟨w.heap.size, 0, none⟩ = some (.slice (some ⟨b, o, none⟩) ns.length cap) := fun y => ((hF y).cell (p := ⟨w.heap.size, 0, none⟩) hsw).trans x0
      have HF : Hid (∀ y, Below w2.heap.size w2 (F y)) := hF
      have HO : Hid (∀ v, Below w2.heap.size w2 v → ∃ x, F x = v) := onto
      clear hF onto x0 c3
      refine region_class F (by kernel_rfl) (by kernel_rfl) (HO.out _ (Below.refl _ _).drew) ?_
      repeat (go_big_quiet_step ((go_at_call 27; refine (isNode_any _ ns.length cap k _).mono ?_; rintro e w3 ⟨rfl, hb3⟩; rw [hd]; exact ⟨rfl, by obtain ⟨x, hx⟩ := HO.out w3 ((HF.out _).trans (hb3.mono (HF.out _).size)); exact ⟨x, hx.symm⟩⟩)))
      refine wpQuiet_nil ?_
      rintro _ ⟨nq, rfl⟩
      go_wp2
      go_ret
      refine ⟨ret_b HR.out.symm, HB0.out.trans ((HF.out nq).mono (by omega))⟩
  · have hd : (decide (0 ≤ n) && decide (n < (ns.length : Int))) = false := by
      simp only [Bool.and_eq_false_iff, decide_eq_false_iff_not]; omega
    have HW : Hid (whl ns n = false) := by
      by_cases h0 : n < 0
      · exact whl_neg h0
      · exact whl_big (by omega)
    clear h hn
    go_enter Tryd.func54, Tryd.ntmps54
    go_upto_region 1 with fail
    obtain ⟨w2, e2, hw, hs2, B0⟩ := bx1 w #[.slice a ns.length cap] 25
    rw [e2]
    clear e2
    have x0 := B0.one
    have hsw : w.heap.size < w2.heap.size := by omega
    have HB0 : Hid (Below w.heap.size w w2) := hw
    clear hw B0
    obtain ⟨X, F, hX, hF, onto⟩ := class_of (fun v => Below w2.heap.size w2 v) (Below.refl _ w2)
    have f1 : ∀ y, (F y).cell? ⟨w.heap.size, 0, none⟩ = some (.slice a ns.length cap) := fun y => ((hF y).cell (p := ⟨w.heap.size, 0, none⟩) hsw).trans x0
    have HF : Hid (∀ y, Below w2.heap.size w2 (F y)) := hF
    have HO : Hid (∀ v, Below w2.heap.size w2 v → ∃ x, F x = v) := onto
    clear hF onto x0
    refine region_class F (by kernel_rfl) (by kernel_rfl) (HO.out _ (Below.refl _ _).drew) ?_
    repeat (go_big_quiet_step ((go_at_call 27; refine (isNode_any _ ns.length cap n _).mono ?_; rintro e w3 ⟨rfl, hb3⟩; rw [hd]; exact ⟨rfl, by obtain ⟨x, hx⟩ := HO.out w3 ((HF.out _).trans (hb3.mono (HF.out _).size)); exact ⟨x, hx.symm⟩⟩)))
    refine wpQuiet_nil ?_
    rintro _ ⟨nq, rfl⟩
    go_wp2
    go_ret
    refine ⟨ret_b HW.out.symm, HB0.out.trans ((HF.out nq).mono (by omega))⟩
end Go.Proofs.YtaploloedocgbaaDoor

namespace Go.Proofs.YtaploloedocgbaaDoor
open Go.ChangeShapes Go.WideShapes Go.ChangeAt Go.RowKit
set_option linter.unusedVariables false

theorem kid_at {ns : List Nd} {n : Nat} {x : Nd} {z : Nat} (hx : ns[n]? = some x) (hz : x.s = z) (h : whl ns n = true) : kid ns n = kds ns (n + z) (n + 1) := by
  unfold kid
  rw [if_pos h, Int.toNat_natCast, hx]
  simp only
  rw [hz, Int.toNat_natCast]

theorem ret_tb {v : Value} {a b : Bool} (h : a = b) : Ending.returned (.tuple #[v, .bool a]) = .returned (.tuple #[v, .bool b]) := by rw [h]

theorem own_eq {w : World} {base : Nat} {v : Value} {xs ys : List Int} (h : w.ownsRow base 3 1 v xs.length (flat xs)) (he : xs = ys) : w.ownsRow base 3 1 v ys.length (flat ys) := he ▸ h

theorem kid_no {ns : List Nd} {n : Int} (h : whl ns n = false) : kid ns n = none := by
  unfold kid; rw [if_neg (by simp [h])]

theorem whl_yes {ns : List Nd} {n : Int} (h : whl ns n = true) : ∃ (k z : Nat) (x : Nd), n = k ∧ ns[k]? = some x ∧ x.s = z ∧ 1 ≤ z ∧ z + k ≤ ns.length := by
  unfold whl at h
  rw [Bool.and_eq_true, decide_eq_true_eq] at h
  obtain ⟨h0, h1⟩ := h
  obtain ⟨k, rfl⟩ : ∃ k : Nat, n = k := ⟨n.toNat, by omega⟩
  rw [Int.toNat_natCast] at h1
  cases hx : ns[k]? with
  | none => rw [hx] at h1; simp at h1
  | some x =>
    rw [hx] at h1
    simp only [Bool.and_eq_true, decide_eq_true_eq] at h1
    exact ⟨k, x.s.toNat, x, rfl, hx, by omega, by omega, by omega⟩

set_option maxRecDepth 1000000 in
set_option maxHeartbeats 2000000 in
theorem kids_any (a : Option Addr) (cap : Nat) (ns : List Nd) (n : Int) (w : World) (h : LiesA w a ns) (hl : ns.length * 32 ≤ 140737488351232) (hn0 : -9223372036854775808 ≤ n) (hn1 : n ≤ 9223372036854775807) :
    Calls Tryd.prog 26 #[.agg #[.slice a ns.length cap], .int .i64 n] w fun e w' => ∃ v, e = .returned (.tuple #[v, .bool (kid ns n).isSome]) ∧
      w'.ownsRow w.heap.size 3 1 v ((kid ns n).getD []).length (flat ((kid ns n).getD [])) ∧ Below w.heap.size w w' := by
  obtain ⟨i0, hi, hz0, hz1, hz2⟩ := info_parts infoInt
  have HL : Hid (LiesA w a ns) := h
  have HM : Hid (ns.length ≤ maxLen) := by unfold Hid maxLen; omega
  obtain ⟨w2, e2, hw, hs2, B0⟩ := bx1 w #[.slice a ns.length cap] 25
  have hsw : w.heap.size < w2.heap.size := by omega
  have HB0 : Hid (Below w.heap.size w w2) := hw
  have HX0 : Hid (Bx w2 w.heap.size #[.slice a ns.length cap] 25) := B0
  have HS2 : Hid (w2.heap.size = w.heap.size + 1) := hs2
  have HE2 : Hid (w.alloc (.cells #[.slice a ns.length cap] 25) = w2) := e2
  have x0 := B0.one
  clear h hw hs2 B0 e2
  cases hw : whl ns n with
  | false =>
    have HR : Hid (kid ns n = none) := kid_no hw
    have HWW : Hid (whl ns n = false) := hw
    clear hw
    go_enter Tryd.func26, Tryd.ntmps26
    go_wp2_with (first | (go_at_call 54; rw [HE2.out]; refine (isWhole_any a cap ns n _ (HL.out.below HB0.out) HM.out hn0 hn1).mono ?_; rintro e w3 ⟨rfl, hb3⟩; rw [HWW.out]) | fail)
    go_ret2
    exact ⟨_, ret_tb (by rw [HR.out]; rfl), own_eq (xs := []) (World.ownsRow_nil _ _ _ _) (by rw [HR.out]; rfl), HB0.out.trans (hb3.mono (by omega))⟩
  | true =>
    obtain ⟨k, z, x, rfl, hx, hxz, hz, hzk⟩ := whl_yes hw
    have HR : Hid (kid ns k = kds ns (k + z) (k + 1)) := kid_at hx hxz hw
    have HWW : Hid (whl ns k = true) := hw
    rcases HL.out with rfl | ⟨b, o, rfl, hL⟩
    · simp at hx
    have HLL : Hid (Lies w b o ns) := hL
    have hbw : b < w.heap.size := hL.1
    have HXX : Hid (ns[k]? = some x) := hx
    have hk' : (k : Int) < (ns.length : Int) := by omega
    clear hw hx hL
    go_enter Tryd.func26, Tryd.ntmps26
    go_wp2_with (first | (go_at_call 54; rw [HE2.out]; refine (isWhole_any _ cap ns k _ (HL.out.below HB0.out) HM.out hn0 hn1).mono ?_; rintro e w3 ⟨rfl, hb3⟩; rw [HWW.out]; have y0 : w3.cell? ⟨w.heap.size, 0, none⟩ = some (.slice (some ⟨b, o, none⟩) ns.length cap) := (hb3.cell (p := ⟨w.heap.size, 0, none⟩) hsw).trans x0; have y1 : w3.cell? ⟨b, o + k * 4 + 3, none⟩ = some (.int .i64 z) := by rw [(hb3.cell (p := ⟨b, o + k * 4 + 3, none⟩) (by show b < _; omega)), (HLL.out.nd HB0.out HXX.out).2.2.2, hxz]) | fail)
    have HB3 : Hid (Below (w.heap.size + 1) w2 w3) := by unfold Hid; rw [← HS2.out]; exact hb3
    clear hb3 x0 y0 y1
    go_loopw [6, 8] (fun v i wr => ∃ (m : Nat) (acc : List Int), k < m ∧ m ≤ k + z ∧ i = .int .i64 m ∧ acc.length ≤ m ∧ Below (w.heap.size + 1) w2 wr ∧ wr.ownsRow (w.heap.size + 1) 3 1 v acc.length (flat acc) ∧ kid ns k = (kds ns (k + z) m).map (fun l => acc ++ l)) (fun _ i _ => k + z - (intOf i).toNat)
    case atStart => exact ⟨k + 1, [], by omega, by omega, by go_num, by simp, HB3.out, World.ownsRow_nil _ _ _ _, by rw [HR.out]; simp⟩
    case round =>
      obtain ⟨m, acc, hm0, hm1, rfl, hacc, hbel, hown, heq⟩ := hrel
      have HEQ : Hid (kid ns k = (kds ns (k + z) m).map (fun l => acc ++ l)) := heq
      have HB : Hid (Below (w.heap.size + 1) w2 wr) := hbel
      have hlt1 : Hid (∀ k, u6.ownBlock = some k → w.heap.size + 1 ≤ k ∧ k < wr.heap.size) := hown.lt
      have HO : Hid (wr.ownsRow (w.heap.size + 1) 3 1 u6 acc.length (flat acc)) := hown
      have hwb : Below w.heap.size w wr := HB0.out.trans (hbel.mono (by omega))
      have HWB : Hid (Below w.heap.size w wr) := hwb
      have y0 := (HX0.out.below hbel (by omega)).one
      have hsr : w.heap.size + 1 ≤ wr.heap.size := by have := hbel.size; have := HS2.out; omega
      clear heq hbel hown
      by_cases hlt : m < k + z
      · have hmn : m < ns.length := by omega
        obtain ⟨e, he⟩ : ∃ e, ns[m]? = some e := ⟨_, List.getElem?_eq_getElem hmn⟩
        have y1 := (HLL.out.nd hwb he).2.2.2
        have HE : Hid (ns[m]? = some e) := he
        clear he hwb
        have hm' : (m : Int) < (ns.length : Int) := by omega
        by_cases g1 : 1 ≤ e.s
        · by_cases g2 : e.s ≤ ((k + z : Nat) : Int) - m
          · obtain ⟨q, hq⟩ : ∃ q : Nat, e.s = q := ⟨e.s.toNat, by omega⟩
            have HS : Hid (kid ns k = (kds ns (k + z) (m + q)).map (fun l => (acc ++ [(m : Int)]) ++ l)) := by
              unfold Hid
              rw [HEQ.out, kds_step hlt HE.out g1 g2, hq, Int.toNat_natCast, Option.map_map]
              congr 1
              funext l
              simp
            rw [hq] at y1 g1 g2
            have HQ : Hid (e.s = q) := hq
            clear hq HEQ
            go_wp2_with (at_builtin; (refine wpList_append_own _ rfl (.tmp 50) (.tmp 52) 39 rfl (w.heap.size + 1) 3 i0 (.int .i64 0) 1 8 Tryd.underlying39 hi hz0 hz1 hz2 rfl (by decide) _ _ _ rfl (HO.out.alloc _) ⟨wr.heap.size, 0, none⟩ 1 1 (flat [(m : Int)]) rfl rfl (cells_new wr (flat [(m : Int)]) 3) (flat_oneCell _) ?_ ?_ ?_ ?_))
            case refine_1 => unfold maxLen; omega
            case refine_2 => omega
            case refine_3 => simp; omega
            intro v4 w4 hown4 hgrow4 _
            have b4 : Below (w.heap.size + 1) w2 w4 := (HB.out.alloc hsr _).grown hgrow4 (by simp; omega) (fun k h => (hlt1.out k h).1)
            have HB4 : Hid (Below (w.heap.size + 1) w2 w4) := b4
            have HO4 : Hid (w4.ownsRow (w.heap.size + 1) 3 1 v4 (acc ++ [(m : Int)]).length (flat (acc ++ [(m : Int)]))) := by
              unfold Hid; rw [flat_append, List.length_append]; exact hown4
            clear y0 y1 hgrow4 hown4
            have y0 := (HX0.out.below b4 (by omega)).one
            have y1 := (HLL.out.nd (HB0.out.trans (b4.mono (by omega))) HE.out).2.2.2
            rw [HQ.out] at y1
            clear b4
            go_wp2
            go_roundw
            case rel => exact ⟨m + q, acc ++ [(m : Int)], by omega, by omega, by go_num, by simp; omega, HB4.out, HO4.out, HS.out⟩
            case measure => simp [intOf]; omega
          · have HS : Hid (kid ns k = none) := by
              unfold Hid
              rw [HEQ.out, kds_bad hlt HE.out (by omega)]
              rfl
            go_wp2
            go_ret2
            exact ⟨_, ret_tb (by rw [HS.out]; rfl), own_eq (xs := []) (World.ownsRow_nil _ _ _ _) (by rw [HS.out]; rfl), HWB.out⟩
        · have HS : Hid (kid ns k = none) := by
            unfold Hid
            rw [HEQ.out, kds_bad hlt HE.out (by omega)]
            rfl
          go_wp2
          go_ret2
          exact ⟨_, ret_tb (by rw [HS.out]; rfl), own_eq (xs := []) (World.ownsRow_nil _ _ _ _) (by rw [HS.out]; rfl), HWB.out⟩
      · have HS : Hid (kid ns k = some acc) := by
          unfold Hid
          rw [HEQ.out, kds_end hlt]
          simp
        clear hwb
        go_wp2
        go_ret2
        exact ⟨_, ret_tb (by rw [HS.out]; rfl), own_base (own_eq HO.out (by rw [HS.out]; rfl)) (by omega), HWB.out⟩
end Go.Proofs.YtaploloedocgbaaDoor
