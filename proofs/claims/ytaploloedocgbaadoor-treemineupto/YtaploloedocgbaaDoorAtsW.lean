import Derived.Test.YtaploloedocgbaaDoorAtP
import Derived.Test.YtaploloedocgbaaDoorRf2
import Derived.Test.YtaploloedocgbaaDoorNms1
namespace Go.Proofs.YtaploloedocgbaaDoor
open Go.ChangeShapes Go.WideShapes Go.ChangeAt Go.RowKit
set_option linter.unusedVariables false

theorem retB {a b : Bool} (h : a = b) : Ending.returned (.bool a) = .returned (.bool b) := by rw [h]
end Go.Proofs.YtaploloedocgbaaDoor

namespace Go.Proofs.YtaploloedocgbaaDoor
open Go.ChangeShapes Go.WideShapes Go.ChangeAt Go.RowKit
set_option linter.unusedVariables false

set_option maxRecDepth 1000000 in
set_option maxHeartbeats 1000000 in
theorem up1_any (a : Option Addr) (cap : Nat) (ns : List Nd) (n m : Nat) (x : Nd) (bt bn : Nat) (w : World) (hx : ns[m]? = some x) (hmn : m < n) (hn : n < ns.length) (h : LiesA w a ns) (hl : ns.length * 32 ≤ 140737488351232)
    (y1 : w.cell? ⟨bt, 0, none⟩ = some (.slice a ns.length cap)) (y2 : w.cell? ⟨bn, 0, none⟩ = some (.int .i64 (n : Int))) (t1 : bt < w.heap.size) (t2 : bn < w.heap.size) :
    Calls Tryd.prog 43 #[.int .i64 (m : Int), .pointer (some ⟨bt, 0, none⟩), .pointer (some ⟨bn, 0, none⟩)] w fun e w' => e = .returned (.bool (upB ns n m x)) ∧ Below w.heap.size w w' := by
  have hm : m < ns.length := (List.getElem?_eq_some_iff.1 hx).1
  have H : Hid (LiesA w a ns) := h
  rcases h with h0 | ⟨b2, o2, rfl, hL2⟩
  · rw [h0] at hm; simp at hm
  have HL : Hid (Lies w b2 o2 ns) := hL2
  have d3 := (hL2.nd (Below.refl _ w) hx).2.2.2
  have hm0 : (0 : Int) ≤ (m : Int) := by omega
  have hm1 : (m : Int) < (ns.length : Int) := by omega
  have hb2r : b2 < w.heap.size := hL2.1
  have HX : Hid (ns[m]? = some x) := hx
  clear hx hL2
  by_cases g : (n : Int) - (m : Int) < x.s
  · have HU : Hid (upB ns n m x = (kdl ns m).contains (n : Int)) := by unfold Hid upB; rw [decide_eq_true g]; rfl
    have HKL : Hid ((kdl ns m).length ≤ ns.length) := kid_len ns m
    have hw1 : IntKind.i64.wrap ((n : Int) - (m : Int)) = (n : Int) - (m : Int) := IntWalk.i64_in _ ⟨by omega, by omega⟩
    have hw2 : decide ((n : Int) - (m : Int) < x.s) = true := decide_eq_true g
    go_enter Tryd.func43, Tryd.ntmps43
    go_upto_region 1 with fail
    go_region_held3 (fun v => v.cell? ⟨bt, 0, none⟩ = some (.slice (some ⟨b2, o2, none⟩) ns.length cap) ∧ v.cell? ⟨bn, 0, none⟩ = some (.int .i64 (n : Int)) ∧ v.cell? ⟨b2, o2 + m * 4 + 3, none⟩ = some (.int .i64 x.s))
      (first | go_keep | (refine ⟨?_, ?_, ?_⟩ <;> assumption))
      ((first
        | (go_at_call 7; refine (Kids_any _ cap ns (m : Int) _ (H.out.below (Below.refl _ w).drew) hl (by omega) (by omega)).mono ?_; rintro e w3 ⟨v3, rfl, o3, hb3⟩; obtain ⟨a3, c3, rfl, q3, hq3, hnn3⟩ := own_form o3; have Q3 : Hid (LiesA w3 a3 (kdl ns m)) := q3; have HB3 : Hid (Below w.heap.size w w3) := (Below.refl _ w).drew.trans hb3; have z1 := (HB3.out.cell (p := ⟨bt, 0, none⟩) t1).trans y1; have z2 := (HB3.out.cell (p := ⟨bn, 0, none⟩) t2).trans y2; have z3 := (HL.out.nd HB3.out HX.out).2.2.2; clear hb3 o3 q3 hq3 hnn3)
        | (go_at_call 44; refine (contains_any _ c3 (kdl ns m) (n : Int) _ Q3.out (by have := HKL.out; unfold maxLen; omega)).mono ?_; rintro e w4 ⟨rfl, rfl⟩)))
    go_wp2
    go_ret
    exact ⟨retB (by rw [HU.out]; simp), HB3.out⟩
  · have HU : Hid (upB ns n m x = false) := by unfold Hid upB; rw [decide_eq_false g]; rfl
    obtain ⟨X, F, hX, hF, onto⟩ := class_of (fun v => Below w.heap.size w v) (Below.refl _ w)
    have HF : Hid (∀ y, Below w.heap.size w (F y)) := hF
    have HO : Hid (∀ v, Below w.heap.size w v → ∃ x, v = F x) := fun v h => by obtain ⟨x, hx⟩ := onto v h; exact ⟨x, hx.symm⟩
    have f1 : ∀ y, (F y).cell? ⟨bt, 0, none⟩ = some (.slice (some ⟨b2, o2, none⟩) ns.length cap) := fun y => ((hF y).cell (p := ⟨bt, 0, none⟩) t1).trans y1
    have f2 : ∀ y, (F y).cell? ⟨bn, 0, none⟩ = some (.int .i64 (n : Int)) := fun y => ((hF y).cell (p := ⟨bn, 0, none⟩) t2).trans y2
    have f3 := fun y => (HL.out.nd (hF y) HX.out).2.2.2
    clear hF onto y1 y2 d3
    go_enter Tryd.func43, Tryd.ntmps43
    go_upto_region 1 with fail
    refine region_class F (by kernel_rfl) (by kernel_rfl) (by obtain ⟨x, hx⟩ := HO.out _ (Below.refl _ _).drew; exact ⟨x, hx.symm⟩) ?_
    repeat (go_big_quiet_step (fail))
    refine wpQuiet_nil ?_
    rintro _ ⟨nq, rfl⟩
    go_wp2
    go_ret
    exact ⟨retB HU.out.symm, HF.out nq⟩
end Go.Proofs.YtaploloedocgbaaDoor

namespace Go.Proofs.YtaploloedocgbaaDoor
open Go.ChangeShapes Go.WideShapes Go.ChangeAt Go.RowKit
set_option linter.unusedVariables false

theorem bx3 (w : World) (v1 v2 v3 : Array Value) (t1 t2 t3 : TypeId) : ∃ w3, ((w.alloc (.cells v1 t1)).alloc (.cells v2 t2)).alloc (.cells v3 t3) = w3 ∧ Below w.heap.size w w3 ∧ w3.heap.size = w.heap.size + 3 ∧ Bx w3 w.heap.size v1 t1 ∧ Bx w3 (w.heap.size + 1) v2 t2 ∧ Bx w3 (w.heap.size + 2) v3 t3 := by
  obtain ⟨w2, e2, b2, s2, x1, x2⟩ := bx2 w v1 v2 t1 t2
  obtain ⟨w3, e3, b3, s3, x3⟩ := bx1 w2 v3 t3
  exact ⟨w3, by rw [e2, e3], b2.trans (b3.mono b2.size), by omega, x1.below b3 (by omega), x2.below b3 (by omega), by rw [s2] at x3; exact x3⟩

theorem dwn_mem {k : Nat} {x : Int} (h : x ∈ dwn k) : ∃ i : Nat, i < k ∧ x = (i : Int) := by
  induction k with
  | zero => simp [dwn] at h
  | succ k ih =>
    simp only [dwn, List.mem_cons] at h
    rcases h with rfl | h
    · exact ⟨k, by omega, rfl⟩
    · obtain ⟨i, hi, rfl⟩ := ih h
      exact ⟨i, by omega, rfl⟩

def atQ (ts : List Tk) (ns : List Nd) (off : Int) (i : Int) : Bool := match ns[i.toNat]? with | some x => atB ts off x | none => false
theorem atQ_head (ts : List Tk) (ns : List Nd) (off : Int) (k : Nat) : ((dwn k).filter (atQ ts ns off)).headD (-1) = atF ts ns off k := by
  induction k with
  | zero => rfl
  | succ k ih =>
    have e : atQ ts ns off (k : Int) = match ns[k]? with | some x => atB ts off x | none => false := by simp [atQ]
    rw [dwn, List.filter_cons, e, atF]
    cases hx : ns[k]? with
    | none => simp only [Bool.false_eq_true, if_false]; exact ih
    | some x =>
      cases hb : atB ts off x with
      | false => dsimp only; rw [if_neg (by simp [hb]), if_neg (by simp [hb])]; exact ih
      | true => dsimp only; rw [if_pos hb, if_pos hb]; rfl

theorem down_any (k : Int) (w : World) : Calls Tryd.prog 42 #[.int .i64 k] w fun e w' => e = .returned (.func (.func 58) #[] #[.pointer (some ⟨w.heap.size, 0, none⟩)]) ∧ w' = w.alloc (.cells #[.int .i64 k] 3) := by
  go_enter Tryd.func42, Tryd.ntmps42
  go_wp2
  go_ret
  exact ⟨rfl, rfl⟩
theorem asked_any (f q : Value) (g1 g2 : Nat) (l1 l2 : Array Value) (h1 : f = .func (.func g1) #[] l1) (h2 : q = .func (.func g2) #[] l2) (w : World) : Calls Tryd.prog 41 #[f, q] w fun e w' => e = .returned (.func (.func 57) #[] #[.pointer (some ⟨w.heap.size, 0, none⟩), .pointer (some ⟨w.heap.size + 1, 0, none⟩)]) ∧ w' = (w.alloc (.cells #[f] 85)).alloc (.cells #[q] 89) := by
  subst h1 h2
  go_enter Tryd.func41, Tryd.ntmps41
  go_wp2
  go_ret
  exact ⟨by simp, rfl⟩

/-- the first of the numbers below k of which a question is answered by yes -/
theorem first_down (k gq n0 bd b1 b2 : Nat) (lq : Array Value) (q : Int → Bool) (w : World) (hk : k < 9223372036854775808)
    (eq : ∀ args w, (callFunc gq args).run Tryd.prog w = .ok (.enter gq args) w) (hn0 : n0 ≤ w.heap.size) (h0 : bd < n0) (h1 : b1 < n0) (h2 : b2 < n0)
    (c0 : w.cell? ⟨bd, 0, none⟩ = some (.int .i64 k)) (c1 : w.cell? ⟨b1, 0, none⟩ = some (.func (.func 58) #[] #[.pointer (some ⟨bd, 0, none⟩)])) (c2 : w.cell? ⟨b2, 0, none⟩ = some (.func (.func gq) #[] lq))
    (hq : ∀ i : Nat, i < k → ∀ W, Below n0 w W → n0 ≤ W.heap.size → Calls Tryd.prog gq (#[.int .i64 (i : Int)] ++ lq) W fun e W' => e = .returned (.bool (q i)) ∧ Below W.heap.size W W') :
    Calls Tryd.prog 40 #[.func (.func 57) #[] #[.pointer (some ⟨b1, 0, none⟩), .pointer (some ⟨b2, 0, none⟩)]] w fun e W' => e = .returned (.int .i64 (((dwn k).filter q).headD (-1))) ∧ Below w.heap.size w W' := by
  have hfn : ∀ j, Fence.wide.fn j := fun _ => trivial
  refine (callsIn_wide (n := 9)).1 (first_in Fence.wide 9 hfn rfl rfl (by omega) n0 57 _ _ w (enters_of Tryd.func57 (by kernel_rfl) rfl) hn0 ?_)
  refine asked1_seq Fence.wide 8 hfn rfl rfl (by omega) b1 b2 n0 58 gq _ lq _ q w (enters_of Tryd.func58 (by kernel_rfl) rfl) eq h1 h2 c1 c2 ?_ ?_
  · exact down1_seq Fence.wide 7 hfn rfl (by omega) bd n0 k w hk h0 c0
  · intro x hx m W hW hs
    obtain ⟨i, hi, rfl⟩ := dwn_mem hx
    exact callsIn_wide.2 (hq i hi W hW hs)
end Go.Proofs.YtaploloedocgbaaDoor
