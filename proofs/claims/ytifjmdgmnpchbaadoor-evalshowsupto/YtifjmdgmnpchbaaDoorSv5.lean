import Derived.Test.YtifjmdgmnpchbaaDoorSv0
import Derived.Test.YtifjmdgmnpchbaaDoorTsl
namespace Go.Proofs.YtifjmdgmnpchbaaDoor
open Go.ChangeShapes Go.WideShapes Go.ChangeAt Go.RowKit
set_option linter.unusedVariables false
set_option linter.unusedSimpArgs false

def sa : Value → Option Addr
  | .slice a _ _ => a
  | _ => none
def sc : Value → Nat
  | .slice _ _ c => c
  | _ => 0
/-- a trace of the call's own -/
structure Tw (B : Nat) (w : World) (V : Value) (rs : List Rr) (xss : List (List Vl)) : Prop where
  she : She 28 23 4 B w V (.slice none 0 0) rs []
  len : rs.length = xss.length
  row : ∀ (i : Nat) (r : Rr) (xs : List Vl), rs[i]? = some r → xss[i]? = some xs → r.n = xs.length ∧ r.xs = flat xs
theorem Tw.below {B : Nat} {w w' : World} {V : Value} {rs : List Rr} {xss : List (List Vl)} (h : Tw B w V rs xss) (hb : Below w.heap.size w w') : Tw B w' V rs xss := ⟨h.she.below hb, h.len, h.row⟩
theorem Tw.nil (B : Nat) (w : World) : Tw B w (.slice none 0 0) [] [] := ⟨She.nil _ _ _ _ _, rfl, fun i r xs h => by cases h⟩
theorem Tw.at {B : Nat} {w : World} {V : Value} {rs : List Rr} {xss : List (List Vl)} (h : Tw B w V rs xss) {i : Nat} {xs : List Vl} (hx : xss[i]? = some xs) : ∃ r, rs[i]? = some r ∧ w.ownsRow B 28 4 r.v xs.length (flat xs) := by
  have hi := (List.getElem?_eq_some_iff.1 hx).1
  have hr : rs[i]? = some (rs[i]'(by rw [h.len]; exact hi)) := List.getElem?_eq_getElem _
  have h1 := h.she.get hr
  have h2 := h.row i _ xs hr hx
  rw [h2.1, h2.2] at h1
  exact ⟨_, hr, h1⟩
/-- what is read of it -/
theorem Tw.tr {B : Nat} {w : World} {V : Value} {rs : List Rr} {xss : List (List Vl)} (h : Tw B w V rs xss) : ∃ a c gs, V = .slice a gs.length c ∧ Tr w a gs ∧ gs.map Rg.xs = xss ∧ gs.length = xss.length := by
  obtain ⟨gs, hgs⟩ : ∃ gs, gs = List.zipWith (fun (r : Rr) xs => (⟨sa r.v, sc r.v, xs⟩ : Rg)) rs xss := ⟨_, rfl⟩
  have hl : gs.length = rs.length := by rw [hgs, List.length_zipWith, ← h.len]; omega
  have hg : ∀ (i : Nat) (g : Rg), gs[i]? = some g → ∃ (r : Rr) (xs : List Vl), rs[i]? = some r ∧ xss[i]? = some xs ∧ g = ⟨sa r.v, sc r.v, xs⟩ := by
    intro i g hi
    rw [hgs, List.getElem?_zipWith_eq_some] at hi
    obtain ⟨r, xs, h1, h2, h3⟩ := hi
    exact ⟨r, xs, h1, h2, h3.symm⟩
  have hfl : flat gs = rs.map Rr.v := by
    apply List.ext_getElem?
    intro i
    have h1 := flat_get gs i 0 (by decide)
    rw [show i * Rw.k Rg + 0 = i from by show i * 1 + 0 = i; omega] at h1
    rw [h1, List.getElem?_map]
    cases hgi : gs[i]? with
    | none =>
      have : rs[i]? = none := List.getElem?_eq_none (by have := List.getElem?_eq_none_iff.1 hgi; omega)
      rw [this]; rfl
    | some g =>
      obtain ⟨r, xs, h2, h3, rfl⟩ := hg i g hgi
      obtain ⟨r', h4, h5⟩ := h.at h3
      rw [h2] at h4
      obtain rfl := Option.some.inj h4
      obtain ⟨a, c, hv, _⟩ := own_slice h5
      rw [h2]
      show some (Value.slice (sa r.v) xs.length (sc r.v)) = some r.v
      rw [hv]; rfl
  have ho := h.she.outV
  rw [← hfl, ← hl] at ho
  obtain ⟨a, c, hV, hL, _, _⟩ := own_form (α := Rg) ho
  refine ⟨a, c, gs, hV, ⟨hL, fun g hgm => ?_⟩, ?_, by rw [hl, h.len]⟩
  · obtain ⟨i, hi⟩ := List.getElem?_of_mem hgm
    obtain ⟨r, xs, h2, h3, rfl⟩ := hg i g hi
    obtain ⟨r', h4, h5⟩ := h.at h3
    rw [h2] at h4
    obtain rfl := Option.some.inj h4
    obtain ⟨a', c', hv, hL', _, _⟩ := own_form (α := Vl) h5
    show LiesA w (sa r.v) xs
    rw [hv]; exact hL'
  · apply List.ext_getElem?
    intro i
    rw [List.getElem?_map]
    cases hgi : gs[i]? with
    | none =>
      have : xss[i]? = none := List.getElem?_eq_none (by have := List.getElem?_eq_none_iff.1 hgi; have := h.len; omega)
      rw [this]; rfl
    | some g =>
      obtain ⟨r, xs, h2, h3, rfl⟩ := hg i g hgi
      rw [h3]; rfl
theorem flat_set {α : Type} [Rw α] : ∀ (xs : List α) (i r : Nat) (x y : α) (v : Value), xs[i]? = some x → r < Rw.k α → (Rw.cs x).set r v = Rw.cs y → (flat xs).set (i * Rw.k α + r) v = flat (xs.set i y)
  | [], i, r, x, y, v, h, _, _ => by simp at h
  | z :: t, 0, r, x, y, v, h, hr, hc => by
    simp at h; subst h
    rw [flat_cons, List.set_cons_zero, flat_cons, Nat.zero_mul, Nat.zero_add, List.set_append_left _ _ (by rw [Rw.len]; exact hr), hc]
  | z :: t, i + 1, r, x, y, v, h, hr, hc => by
    have ih := flat_set t i r x y v (by simpa using h) hr hc
    rw [flat_cons, List.set_cons_succ, flat_cons, ← ih, show (i + 1) * Rw.k α + r = (Rw.cs z).length + (i * Rw.k α + r) by rw [Rw.len, Nat.add_mul, Nat.one_mul]; omega, List.set_append_right _ _ (by omega), Nat.add_sub_cancel_left]
/-- a cell of it is written over -/
theorem Tw.set1 {B : Nat} {w : World} {V : Value} {rs : List Rr} {xss : List (List Vl)} (h : Tw B w V rs xss) {i m r : Nat} {q : Rr} {g c : Nat} {xs : List Vl} {x y : Vl} {v : Value} (hq : rs[i]? = some q) (hv : q.v = .slice (some ⟨g, 0, none⟩) xs.length c) (hx : xss[i]? = some xs) (hm : xs[m]? = some x) (hr : r < 4) (hc : (Rw.cs x).set r v = Rw.cs y) :
    Tw B (w.setCell ⟨g, m * 4 + r, none⟩ v) V (rs.set i ⟨q.v, q.n, q.xs.set (m * 4 + r) v⟩) (xss.set i (xs.set m y)) := by
  have hi := (List.getElem?_eq_some_iff.1 hq).1
  have hi2 := (List.getElem?_eq_some_iff.1 hx).1
  obtain ⟨k1, k2⟩ := h.row i q xs hq hx
  refine ⟨h.she.store (by decide) hq (by rw [k1]; exact hv) _ _, by rw [List.length_set, List.length_set, h.len], fun j r' xs' hj hj' => ?_⟩
  rw [List.getElem?_set] at hj hj'
  by_cases hij : i = j
  · rw [if_pos hij, if_pos hi] at hj
    rw [if_pos hij, if_pos hi2] at hj'
    rw [← Option.some.inj hj, ← Option.some.inj hj']
    refine ⟨by rw [List.length_set]; exact k1, ?_⟩
    show q.xs.set (m * 4 + r) v = _
    rw [k2]
    exact flat_set xs m r x y v hm hr hc
  · rw [if_neg hij] at hj hj'
    exact h.row j r' xs' hj hj'
/-- a value of it is written over -/
theorem Tw.set4 {B : Nat} {w : World} {V : Value} {rs : List Rr} {xss : List (List Vl)} (h : Tw B w V rs xss) {i m : Nat} {q : Rr} {g c : Nat} {xs : List Vl} {x : Vl} (hq : rs[i]? = some q) (hv : q.v = .slice (some ⟨g, 0, none⟩) xs.length c) (hx : xss[i]? = some xs) (hm : xs[m]? = some x) (y : Vl) :
    ∃ rs', Tw B ((((w.setCell ⟨g, m * 4, none⟩ (.int .u8 y.k)).setCell ⟨g, m * 4 + 1, none⟩ (.bool y.b)).setCell ⟨g, m * 4 + 2, none⟩ (.int .i64 y.i)).setCell ⟨g, m * 4 + 3, none⟩ (.string y.s)) V rs' (xss.set i (xs.set m y)) := by
  have hi := (List.getElem?_eq_some_iff.1 hq).1
  have hi2 := (List.getElem?_eq_some_iff.1 hx).1
  have hmi := (List.getElem?_eq_some_iff.1 hm).1
  have step : ∀ (ws : World) (rs1 : List Rr) (x1 x2 : Vl) (r : Nat) (v : Value) (q1 : Rr), rs1.length = rs.length → rs1[i]? = some q1 → q1.v = .slice (some ⟨g, 0, none⟩) xs.length c → Tw B ws V rs1 (xss.set i (xs.set m x1)) → r < 4 → (Rw.cs x1).set r v = Rw.cs x2 →
      ∃ rs2 q2, rs2.length = rs.length ∧ rs2[i]? = some q2 ∧ q2.v = .slice (some ⟨g, 0, none⟩) xs.length c ∧ Tw B (ws.setCell ⟨g, m * 4 + r, none⟩ v) V rs2 (xss.set i (xs.set m x2)) := by
    intro ws rs1 x1 x2 r v q1 hl hq1 hv1 h1 hr hc
    have h2 := h1.set1 (i := i) (m := m) (r := r) (q := q1) (g := g) (c := c) (xs := xs.set m x1) (x := x1) (y := x2) (v := v) hq1 (by rw [List.length_set]; exact hv1) (by rw [List.getElem?_set, if_pos rfl, if_pos hi2]) (by rw [List.getElem?_set, if_pos rfl, if_pos hmi]) hr hc
    refine ⟨rs1.set i ⟨q1.v, q1.n, q1.xs.set (m * 4 + r) v⟩, ⟨q1.v, q1.n, q1.xs.set (m * 4 + r) v⟩, by rw [List.length_set]; exact hl, by rw [List.getElem?_set, if_pos rfl, if_pos (by omega)], hv1, ?_⟩
    rw [List.set_set, List.set_set] at h2
    exact h2
  have h0 : Tw B w V rs (xss.set i (xs.set m x)) := by
    have e1 : xs.set m x = xs := by
      obtain ⟨h1, h2⟩ := List.getElem?_eq_some_iff.1 hm
      rw [← h2]; exact List.set_getElem_self h1
    have e2 : xss.set i xs = xss := by
      obtain ⟨h1, h2⟩ := List.getElem?_eq_some_iff.1 hx
      conv => lhs; rw [← h2]
      exact List.set_getElem_self h1
    rw [e1, e2]; exact h
  obtain ⟨r1, q1, l1, g1, v1, t1⟩ := step w rs x ⟨y.k, x.b, x.i, x.s⟩ 0 (.int .u8 y.k) q rfl hq hv h0 (by decide) rfl
  obtain ⟨r2, q2, l2, g2, v2, t2⟩ := step _ r1 ⟨y.k, x.b, x.i, x.s⟩ ⟨y.k, y.b, x.i, x.s⟩ 1 (.bool y.b) q1 l1 g1 v1 t1 (by decide) rfl
  obtain ⟨r3, q3, l3, g3, v3, t3⟩ := step _ r2 ⟨y.k, y.b, x.i, x.s⟩ ⟨y.k, y.b, y.i, x.s⟩ 2 (.int .i64 y.i) q2 l2 g2 v2 t2 (by decide) rfl
  obtain ⟨r4, q4, l4, g4, v4, t4⟩ := step _ r3 ⟨y.k, y.b, y.i, x.s⟩ ⟨y.k, y.b, y.i, y.s⟩ 3 (.string y.s) q3 l3 g3 v3 t3 (by decide) rfl
  exact ⟨r4, t4⟩
/-- one event more -/
theorem Tw.add {B : Nat} {w w9 : World} {V V9 : Value} {rs : List Rr} {xss : List (List Vl)} (h : Tw B w V rs xss) {L : Value} {xs : List Vl} (hL : w.ownsRow B 28 4 L xs.length (flat xs)) (hap : ∀ q ∈ rs, ∀ g, q.v.ownBlock = some g → L.ownBlock ≠ some g) (hown : w9.ownsRow B 23 1 V9 (rs.length + 1) (rs.map Rr.v ++ [L])) (hg : w.grownBy w9 V.ownBlock) (hat : V9.ownBlock = V.ownBlock ∨ V9.ownBlock = some w.heap.size) :
    Tw B w9 V9 (rs ++ [⟨L, xs.length, flat xs⟩]) (xss ++ [xs]) := by
  refine ⟨h.she.add (by decide) (L := ⟨L, xs.length, flat xs⟩) hL (fun q hq => hap q (by simpa using hq)) hown hg hat, by rw [List.length_append, List.length_append, h.len]; rfl, fun i r ys hr hy => ?_⟩
  by_cases hi : i < rs.length
  · rw [List.getElem?_append_left hi] at hr
    rw [List.getElem?_append_left (by rw [← h.len]; exact hi)] at hy
    exact h.row i r ys hr hy
  · rw [List.getElem?_append_right (by omega)] at hr
    rw [List.getElem?_append_right (by rw [← h.len]; omega), ← h.len] at hy
    have h0 : i - rs.length = 0 := by have := (List.getElem?_eq_some_iff.1 hr).1; simp at this; omega
    rw [h0] at hr hy
    rw [← Option.some.inj hr, ← Option.some.inj hy]
    exact ⟨rfl, rfl⟩
theorem wgE_set : ∀ (xs : List Vl) (m : Nat) (x y : Vl), xs[m]? = some x → wgV y ≤ wgV x → wgE (xs.set m y) ≤ wgE xs
  | [], m, x, y, h, _ => by simp at h
  | z :: t, 0, x, y, h, hl => by simp at h; subst h; simp only [List.set_cons_zero, wgE]; omega
  | z :: t, m + 1, x, y, h, hl => by
    have := wgE_set t m x y (by simpa using h) hl
    simp only [List.set_cons_succ, wgE]; omega
theorem wgT_set : ∀ (xss : List (List Vl)) (i : Nat) (xs ys : List Vl), xss[i]? = some xs → wgE ys ≤ wgE xs → wgT (xss.set i ys) ≤ wgT xss
  | [], i, x, y, h, _ => by simp at h
  | z :: t, 0, x, y, h, hl => by simp at h; subst h; simp only [List.set_cons_zero, wgT]; omega
  | z :: t, i + 1, x, y, h, hl => by
    have := wgT_set t i x y (by simpa using h) hl
    simp only [List.set_cons_succ, wgT]; omega
theorem wgE_len : ∀ xs : List Vl, 5 * xs.length ≤ wgE xs
  | [] => by simp [wgE]
  | x :: r => by have := wgE_len r; simp only [wgE, wgV, List.length_cons]; omega
theorem wgT_len : ∀ xss : List (List Vl), xss.length ≤ wgT xss
  | [] => by simp [wgT]
  | x :: r => by have := wgT_len r; simp only [wgT, List.length_cons]; omega
theorem wgT_mem : ∀ (xss : List (List Vl)) (xs : List Vl), xs ∈ xss → wgE xs ≤ wgT xss
  | [], xs, h => by cases h
  | z :: t, xs, h => by
    rcases List.mem_cons.1 h with rfl | h
    · simp only [wgT]; omega
    · have := wgT_mem t xs h; simp only [wgT]; omega
end Go.Proofs.YtifjmdgmnpchbaaDoor
