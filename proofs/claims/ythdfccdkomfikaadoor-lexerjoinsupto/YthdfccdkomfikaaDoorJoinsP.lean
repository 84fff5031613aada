import Derived.Test.YthdfccdkomfikaaDoorLmz
import Derived.Test.YthdfccdkomfikaaDoorSmT
import Derived.Test.YthdfccdkomfikaaDoorLc5
namespace Go.Proofs.YthdfccdkomfikaaDoor
open Go.ChangeShapes Go.WideShapes Go.ChangeAt Go.RowKit Go.Maps Go.WideMaps
set_option linter.unusedVariables false
set_option linter.unusedSimpArgs false

theorem hid_of {p : Prop} (h : p) : Hid p := h
def MaxL (w : World) : Prop := ∃ m, w.cell? ⟨1, 0, none⟩ = some (.int .i64 m)
theorem MaxL.below {w w' : World} (h : MaxL w) (hb : Below w.heap.size w w') : MaxL w' := by
  obtain ⟨m, hm⟩ := h
  exact ⟨m, (hb.cell (p := ⟨1, 0, none⟩) (World.block_lt_of_cell? _ _ hm)).trans hm⟩
/-- Scan of a text with a fault -/
theorem scan_no {s : ByteArray} (hs : s.size ≤ 4294967280) {y z : Nat} (hc : (cut s 0).2 = some (y, z)) (w : World) (hS : Spl w) (hT : Lt w) (hM : MaxL w) :
    Calls Tryd.prog 6 #[.string s] w fun e w' => e = .returned (.tuple #[.slice none 0 0, .agg #[.int .i64 (y : Int), .int .i64 0, .int .i64 (z : Int)]]) ∧ Below w.heap.size w w' := by
  refine (Scan_any s hs w hS hT hM).mono fun e w' h => ?_
  unfold SnE at h
  rw [hc] at h
  exact ⟨h.2, h.1⟩
/-- .. and of one without -/
theorem scan_ok {s : ByteArray} (hs : s.size ≤ 4294967280) (hc : (cut s 0).2 = none) (w : World) (hS : Spl w) (hT : Lt w) (hM : MaxL w) :
    Calls Tryd.prog 6 #[.string s] w fun e w' => ∃ a c, e = .returned (.tuple #[.slice a (wau s (cut s 0).1).length c, .agg #[.int .i64 0, .int .i64 0, .int .i64 0]]) ∧ LiesA w' a (wau s (cut s 0).1) ∧ (wau s (cut s 0).1).length ≤ c ∧ (a = none → c = 0) ∧ Below w.heap.size w w' := by
  refine (Scan_any s hs w hS hT hM).mono fun e w' h => ?_
  unfold SnE at h
  rw [hc] at h
  obtain ⟨hb, v, he, ho⟩ := h
  obtain ⟨a, c, rfl, hl, -, hn⟩ := own_form ho
  refine ⟨a, c, he, hl, ?_, fun h => (hn h).2, hb⟩
  rcases ho.2 with ⟨h1, h2⟩ | ⟨g, cap, cur, hv, hg, hh, hcap, -⟩
  · omega
  · cases hv; exact hcap
theorem wau_pos {s : ByteArray} (hc : (cut s 0).2 = none) (h : 0 < s.size) : 0 < (wau s (cut s 0).1).length := by
  cases hp : pce s 0 with
  | no y z => rw [cut_no h hp] at hc; cases hc
  | ok k t => rw [cut_ok h hp]; simp [wau]

theorem wau_len (s : ByteArray) : ∀ l, (wau s l).length ≤ 2 * l.length
  | [] => by simp [wau]
  | q :: r => by
    have := wau_len s r
    rw [wau]
    split <;> simp <;> omega
theorem wau_max {s : ByteArray} (hs : s.size ≤ 4294967280) : (wau s (cut s 0).1).length ≤ 8589934560 := by
  have h1 := wau_len s (cut s 0).1
  have h2 := (cut_all s s.size 0 (by omega)).2
  omega
end Go.Proofs.YthdfccdkomfikaaDoor

namespace Go.Proofs.YthdfccdkomfikaaDoor
open Go.ChangeShapes Go.WideShapes Go.ChangeAt Go.RowKit Go.Maps Go.WideMaps
set_option linter.unusedVariables false
set_option linter.unusedSimpArgs false

theorem bt_app (a b : ByteArray) (j : Nat) : bt (a ++ b) j = if j < a.size then bt a j else bt b (j - a.size) := by
  have hz : (a ++ b).size = a.size + b.size := ByteArray.size_append
  by_cases h : j < a.size
  · rw [if_pos h, bt_in (show j < (a ++ b).size by omega), bt_in h, ByteArray.getElem_append_left h]
  · rw [if_neg h]
    by_cases h2 : j < (a ++ b).size
    · rw [bt_in h2, bt_in (show j - a.size < b.size by omega), ByteArray.getElem_append_right (by omega)]
    · rw [bt_out h2, bt_out (by omega)]
theorem jn_of (a b : ByteArray) : Jn a b (a ++ ⟨#[10]⟩ ++ b) := by
  have h1 : (⟨#[10]⟩ : ByteArray).size = 1 := rfl
  have hz : (a ++ ⟨#[10]⟩ : ByteArray).size = a.size + 1 := by rw [ByteArray.size_append, h1]
  refine ⟨by rw [ByteArray.size_append, hz], fun j hj => ?_, ?_, fun j => ?_⟩
  · rw [bt_app, if_pos (by omega), bt_app, if_pos hj]
  · rw [bt_app, if_pos (by omega), bt_app, if_neg (by omega), Nat.sub_self]; rfl
  · rw [bt_app, if_neg (by omega), hz]
    congr 1
    omega
theorem rlB_last : ∀ (xs : List Tk) (q : Tk), rlB (xs ++ [q]) = (if q.k = 0 then xs else xs ++ [q])
  | [], q => by by_cases h : q.k = 0 <;> simp [rlB, h]
  | x :: r, q => by
    rw [List.cons_append, rlB, if_neg (by simp), rlB_last r q]
    split <;> simp
theorem frB_last (A : Nat) : ∀ (xs : List Tk) (q : Tk), frB A (xs ++ [q]) = (if q.k = 0 then q.f else A)
  | [], q => by by_cases h : q.k = 0 <;> simp [frB, h]
  | x :: r, q => by rw [List.cons_append, frB, if_neg (by simp), frB_last A r q]
theorem take_next {L : List Tk} {i : Nat} {q : Tk} (h : L[i]? = some q) : L.take (i + 1) = L.take i ++ [q] := by
  rw [List.take_add_one, h]; rfl
theorem take_last {L : List Tk} {i : Nat} {q : Tk} (h : L[i]? = some q) (hl : i + 1 = L.length) : L = L.take i ++ [q] := by
  rw [← take_next h, hl, List.take_length]
/-- what loop 1 has put together -/
def J1 (A : Nat) (L : List Tk) (i : Nat) (acc : List Tk) (fr : Int) : Prop := (i < L.length → acc = L.take i ∧ fr = (A : Int)) ∧ (i = L.length → acc = rlB L ∧ fr = frB A L)
theorem J1.start (A : Nat) (L : List Tk) : J1 A L 0 [] A := by
  refine ⟨fun _ => ⟨by simp, rfl⟩, fun h => ?_⟩
  have : L = [] := List.eq_nil_of_length_eq_zero h.symm
  subst this
  exact ⟨rfl, rfl⟩
theorem J1.skip {A : Nat} {L : List Tk} {i : Nat} {acc : List Tk} {fr : Int} {q : Tk} (h : J1 A L i acc fr) (hq : L[i]? = some q) (hl : i + 1 = L.length) (h0 : q.k = 0) : J1 A L (i + 1) acc q.f := by
  refine ⟨fun h => by omega, fun _ => ?_⟩
  obtain ⟨e1, e2⟩ := h.1 (by omega)
  have e := take_last hq hl
  constructor
  · rw [e, rlB_last, if_pos h0]; exact e1
  · rw [e, frB_last, if_pos h0]
theorem J1.put {A : Nat} {L : List Tk} {i : Nat} {acc : List Tk} {fr : Int} {q : Tk} (h : J1 A L i acc fr) (hq : L[i]? = some q) (hl : i + 1 = L.length → q.k ≠ 0) : J1 A L (i + 1) (acc ++ [q]) fr := by
  have hi : i < L.length := (List.getElem?_eq_some_iff.1 hq).1
  obtain ⟨e1, e2⟩ := h.1 hi
  refine ⟨fun _ => ⟨by rw [take_next hq, e1], e2⟩, fun h1 => ?_⟩
  have e := take_last hq h1
  constructor
  · rw [e, rlB_last, if_neg (hl h1), e1]
    first | done | rw [← e]
  · rw [e2]
    conv => rhs; rw [e]
    rw [frB_last, if_neg (hl h1)]
/-- loop 2: where the seam ends -/
def J2 (A : Nat) (L : List Tk) (i : Nat) (tt : Int) : Prop := tt = (A : Int) + 1 + (if i = 0 then 0 else hdB L)
theorem J2.next {A : Nat} {L : List Tk} {i : Nat} {tt : Int} {q : Tk} (h : J2 A L i tt) (hq : L[i]? = some q) (hk : ¬ (i = 0 ∧ q.k = 0)) : J2 A L (i + 1) tt := by
  unfold J2 at *
  rw [h, if_neg (Nat.succ_ne_zero i)]
  by_cases h0 : i = 0
  · subst h0
    cases L with
    | nil => cases hq
    | cons x r =>
      have e : x = q := by simpa using hq
      subst e
      have hk0 : x.k ≠ 0 := fun e => hk ⟨rfl, e⟩
      simp [hdB, hk0]
  · rw [if_neg h0]
theorem J2.first {A : Nat} {L : List Tk} {tt : Int} {q : Tk} (h : J2 A L 0 tt) (hq : L[0]? = some q) (hk : q.k = 0) : J2 A L 1 (tt + q.t) := by
  unfold J2 at *
  rw [h]
  cases L with
  | nil => cases hq
  | cons x r =>
    have e : x = q := by simpa using hq
    subst e
    simp [hdB, hk]
theorem J2.done {A : Nat} {L : List Tk} {tt : Int} (h : J2 A L L.length tt) : tt = (A : Int) + 1 + hdB L := by
  unfold J2 at h
  rw [h]
  by_cases h0 : L.length = 0
  · have : L = [] := List.eq_nil_of_length_eq_zero h0
    subst this
    rfl
  · rw [if_neg h0]
theorem tlB_next {L : List Tk} {i : Nat} {q : Tk} (hq : L[i]? = some q) : tlB (L.take (i + 1)) = tlB (L.take i) ++ (if 0 < i ∨ q.k ≠ 0 then [q] else []) := by
  rw [take_next hq]
  by_cases h0 : i = 0
  · subst h0
    by_cases hk : q.k = 0 <;> simp [tlB, hk]
  · rw [if_pos (.inl (by omega))]
    have hi : i < L.length := (List.getElem?_eq_some_iff.1 hq).1
    cases L with
    | nil => simp at hi
    | cons x r =>
      cases i with
      | zero => exact absurd rfl h0
      | succ n =>
        rw [List.take_succ_cons, List.cons_append, tlB, tlB]
        split <;> simp
end Go.Proofs.YthdfccdkomfikaaDoor
