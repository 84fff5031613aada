import Derived.Test.YtifjmdgmnpchbaaDoorLx4
import Derived.Test.YtifjmdgmnpchbaaDoorLsr
import Derived.Lib.ItoaLen
import Derived.Lib.AppendIntMem
namespace Go.Proofs.YtifjmdgmnpchbaaDoor
open Go.ChangeShapes Go.WideShapes Go.ChangeAt Go.RowKit
set_option linter.unusedVariables false
set_option linter.unusedSimpArgs false

/-- what a value is shown as -/
def shw (x : Vl) : List UInt8 := if rgt x then (if x.k = 1 then (if x.b then [116, 114, 117, 101] else [102, 97, 108, 115, 101]) else if x.k = 2 then Lib.itoa x.i else qt x.s) else []
/-- the values of an event, a blank between any two -/
def evr : Bool → List Vl → List UInt8
  | _, [] => []
  | f, x :: r => (if f then [] else [32]) ++ shw x ++ evr false r
/-- a trace, a line an event -/
def shT : List (List Vl) → List UInt8
  | [] => []
  | l :: r => evr true l ++ [10] ++ shT r

theorem qs_len (s : ByteArray) : ∀ n k, s.size - k ≤ n → (qs s n k).length ≤ 4 * (s.size - k) := by
  intro n
  induction n with
  | zero =>
    intro k hk
    rw [qs_end s 0 k (by omega)]
    simp
  | succ n ih =>
    intro k hk
    by_cases h : k < s.size
    · have h1 := q1_len s k h
      have ⟨f1, f2, _, _⟩ := dec_facts s k h
      have e : qs s (n + 1) k = q1 s k h ++ qs s n (k + wd s k) := by rw [qs, dif_pos h]
      rw [e, List.length_append]
      have := ih (k + wd s k) (by omega)
      omega
    · rw [qs_end s (n + 1) k h]
      simp
theorem qt_len (s : ByteArray) : (qt s).length ≤ 4 * s.size + 2 := by
  have := qs_len s s.size 0 (by omega)
  unfold qt
  simp
  omega

/-- a value whose numbers are in bounds, with a text of at most a million bytes -/
def VlOk (x : Vl) : Prop := -9223372036854775808 ≤ x.i ∧ x.i ≤ 9223372036854775807 ∧ x.s.size ≤ 1048576
def wgV (x : Vl) : Nat := x.s.size + 5
def wgE : List Vl → Nat
  | [] => 0
  | x :: r => wgV x + wgE r
def wgT : List (List Vl) → Nat
  | [] => 0
  | l :: r => 1 + wgE l + wgT r
theorem shw_len (x : Vl) (h : VlOk x) : (shw x).length ≤ 4 * x.s.size + 21 := by
  unfold shw
  by_cases h1 : rgt x = true
  · rw [if_pos h1]
    by_cases h2 : x.k = 1
    · rw [if_pos h2]; by_cases h3 : x.b = true <;> simp [h3] <;> omega
    · rw [if_neg h2]
      by_cases h3 : x.k = 2
      · rw [if_pos h3]; have := Lib.itoa_length_le x.i h.1 h.2.1; omega
      · rw [if_neg h3]; have := qt_len x.s; omega
  · rw [if_neg h1]; simp
theorem evr_len : ∀ (f : Bool) (l : List Vl), (∀ x ∈ l, VlOk x) → (evr f l).length ≤ 5 * wgE l
  | _, [], _ => by simp [evr, wgE]
  | f, x :: r, h => by
    have h1 := shw_len x (h x (by simp))
    have h2 := evr_len false r (fun y hy => h y (by simp [hy]))
    have h3 : (if f then [] else [32] : List UInt8).length ≤ 1 := by cases f <;> simp
    rw [evr, List.length_append, List.length_append, wgE, wgV]
    omega
theorem shT_len : ∀ (ls : List (List Vl)), (∀ l ∈ ls, ∀ x ∈ l, VlOk x) → (shT ls).length ≤ 5 * wgT ls
  | [], _ => by simp [shT, wgT]
  | l :: r, h => by
    have h1 := evr_len true l (h l (by simp))
    have h2 := shT_len r (fun m hm => h m (by simp [hm]))
    rw [shT, List.length_append, List.length_append, wgT]
    simp
    omega
theorem shT_step {ls : List (List Vl)} {i : Nat} {l : List Vl} (h : ls[i]? = some l) : shT (ls.drop i) = evr true l ++ [10] ++ shT (ls.drop (i + 1)) := by
  rw [drop_get h, shT]
theorem shT_end {ls : List (List Vl)} {i : Nat} (h : ls.length ≤ i) : shT (ls.drop i) = [] := by
  rw [List.drop_of_length_le h]; rfl
theorem evr_step {l : List Vl} {k : Nat} {x : Vl} (f : Bool) (h : l[k]? = some x) : evr f (l.drop k) = (if f then [] else [32]) ++ shw x ++ evr false (l.drop (k + 1)) := by
  rw [drop_get h, evr]
theorem evr_end {l : List Vl} {k : Nat} (f : Bool) (h : l.length ≤ k) : evr f (l.drop k) = [] := by
  rw [List.drop_of_length_le h]; cases f <;> rfl

instance : Rw Vl := ⟨4, fun e => [.int .u8 e.k, .bool e.b, .int .i64 e.i, .string e.s], fun _ => rfl, fun e u h => by simp at h; rcases h with rfl | rfl | rfl | rfl <;> rfl, by decide⟩
theorem Lies.vl {w : World} {b o : Nat} {xs : List Vl} (h : Lies w b o xs) {i : Nat} {e : Vl} (he : xs[i]? = some e) : w.cell? ⟨b, o + i * 4, none⟩ = some (.int .u8 e.k) ∧ w.cell? ⟨b, o + i * 4 + 1, none⟩ = some (.bool e.b) ∧ w.cell? ⟨b, o + i * 4 + 2, none⟩ = some (.int .i64 e.i) ∧ w.cell? ⟨b, o + i * 4 + 3, none⟩ = some (.string e.s) :=
  ⟨h.get he 0 (.int .u8 e.k) rfl, h.get he 1 (.bool e.b) rfl, h.get he 2 (.int .i64 e.i) rfl, h.get he 3 (.string e.s) rfl⟩

/-- an event: where its values lie -/
structure Rg where
  a : Option Addr
  c : Nat
  xs : List Vl
instance : Rw Rg := ⟨1, fun e => [.slice e.a e.xs.length e.c], fun _ => rfl, fun e u h => by simp at h; subst h; rfl, by decide⟩
theorem Lies.rg {w : World} {b o : Nat} {xs : List Rg} (h : Lies w b o xs) {i : Nat} {e : Rg} (he : xs[i]? = some e) : w.cell? ⟨b, o + i, none⟩ = some (.slice e.a e.xs.length e.c) := by
  have := h.get he 0 (.slice e.a e.xs.length e.c) rfl
  simpa [show Rw.k Rg = 1 from rfl] using this
/-- a trace lies there -/
def Tr (w : World) (a : Option Addr) (rs : List Rg) : Prop := LiesA w a rs ∧ ∀ r ∈ rs, LiesA w r.a r.xs
theorem Tr.below {w w' : World} {a : Option Addr} {rs : List Rg} (h : Tr w a rs) (hb : Below w.heap.size w w') : Tr w' a rs := ⟨h.1.below hb, fun r hr => (h.2 r hr).below hb⟩
theorem Tr.row {w : World} {a : Option Addr} {rs : List Rg} (h : Tr w a rs) {i : Nat} {r : Rg} (hr : rs[i]? = some r) : ∃ b o, a = some ⟨b, o, none⟩ ∧ b < w.heap.size ∧ w.cell? ⟨b, o + i, none⟩ = some (.slice r.a r.xs.length r.c) := by
  rcases h.1 with h1 | ⟨b, o, ha, h1⟩
  · subst h1; cases hr
  · exact ⟨b, o, ha, h1.1, h1.rg hr⟩
theorem LiesA.vl {w : World} {a : Option Addr} {xs : List Vl} (h : LiesA w a xs) {i : Nat} {e : Vl} (he : xs[i]? = some e) : ∃ b o, a = some ⟨b, o, none⟩ ∧ b < w.heap.size ∧ w.cell? ⟨b, o + i * 4, none⟩ = some (.int .u8 e.k) ∧ w.cell? ⟨b, o + i * 4 + 1, none⟩ = some (.bool e.b) ∧ w.cell? ⟨b, o + i * 4 + 2, none⟩ = some (.int .i64 e.i) ∧ w.cell? ⟨b, o + i * 4 + 3, none⟩ = some (.string e.s) := by
  rcases h with h1 | ⟨b, o, ha, h1⟩
  · subst h1; cases he
  · exact ⟨b, o, ha, h1.1, h1.vl he⟩

/-- the tables that are read -/
def Tbs (w : World) : Prop := (1 < w.heap.size ∧ 2 < w.heap.size) ∧ Lib.Utf8Tabs 1 2 w ∧ Lib.TabIs Tryd.prog w "internal/strconv.uint64pow10" .u64 Lib.pow10Tab
theorem gPow10 : Tryd.prog.globalNamed "internal/strconv.uint64pow10" = some 0 := by kernel_rfl
theorem Tbs.below {w w' : World} (h : Tbs w) (hb : Below w.heap.size w w') : Tbs w' :=
  ⟨⟨Nat.lt_of_lt_of_le h.1.1 hb.size, Nat.lt_of_lt_of_le h.1.2 hb.size⟩, tabs_below h.2.1 hb h.1.1 h.1.2, Joins.tab_stays gPow10 h.2.2 hb (Nat.le_refl _)⟩
end Go.Proofs.YtifjmdgmnpchbaaDoor
