import Derived.Test.YteolfolkolpehaaDoorRows
import Derived.WalkKit
import Derived.ProofKit
import Derived.OpenShut
import Derived.ShutString
import Derived.ChangeOld
import Derived.Below
import Derived.Handy
import Derived.Deep.Slices
import Derived.Deep.Strs
import Derived.Deep.LoopGhost
import Derived.Deep.QuietTactic
import Derived.BigQuiet
import Derived.WalkSpells
import Derived.WalkMore
import Derived.WalkSmall
namespace Go.Proofs.YteolfolkolpehaaDoor
open Go.ChangeShapes Go.WideShapes Go.ChangeAt Go.RowKit
set_option linter.unusedVariables false

structure Ed where
  f : Int
  t : Int
  s : ByteArray

/-- the cells of a list of edits, from a place on -/
def Eds (w : World) (b o : Nat) (xs : List Ed) : Prop :=
  b < w.heap.size ∧ ∀ i (e : Ed), xs[i]? = some e → w.cell? ⟨b, o + i * 3, none⟩ = some (.int .i64 e.f) ∧ w.cell? ⟨b, o + i * 3 + 1, none⟩ = some (.int .i64 e.t) ∧ w.cell? ⟨b, o + i * 3 + 2, none⟩ = some (.string e.s)

def EdFit (e : Ed) : Prop := -9223372036854775808 ≤ e.f ∧ e.f ≤ 9223372036854775807 ∧ -9223372036854775808 ≤ e.t ∧ e.t ≤ 9223372036854775807 ∧ e.s.size ≤ 140737488351232

/-- .. or nothing, wherever it lies -/
def EdsA (w : World) (a : Option Addr) (xs : List Ed) : Prop := xs = [] ∨ ∃ b o, a = some ⟨b, o, none⟩ ∧ Eds w b o xs

/-- the check of a list of edits, behind its length -/
def chk (size : Int) : Int → List Ed → Int
  | _, [] => 0
  | least, e :: r => if 0 ≤ e.f ∧ e.f ≤ e.t ∧ e.t ≤ size then (if e.f < least then 11 else chk size (e.t + 1) r) else 10

def vld (size : Int) (xs : List Ed) : Int := if 65536 < xs.length then 2 else chk size 0 xs

theorem drop_get {α : Type} {xs : List α} {k : Nat} {e : α} (h : xs[k]? = some e) : xs.drop k = e :: xs.drop (k + 1) := by
  obtain ⟨hk, he⟩ := List.getElem?_eq_some_iff.1 h
  rw [List.drop_eq_getElem_cons hk, he]

theorem Eds.below {B : Nat} {w w' : World} {b o : Nat} {xs : List Ed} (h : Eds w b o xs) (hb : Below B w w') (hB : b < B) : Eds w' b o xs := by
  refine ⟨Nat.lt_of_lt_of_le h.1 hb.size, fun i e he => ?_⟩
  obtain ⟨h0, h1, h2⟩ := h.2 i e he
  exact ⟨(hb.cell (p := ⟨b, _, none⟩) hB).trans h0, (hb.cell (p := ⟨b, _, none⟩) hB).trans h1, (hb.cell (p := ⟨b, _, none⟩) hB).trans h2⟩

theorem EdsA.below {w w' : World} {a : Option Addr} {xs : List Ed} (h : EdsA w a xs) (hb : Below w.heap.size w w') : EdsA w' a xs := by
  rcases h with h | ⟨b, o, ha, h⟩
  · exact .inl h
  · exact .inr ⟨b, o, ha, h.below hb h.1⟩

/-- the cells of a list, one behind the other -/
def flat (xs : List Ed) : List Value := xs.flatMap fun e => [.int .i64 e.f, .int .i64 e.t, .string e.s]

theorem flat_cons (e : Ed) (r : List Ed) : flat (e :: r) = .int .i64 e.f :: .int .i64 e.t :: .string e.s :: flat r := by simp [flat]

theorem flat_length (xs : List Ed) : (flat xs).length = xs.length * 3 := by
  induction xs with
  | nil => rfl
  | cons e r ih => rw [flat_cons]; simp [ih]; omega

theorem flat_append (xs ys : List Ed) : flat (xs ++ ys) = flat xs ++ flat ys := by simp [flat]

theorem flat_get (xs : List Ed) (i r : Nat) (hr : r < 3) : (flat xs)[i * 3 + r]? = (xs[i]?).map fun e => if r = 0 then .int .i64 e.f else if r = 1 then .int .i64 e.t else .string e.s := by
  induction xs generalizing i with
  | nil => simp [flat]
  | cons e t ih =>
    rw [flat_cons]
    match i with
    | 0 => match r, hr with
      | 0, _ => simp
      | 1, _ => simp
      | 2, _ => simp
    | i + 1 =>
      rw [show (i + 1) * 3 + r = (i * 3 + r) + 3 by omega]
      simpa using ih i

theorem flat_oneCell (xs : List Ed) : ∀ u ∈ flat xs, u.oneCell' = true := by
  intro u hu
  simp only [flat, List.mem_flatMap] at hu
  obtain ⟨e, _, h⟩ := hu
  simp at h
  rcases h with rfl | rfl | rfl <;> rfl

theorem Eds.flat {w : World} {b o : Nat} {xs : List Ed} (h : Eds w b o xs) : ∀ j u, (flat xs)[j]? = some u → w.cell? ((⟨b, o, none⟩ : Addr).add j) = some u := by
  intro j u hj
  have e : j = j / 3 * 3 + j % 3 := by omega
  rw [e, flat_get xs _ _ (by omega)] at hj
  obtain ⟨x, hx, hu⟩ := Option.map_eq_some_iff.1 hj
  obtain ⟨h0, h1, h2⟩ := h.2 _ _ hx
  have ha : (⟨b, o, none⟩ : Addr).add j = ⟨b, o + j, none⟩ := by
    unfold Addr.add; by_cases hz : j = 0 <;> simp [hz]
  rw [ha]
  have h3 : j % 3 < 3 := by omega
  generalize j / 3 = q at *
  generalize j % 3 = r at *
  subst e
  match r, h3 with
  | 0, _ => simp at hu; subst hu; simpa using h0
  | 1, _ => simp at hu; subst hu; simpa [Nat.add_assoc] using h1
  | 2, _ => simp at hu; subst hu; simpa [Nat.add_assoc] using h2

theorem Eds.of_flat {w : World} {b o : Nat} {xs : List Ed} (hb : b < w.heap.size) (h : ∀ j u, (_root_.Go.Proofs.YteolfolkolpehaaDoor.flat xs)[j]? = some u → w.cell? ((⟨b, o, none⟩ : Addr).add j) = some u) : Eds w b o xs := by
  refine ⟨hb, fun i e he => ?_⟩
  have ha : ∀ j, (⟨b, o, none⟩ : Addr).add j = ⟨b, o + j, none⟩ := by
    intro j; unfold Addr.add; by_cases hz : j = 0 <;> simp [hz]
  refine ⟨?_, ?_, ?_⟩
  · have := h (i * 3 + 0) (.int .i64 e.f) (by rw [flat_get xs i 0 (by omega), he]; rfl)
    rw [ha] at this; simpa using this
  · have := h (i * 3 + 1) (.int .i64 e.t) (by rw [flat_get xs i 1 (by omega), he]; rfl)
    rw [ha] at this; simpa [Nat.add_assoc] using this
  · have := h (i * 3 + 2) (.string e.s) (by rw [flat_get xs i 2 (by omega), he]; rfl)
    rw [ha] at this; simpa [Nat.add_assoc] using this

/-- a row of the call's own, as a list of edits -/
theorem Eds.own {w : World} {base e n cap g : Nat} {xs : List Ed} (h : w.ownsRow base e 3 (.slice (some ⟨g, 0, none⟩) n cap) n (_root_.Go.Proofs.YteolfolkolpehaaDoor.flat xs)) : Eds w g 0 xs :=
  Eds.of_flat (h.lt g rfl).2 (h.cells rfl)

theorem cells_new (w : World) (l : List Value) (t : TypeId) : ∀ j u, l[j]? = some u → (w.alloc (.cells l.toArray t)).cell? ((⟨w.heap.size, 0, none⟩ : Addr).add j) = some u := by
  intro j u hj
  have ha : (⟨w.heap.size, 0, none⟩ : Addr).add j = ⟨w.heap.size, j, none⟩ := by
    unfold Addr.add; by_cases hz : j = 0 <;> simp [hz]
  rw [ha, World.cell?_alloc_at _ _ _ _ rfl]
  simpa using hj

def room : ByteArray := ⟨#[114, 111, 111, 109]⟩
def marks : List Ed := [⟨-9, 0, room⟩, ⟨-8, 0, ⟨#[]⟩⟩, ⟨0, -7, ⟨#[]⟩⟩]

theorem Eds.pre {w : World} {b o : Nat} {xs ys : List Ed} (h : Eds w b o (xs ++ ys)) : Eds w b o xs := by
  refine ⟨h.1, fun i e he => h.2 i e ?_⟩
  rw [List.getElem?_append_left (List.getElem?_eq_some_iff.1 he).1]
  exact he

theorem ownsRow_below {w w' : World} {base e size n B : Nat} {v : Value} {xs : List Value} (h : w.ownsRow base e size v n xs) (hb : Below B w w') (hB : w.heap.size ≤ B) : w'.ownsRow base e size v n xs := by
  obtain ⟨h1, h2⟩ := h
  refine ⟨h1, ?_⟩
  rcases h2 with h2 | ⟨g, cap, cur, hv, hg, hh, r⟩
  · exact .inl h2
  · exact .inr ⟨g, cap, cur, hv, hg, (hb.block g (Nat.lt_of_lt_of_le (lt_of_block hh) hB)).trans hh, r⟩

/-- what the call has built, as a slice of edits -/
theorem own_form {w : World} {base e n : Nat} {v : Value} {xs : List Ed} (h : w.ownsRow base e 3 v n (flat xs)) : ∃ a cap, v = .slice a n cap ∧ EdsA w a xs ∧ n = xs.length ∧ (a = none → n = 0 ∧ cap = 0) := by
  have hn : n = xs.length := by have := h.1; rw [flat_length] at this; omega
  rcases h.2 with ⟨h1, h2⟩ | ⟨g, cap, cur, hv, hg, hh, r⟩
  · refine ⟨none, 0, by rw [h1, h2], .inl (List.eq_nil_of_length_eq_zero (by omega)), hn, fun _ => ⟨h2, rfl⟩⟩
  · subst hv
    exact ⟨some ⟨g, 0, none⟩, cap, rfl, .inr ⟨g, 0, rfl, Eds.own h⟩, hn, fun h => by cases h⟩

theorem chk_bad {size least : Int} {xs : List Ed} {k : Nat} {e : Ed} (hm : ¬ 65536 < (xs.length : Int)) (hc : chk size 0 xs = chk size least (xs.drop k)) (he : xs[k]? = some e) (h : ¬ (0 ≤ e.f ∧ e.f ≤ e.t ∧ e.t ≤ size)) : vld size xs = 10 := by
  rw [vld, if_neg (by omega), hc, drop_get he, chk, if_neg h]

theorem chk_ord {size least : Int} {xs : List Ed} {k : Nat} {e : Ed} (hm : ¬ 65536 < (xs.length : Int)) (hc : chk size 0 xs = chk size least (xs.drop k)) (he : xs[k]? = some e) (h : 0 ≤ e.f ∧ e.f ≤ e.t ∧ e.t ≤ size) (h2 : e.f < least) : vld size xs = 11 := by
  rw [vld, if_neg (by omega), hc, drop_get he, chk, if_pos h, if_pos h2]

theorem chk_step {size least : Int} {xs : List Ed} {k : Nat} {e : Ed} (hc : chk size 0 xs = chk size least (xs.drop k)) (he : xs[k]? = some e) (h : 0 ≤ e.f ∧ e.f ≤ e.t ∧ e.t ≤ size) (h2 : ¬ e.f < least) : chk size 0 xs = chk size (e.t + 1) (xs.drop (k + 1)) := by
  rw [hc, drop_get he, chk, if_pos h, if_neg h2]

theorem chk_end {size least : Int} {xs : List Ed} {k : Nat} (hm : ¬ 65536 < (xs.length : Int)) (hc : chk size 0 xs = chk size least (xs.drop k)) (h : ¬ k < xs.length) : vld size xs = 0 := by
  rw [vld, if_neg (by omega), hc, List.drop_eq_nil_of_le (by omega), chk]

theorem ret_i64 {a b : Int} (h : a = b) : Ending.returned (.int .i64 a) = .returned (.int .i64 b) := by rw [h]

theorem Eds.cells {w : World} {b o : Nat} {xs : List Ed} (h : Eds w b o xs) {w' : World} (hb : Below w.heap.size w w') {i : Nat} {e : Ed} (he : xs[i]? = some e) :
    w'.cell? ⟨b, o + i * 3, none⟩ = some (.int .i64 e.f) ∧ w'.cell? ⟨b, o + i * 3 + 1, none⟩ = some (.int .i64 e.t) ∧ w'.cell? ⟨b, o + i * 3 + 2, none⟩ = some (.string e.s) :=
  (h.below hb h.1).2 i e he

end Go.Proofs.YteolfolkolpehaaDoor
