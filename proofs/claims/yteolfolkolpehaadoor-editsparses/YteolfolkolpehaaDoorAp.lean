import Derived.Test.YteolfolkolpehaaDoorSh
import Derived.Test.YteolfolkolpehaaDoorTrim
import Derived.Lib.AppendStr
import Derived.Laws.IdiomStrings
namespace Go.Proofs.YteolfolkolpehaaDoor
open Go.ChangeShapes Go.WideShapes Go.ChangeAt Go.RowKit
set_option linter.unusedVariables false

def bc (l : List UInt8) : List Value := l.map fun b => Value.int .u8 b.toNat
theorem bc_str (s : ByteArray) : Lib.strCells s = bc s.data.toList := rfl
theorem bc_append (a b : List UInt8) : bc (a ++ b) = bc a ++ bc b := by simp [bc]
theorem bc_length (l : List UInt8) : (bc l).length = l.length := by simp [bc]

/-- by how much a list of edits makes a text longer -/
def grw : List Ed → Int
  | [] => 0
  | e :: r => ((e.s.size : Int) - (e.t - e.f)) + grw r

def tots : List Ed → Nat
  | [] => 0
  | e :: r => e.s.size + tots r

/-- the text behind the edits, from a place on -/
def appF (tx : List UInt8) : Nat → List Ed → List UInt8
  | a, [] => tx.drop a
  | a, e :: r => (tx.drop a).take (e.f.toNat - a) ++ (e.s.data.toList ++ appF tx e.t.toNat r)

theorem chk_cons {size least : Int} {e : Ed} {r : List Ed} (h : chk size least (e :: r) = 0) : 0 ≤ e.f ∧ e.f ≤ e.t ∧ e.t ≤ size ∧ least ≤ e.f ∧ chk size (e.t + 1) r = 0 := by
  rw [chk] at h
  by_cases h1 : 0 ≤ e.f ∧ e.f ≤ e.t ∧ e.t ≤ size
  · rw [if_pos h1] at h
    by_cases h2 : e.f < least
    · rw [if_pos h2] at h; omega
    · rw [if_neg h2] at h; exact ⟨h1.1, h1.2.1, h1.2.2, by omega, h⟩
  · rw [if_neg h1] at h; omega

theorem app_len {tx : List UInt8} {xs : List Ed} {L : Int} {a : Nat} (h : chk tx.length L xs = 0) (ha : (a : Int) ≤ L) (hs : a ≤ tx.length) : ((appF tx a xs).length : Int) = tx.length - a + grw xs := by
  induction xs generalizing L a with
  | nil => simp only [appF, grw, List.length_drop]; omega
  | cons e r ih =>
    obtain ⟨h1, h2, h3, h4, h5⟩ := chk_cons h
    have := ih (a := e.t.toNat) h5 (by omega) (by omega)
    simp only [appF, grw, List.length_append, List.length_take, List.length_drop, bytes_len]
    omega

theorem grw_le (xs : List Ed) (h : ∀ e ∈ xs, e.f ≤ e.t) : grw xs ≤ tots xs := by
  induction xs with
  | nil => simp [grw, tots]
  | cons e r ih =>
    have h1 := h e (List.mem_cons_self ..)
    have h2 := ih fun x hx => h x (List.mem_cons_of_mem _ hx)
    simp only [grw, tots]
    omega

theorem grw_drop {xs : List Ed} {k : Nat} {e : Ed} (he : xs[k]? = some e) : grw (xs.drop k) = ((e.s.size : Int) - (e.t - e.f)) + grw (xs.drop (k + 1)) := by
  rw [drop_get he, grw]

theorem app_bound {tx : ByteArray} {xs : List Ed} (h : chk tx.size 0 xs = 0) : ((appF tx.data.toList 0 xs).length : Int) = tx.size + grw xs ∧ grw xs ≤ tots xs := by
  have hl := bytes_len tx
  refine ⟨?_, grw_le xs fun e he => (chk_ok h e he).2.1⟩
  have := app_len (tx := tx.data.toList) (L := 0) (a := 0) (by rw [hl]; exact h) (by omega) (by omega)
  rw [hl] at this
  simpa using this

theorem app_step {tx : ByteArray} {xs : List Ed} {k a f t : Nat} {s : ByteArray} {p : List UInt8} (he : xs[k]? = some ⟨f, t, s⟩) (hp : p ++ appF tx.data.toList a (xs.drop k) = appF tx.data.toList 0 xs) :
    (p ++ (tx.extract a f).data.toList ++ s.data.toList) ++ appF tx.data.toList t (xs.drop (k + 1)) = appF tx.data.toList 0 xs := by
  rw [← hp, drop_get he, appF, Lib.extract_data]
  simp [List.append_assoc]

theorem app_end {tx : ByteArray} {xs : List Ed} {k a : Nat} {p : List UInt8} (hk : ¬ k < xs.length) (hp : p ++ appF tx.data.toList a (xs.drop k) = appF tx.data.toList 0 xs) :
    p ++ (tx.extract a tx.size).data.toList = appF tx.data.toList 0 xs := by
  rw [← hp, List.drop_eq_nil_of_le (by omega), appF, Lib.extract_to_end]

theorem nat_ed2 {size : Nat} {e : Ed} (h : 0 ≤ e.f ∧ e.f ≤ e.t ∧ e.t ≤ (size : Int)) : ∃ f t : Nat, e = ⟨f, t, e.s⟩ ∧ f ≤ t ∧ t ≤ size := by
  obtain ⟨f, hf⟩ := Int.eq_ofNat_of_zero_le h.1
  obtain ⟨t, ht⟩ := Int.eq_ofNat_of_zero_le (Int.le_trans h.1 h.2.1)
  refine ⟨f, t, ?_, by omega, by omega⟩
  cases e
  simp only at hf ht
  rw [hf, ht]

theorem own_ne_box {w : World} {base e size n g : Nat} {v : Value} {xs : List Value} {f t : Int} {s : ByteArray} (h : w.ownsRow base e size v n xs) (hb : Box w g f t s) (he : e ≠ 45) : v.ownBlock ≠ some g := by
  rcases h.2 with ⟨rfl, _⟩ | ⟨g', cap, cur, rfl, _, hh, _⟩
  · intro h; cases h
  · intro h
    have : g' = g := by simpa [Value.ownBlock] using h
    subst this
    rw [show w.heap[g']? = _ from hb] at hh
    simp only [Option.some.injEq, Obj.cells.injEq] at hh
    exact he hh.2.1.symm

theorem Box.grown {w w' : World} {g : Nat} {f t : Int} {s : ByteArray} {row : Option Nat} (h : Box w g f t s) (hg : w.grownBy w' row) (hne : row ≠ some g) : Box w' g f t s :=
  (hg.block g h.lt (fun e => hne e.symm)).trans h

/-- the bytes of a row of the call's own, made a text -/
theorem own_string {w : World} {base n cap g : Nat} {l : List UInt8} (h : w.ownsRow base 5 1 (.slice (some ⟨g, 0, none⟩) n cap) n (bc l)) :
    (convert 59 9 (.slice (some ⟨g, 0, none⟩) n cap)).run Tryd.prog w = .ok (.string ⟨l.toArray⟩) w := by
  have hn : n = l.length := by have := h.1; rw [bc_length] at this; omega
  subst hn
  exact run_convert_bytes_back (P := Tryd.prog) w 59 9 5 ⟨g, 0, none⟩ cap l Tryd.underlying59 Tryd.underlying5 Tryd.underlying9 (fun j hj => h.cells rfl j _ (by simp [bc, hj]))

theorem nil_string (w : World) : (convert 59 9 (.slice none 0 0)).run Tryd.prog w = .ok (.string ⟨#[]⟩) w := by kernel_rfl

theorem own_string_any {w : World} {base n : Nat} {v : Value} {l : List UInt8} (h : w.ownsRow base 5 1 v n (bc l)) : (convert 59 9 v).run Tryd.prog w = .ok (.string ⟨l.toArray⟩) w := by
  rcases h.2 with ⟨rfl, h2⟩ | ⟨g, cp, cur, rfl, _⟩
  · have hl : l = [] := List.eq_nil_of_length_eq_zero (by have := h.1; rw [bc_length] at this; omega)
    subst hl
    exact nil_string w
  · exact own_string h

theorem own_bytes {w : World} {base e : Nat} {v : Value} {n : Nat} {l : List UInt8} (h : w.ownsRow base e 1 v n (bc l)) : n = l.length := by
  have := h.1; rw [bc_length] at this; omega
end Go.Proofs.YteolfolkolpehaaDoor
