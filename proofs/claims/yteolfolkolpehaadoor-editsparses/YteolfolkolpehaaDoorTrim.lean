import Derived.Test.YteolfolkolpehaaDoorBase
import Derived.Lib.Strings
import Derived.Lib.IndexBytes
namespace Go.Proofs.YteolfolkolpehaaDoor
open Go.ChangeShapes Go.WideShapes Go.ChangeAt Go.RowKit
set_option linter.unusedVariables false

/-- a variable of the kind Edit, in a block of its own -/
def Box (w : World) (g : Nat) (f t : Int) (s : ByteArray) : Prop := w.heap[g]? = some (.cells #[.int .i64 f, .int .i64 t, .string s] 45 (0, 0))

theorem Box.lt {w : World} {g : Nat} {f t : Int} {s : ByteArray} (h : Box w g f t s) : g < w.heap.size := lt_of_block h
theorem Box.c0 {w : World} {g : Nat} {f t : Int} {s : ByteArray} (h : Box w g f t s) : w.cell? ⟨g, 0, none⟩ = some (.int .i64 f) := by simp [World.cell?, show w.heap[g]? = _ from h]
theorem Box.c1 {w : World} {g : Nat} {f t : Int} {s : ByteArray} (h : Box w g f t s) : w.cell? ⟨g, 1, none⟩ = some (.int .i64 t) := by simp [World.cell?, show w.heap[g]? = _ from h]
theorem Box.c2 {w : World} {g : Nat} {f t : Int} {s : ByteArray} (h : Box w g f t s) : w.cell? ⟨g, 2, none⟩ = some (.string s) := by simp [World.cell?, show w.heap[g]? = _ from h]
theorem Box.free {w : World} {g : Nat} {f t : Int} {s : ByteArray} (h : Box w g f t s) (i : Nat) : w.frozen? ⟨g, i, none⟩ = false := by simp [World.frozen?, show w.heap[g]? = _ from h]
theorem Box.drewN {w : World} {g : Nat} {f t : Int} {s : ByteArray} (h : Box w g f t s) (n : Nat) : Box (w.drewN n) g f t s := h
theorem Box.drew {w : World} {g : Nat} {f t : Int} {s : ByteArray} (h : Box w g f t s) : Box w.drew g f t s := h
theorem Box.set0 {w : World} {g : Nat} {f t : Int} {s : ByteArray} (h : Box w g f t s) (v : Int) : Box (w.setCell ⟨g, 0, none⟩ (.int .i64 v)) g v t s := by
  have := heap_setCell_same w g 0 _ _ (.int .i64 v) h
  simpa [Box] using this
theorem Box.set1 {w : World} {g : Nat} {f t : Int} {s : ByteArray} (h : Box w g f t s) (v : Int) : Box (w.setCell ⟨g, 1, none⟩ (.int .i64 v)) g f v s := by
  have := heap_setCell_same w g 1 _ _ (.int .i64 v) h
  simpa [Box] using this
theorem Box.set2 {w : World} {g : Nat} {f t : Int} {s : ByteArray} (h : Box w g f t s) (v : ByteArray) : Box (w.setCell ⟨g, 2, none⟩ (.string v)) g f t v := by
  have := heap_setCell_same w g 2 _ _ (.string v) h
  simpa [Box] using this
theorem Box.below {B : Nat} {w w' : World} {g : Nat} {f t : Int} {s : ByteArray} (h : Box w g f t s) (hb : Below B w w') (hg : g < B) : Box w' g f t s := (hb.block g hg).trans h
theorem Box.alloc {w : World} {g : Nat} {f t : Int} {s : ByteArray} (h : Box w g f t s) (o : Obj) : Box (w.alloc o) g f t s := (Below.heap_alloc w o g h.lt).trans h
theorem Box.new (w : World) (f t : Int) (s : ByteArray) : Box (w.alloc (.cells #[.int .i64 f, .int .i64 t, .string s] 45)) w.heap.size f t s := heap_alloc_new w _

/-- what a stretch and a text begin with alike, left out -/
def trimL (tx : List UInt8) (t : Nat) : Nat → List UInt8 → Nat × List UInt8
  | f, [] => (f, [])
  | f, c :: r => if f < t ∧ tx[f]? = some c then trimL tx t (f + 1) r else (f, c :: r)

/-- what they end with alike, left out; the text is turned round -/
def trimR (tx : List UInt8) (f : Nat) : Nat → List UInt8 → Nat × List UInt8
  | t, [] => (t, [])
  | t, c :: r => if f < t ∧ tx[t - 1]? = some c then trimR tx f (t - 1) r else (t, c :: r)

theorem trimL_le (tx : List UInt8) (t f : Nat) (l : List UInt8) (h : f ≤ t) : f ≤ (trimL tx t f l).1 ∧ (trimL tx t f l).1 ≤ t ∧ (trimL tx t f l).2.length ≤ l.length := by
  induction l generalizing f with
  | nil => simp [trimL]; exact h
  | cons c r ih =>
    rw [trimL]
    by_cases hc : f < t ∧ tx[f]? = some c
    · rw [if_pos hc]
      have := ih (f + 1) (by omega)
      simp only [List.length_cons]
      omega
    · rw [if_neg hc]
      exact ⟨Nat.le_refl _, h, Nat.le_refl _⟩

theorem trimR_le (tx : List UInt8) (f t : Nat) (l : List UInt8) (h : f ≤ t) : f ≤ (trimR tx f t l).1 ∧ (trimR tx f t l).1 ≤ t ∧ (trimR tx f t l).2.length ≤ l.length := by
  induction l generalizing t with
  | nil => simp [trimR]; exact h
  | cons c r ih =>
    rw [trimR]
    by_cases hc : f < t ∧ tx[t - 1]? = some c
    · rw [if_pos hc]
      have := ih (t - 1) (by omega)
      simp only [List.length_cons]
      omega
    · rw [if_neg hc]
      exact ⟨h, Nat.le_refl _, Nat.le_refl _⟩

def trimE (tx : ByteArray) (e : Ed) : Ed :=
  let p := trimL tx.data.toList e.t.toNat e.f.toNat e.s.data.toList
  let q := trimR tx.data.toList p.1 e.t.toNat p.2.reverse
  ⟨p.1, q.1, ⟨q.2.reverse.toArray⟩⟩

theorem bytes_len (s : ByteArray) : s.data.toList.length = s.size := by rw [Array.length_toList]; rfl
theorem bytes_ext {a b : ByteArray} (h : a.data.toList = b.data.toList) : a = b := by
  cases a; cases b; simp only at h; congr 1; exact Array.toList_inj.1 h
theorem bytes_get {s : ByteArray} {i : Nat} (h : i < s.size) : s.data.toList[i]? = some s[i] := by
  rw [List.getElem?_eq_getElem (by rw [bytes_len]; exact h)]; rfl

theorem head_bytes {s : ByteArray} (h : 0 < s.size) : s.data.toList = s[0] :: (s.extract 1 s.size).data.toList := by
  rw [Lib.extract_to_end]
  have := List.drop_eq_getElem_cons (l := s.data.toList) (i := 0) (by rw [bytes_len]; exact h)
  rw [List.drop_zero, Nat.zero_add] at this
  exact this

theorem last_bytes {s : ByteArray} (h : 0 < s.size) : s.data.toList.reverse = (s[s.size - 1]'(by omega)) :: (s.extract 0 (s.size - 1)).data.toList.reverse := by
  have h1 : s.data.toList = (s.extract 0 (s.size - 1)).data.toList ++ [s[s.size - 1]'(by omega)] := by
    rw [Lib.extract_data, List.drop_zero, Nat.sub_zero]
    have := List.take_succ_eq_append_getElem (l := s.data.toList) (i := s.size - 1) (by rw [bytes_len]; omega)
    rw [show s.size - 1 + 1 = s.size by omega, List.take_of_length_le (by rw [bytes_len]; exact Nat.le_refl _)] at this
    exact this
  conv => lhs; rw [h1]
  rw [List.reverse_append]; rfl

theorem empty_bytes {s : ByteArray} (h : s.size = 0) : s.data.toList = [] := List.eq_nil_of_length_eq_zero (by rw [bytes_len]; exact h)

theorem isEmpty_no {s : ByteArray} (h : 0 < s.size) : s.toList.isEmpty = false := by
  rw [ByteArray.toList_eq]
  cases hl : s.data.toList with
  | nil => have := bytes_len s; rw [hl] at this; simp at this; omega
  | cons c r => rfl

theorem isEmpty_yes {s : ByteArray} (h : s.size = 0) : s.toList.isEmpty = true := by
  rw [ByteArray.toList_eq, empty_bytes h]; rfl

theorem byte_ne {a b : UInt8} (h : a ≠ b) : ((a.toNat : Int) == (b.toNat : Int)) = false := by
  rw [beq_eq_false_iff_ne]
  intro e
  exact h (UInt8.toNat_inj.1 (by omega))

theorem trimL_step {tx s : ByteArray} {t n : Nat} (h1 : n < t) (ht : t ≤ tx.size) (h2 : 0 < s.size) (hq : (tx[n]'(by omega)) = s[0]) :
    trimL tx.data.toList t n s.data.toList = trimL tx.data.toList t (n + 1) (s.extract 1 s.size).data.toList := by
  conv => lhs; rw [head_bytes h2]
  rw [trimL, if_pos ⟨h1, by rw [bytes_get (by omega), hq]⟩]

theorem trimL_stop {tx s : ByteArray} {t n : Nat} (ht : t ≤ tx.size) (h : ¬ n < t ∨ s.size = 0 ∨ ∃ (h1 : n < t) (h2 : 0 < s.size), (tx[n]'(by omega)) ≠ s[0]) : trimL tx.data.toList t n s.data.toList = (n, s.data.toList) := by
  rcases h with h | h | ⟨h1, h2, h⟩
  · cases hl : s.data.toList with
    | nil => rfl
    | cons c r => rw [trimL, if_neg (fun g => h g.1)]
  · rw [empty_bytes h]; rfl
  · rw [head_bytes h2, trimL, if_neg (fun g => h (by have := g.2; rw [bytes_get (by omega)] at this; exact Option.some.inj this))]

theorem trimR_step {tx s : ByteArray} {f n : Nat} (h1 : f < n) (ht : n ≤ tx.size) (h2 : 0 < s.size) (hq : (tx[n - 1]'(by omega)) = s[s.size - 1]'(by omega)) :
    trimR tx.data.toList f n s.data.toList.reverse = trimR tx.data.toList f (n - 1) (s.extract 0 (s.size - 1)).data.toList.reverse := by
  conv => lhs; rw [last_bytes h2]
  rw [trimR, if_pos ⟨h1, by rw [bytes_get (by omega), hq]⟩]

theorem trimR_stop {tx s : ByteArray} {f n : Nat} (ht : n ≤ tx.size) (h : ¬ f < n ∨ s.size = 0 ∨ ∃ (h1 : f < n) (h2 : 0 < s.size), (tx[n - 1]'(by omega)) ≠ s[s.size - 1]'(by omega)) : trimR tx.data.toList f n s.data.toList.reverse = (n, s.data.toList.reverse) := by
  rcases h with h | h | ⟨h1, h2, h⟩
  · cases hl : s.data.toList.reverse with
    | nil => rfl
    | cons c r => rw [trimR, if_neg (fun g => h g.1)]
  · rw [empty_bytes h]; rfl
  · rw [last_bytes h2, trimR, if_neg (fun g => h (by have := g.2; rw [bytes_get (by omega)] at this; exact Option.some.inj this))]

theorem trimE_of {tx s s1 s2 : ByteArray} {f t n m : Nat} (h1 : trimL tx.data.toList t f s.data.toList = (n, s1.data.toList)) (h2 : trimR tx.data.toList n t s1.data.toList.reverse = (m, s2.data.toList.reverse)) : trimE tx ⟨f, t, s⟩ = ⟨n, m, s2⟩ := by
  unfold trimE
  simp only [Int.toNat_natCast, h1, h2, List.reverse_reverse]
end Go.Proofs.YteolfolkolpehaaDoor
