import Derived.Test.YtgijcbipnjmhgaaTg0
import Derived.Test.YtgijcbipnjmhgaaGr7
import Derived.Test.YtgijcbipnjmhgaaSmD
import Derived.BigQuiet
namespace Go.Proofs.Ytgijcbipnjmhgaa
open Go.ChangeShapes Go.WideShapes Go.ChangeAt Go.RowKit
set_option linter.unusedVariables false
set_option linter.unusedSimpArgs false

set_option maxRecDepth 1000000 in
theorem reachB (n x : Int) (a : Option Addr) (cap : Nat) (ps : List Pr) (w : World) (hL : LiesA w a ps) (hm : ps.length ≤ 8796093022208) (h : (things n ps && thg n x) = false) :
    Calls Try.prog 10 #[.int .i64 n, .slice a ps.length cap, .int .i64 x] w fun e w' => e = .returned (.tuple #[.slice none 0 0, .int .i64 1]) ∧ Below w.heap.size w w' := by
  have AT : Hid (Calls Try.prog 22 #[.int .i64 n, .slice a ps.length cap] w fun e w' => e = .returned (.bool (things n ps)) ∧ Below w.heap.size w w') := areThings_any n a cap ps w hL (by omega)
  cases ht : things n ps with
  | false =>
    rw [ht] at AT
    go_enter Try.func10, Try.ntmps10
    go_wp2_with (go_at_call 22; (with_reducible refine AT.out.mono ?_); rintro e v1 ⟨rfl, hb1⟩; have HB1 : Hid (Below w.heap.size w v1) := hb1; clear hb1)
    go_ret2
    exact ⟨rfl, HB1.out⟩
  | true =>
    rw [ht] at AT h
    have hx : thg n x = false := by simpa using h
    go_enter Try.func10, Try.ntmps10
    go_wp2_with (first
      | (go_at_call 22; (with_reducible refine AT.out.mono ?_); rintro e v1 ⟨rfl, hb1⟩; have HB1 : Hid (Below w.heap.size w v1) := hb1; clear hb1)
      | (go_at_call 23; (with_reducible refine (isThing_any n x _).mono ?_); rintro e v2 ⟨rfl, hv⟩; have hv2 := hv.symm; clear hv; subst hv2; rw [hx]))
    go_ret2
    exact ⟨rfl, HB1.out⟩
/-- an answer, with its number -/
abbrev Ans (f : Nat) (args : Array Value) (E : Int) (w : World) : Prop := Calls Try.prog f args w fun e w' => ∃ v, e = .returned (.tuple #[v, .int .i64 E]) ∧ Below w.heap.size w w'
set_option maxRecDepth 1000000 in
set_option maxHeartbeats 4000000 in
theorem tg_none (n a b : Int) (s : Option Addr) (l cap : Nat) (w : World) 
    (RA : Ans 10 #[.int .i64 n, .slice s l cap, .int .i64 a] 1 w) (RB : ∀ w1, Below w.heap.size w w1 → Ans 10 #[.int .i64 n, .slice s l cap, .int .i64 b] 1 w1) (RP : ∀ w1, Below w.heap.size w w1 → Ans 16 #[.int .i64 n, .slice s l cap] 1 w1) (RT : ∀ w1, Below w.heap.size w w1 → Calls Try.prog 17 #[.int .i64 n, .slice s l cap] w1 fun e w' => e = .returned (.bool false) ∧ Below w1.heap.size w1 w') :
    Calls Try.prog 5 #[.int .i64 n, .slice s l cap, .int .i64 a, .int .i64 b] w fun e w' => e = .returned (.bool true) ∧ Below w.heap.size w w' := by
  have QA := hidH RA
  have QB := hidH RB
  have QP := hidH RP
  have QT := hidH RT
  clear RA RB RP RT
  go_enter Try.func5, Try.ntmps5
  go_wp2_with (first
    | (go_at_call 10; (with_reducible refine (QA.out).mono ?_); clear QA; rintro e w1 ⟨v1, rfl, hb1⟩; have HB1 := hidH hb1; clear hb1)
    | (go_at_call 10; (with_reducible refine (QB.out w1 HB1.out).mono ?_); clear QB; rintro e w2 ⟨v2, rfl, hb2⟩; have HB2 := hidH (HB1.out.trans (hb2.mono HB1.out.size)); clear hb2 HB1)
    | (go_at_call 16; (with_reducible refine (QP.out w2 HB2.out).mono ?_); rintro e w3 ⟨v3, rfl, hb3⟩; have HB3 := hidH (HB2.out.trans (hb3.mono HB2.out.size)); clear hb3 HB2)
    | (go_at_call 17; (with_reducible refine (QT.out w3 HB3.out).mono ?_); rintro e w4 ⟨rfl, hb4⟩; have HB4 := hidH (HB3.out.trans (hb4.mono HB3.out.size)); clear hb4 HB3))
  go_ret
  exact ⟨rfl, HB4.out⟩
set_option maxRecDepth 1000000 in
set_option maxHeartbeats 4000000 in
theorem tg_ab (n a b : Int) (s : Option Addr) (l cap : Nat) (w : World) (ha : a < 0 ∨ (0 ≤ a ∧ n ≤ a)) (hb : b < 0 ∨ (0 ≤ b ∧ n ≤ b))
    (RA : Ans 10 #[.int .i64 n, .slice s l cap, .int .i64 a] 1 w) (RB : ∀ w1, Below w.heap.size w w1 → Ans 10 #[.int .i64 n, .slice s l cap, .int .i64 b] 1 w1) (RP : ∀ w1, Below w.heap.size w w1 → Ans 16 #[.int .i64 n, .slice s l cap] 0 w1) (RT : ∀ w1, Below w.heap.size w w1 → Calls Try.prog 17 #[.int .i64 n, .slice s l cap] w1 fun e w' => e = .returned (.bool true) ∧ Below w1.heap.size w1 w') :
    Calls Try.prog 5 #[.int .i64 n, .slice s l cap, .int .i64 a, .int .i64 b] w fun e w' => e = .returned (.bool true) ∧ Below w.heap.size w w' := by
  have QA := hidH RA
  have QB := hidH RB
  have QP := hidH RP
  have QT := hidH RT
  clear RA RB RP RT
  rcases ha with ha1 | ha2
  · rcases hb with hb1 | hb2
    · have ka1 : a < 0 := ha1
      have kb1 : b < 0 := hb1
      go_enter Try.func5, Try.ntmps5
      go_wp2_with (first
        | (go_at_call 10; (with_reducible refine (QA.out).mono ?_); clear QA; rintro e w1 ⟨v1, rfl, hb1⟩; have HB1 := hidH hb1; clear hb1)
        | (go_at_call 10; (with_reducible refine (QB.out w1 HB1.out).mono ?_); clear QB; rintro e w2 ⟨v2, rfl, hb2⟩; have HB2 := hidH (HB1.out.trans (hb2.mono HB1.out.size)); clear hb2 HB1)
        | (go_at_call 16; (with_reducible refine (QP.out w2 HB2.out).mono ?_); rintro e w3 ⟨v3, rfl, hb3⟩; have HB3 := hidH (HB2.out.trans (hb3.mono HB2.out.size)); clear hb3 HB2)
        | (go_at_call 17; (with_reducible refine (QT.out w3 HB3.out).mono ?_); rintro e w4 ⟨rfl, hb4⟩; have HB4 := hidH (HB3.out.trans (hb4.mono HB3.out.size)); clear hb4 HB3))
      go_ret
      exact ⟨rfl, HB4.out⟩
    · have ka1 : a < 0 := ha1
      obtain ⟨kb3, kb2⟩ := hb2
      go_enter Try.func5, Try.ntmps5
      go_wp2_with (first
        | (go_at_call 10; (with_reducible refine (QA.out).mono ?_); clear QA; rintro e w1 ⟨v1, rfl, hb1⟩; have HB1 := hidH hb1; clear hb1)
        | (go_at_call 10; (with_reducible refine (QB.out w1 HB1.out).mono ?_); clear QB; rintro e w2 ⟨v2, rfl, hb2⟩; have HB2 := hidH (HB1.out.trans (hb2.mono HB1.out.size)); clear hb2 HB1)
        | (go_at_call 16; (with_reducible refine (QP.out w2 HB2.out).mono ?_); rintro e w3 ⟨v3, rfl, hb3⟩; have HB3 := hidH (HB2.out.trans (hb3.mono HB2.out.size)); clear hb3 HB2)
        | (go_at_call 17; (with_reducible refine (QT.out w3 HB3.out).mono ?_); rintro e w4 ⟨rfl, hb4⟩; have HB4 := hidH (HB3.out.trans (hb4.mono HB3.out.size)); clear hb4 HB3))
      go_ret
      exact ⟨rfl, HB4.out⟩
  · rcases hb with hb1 | hb2
    · obtain ⟨ka3, ka2⟩ := ha2
      have kb1 : b < 0 := hb1
      go_enter Try.func5, Try.ntmps5
      go_wp2_with (first
        | (go_at_call 10; (with_reducible refine (QA.out).mono ?_); clear QA; rintro e w1 ⟨v1, rfl, hb1⟩; have HB1 := hidH hb1; clear hb1)
        | (go_at_call 10; (with_reducible refine (QB.out w1 HB1.out).mono ?_); clear QB; rintro e w2 ⟨v2, rfl, hb2⟩; have HB2 := hidH (HB1.out.trans (hb2.mono HB1.out.size)); clear hb2 HB1)
        | (go_at_call 16; (with_reducible refine (QP.out w2 HB2.out).mono ?_); rintro e w3 ⟨v3, rfl, hb3⟩; have HB3 := hidH (HB2.out.trans (hb3.mono HB2.out.size)); clear hb3 HB2)
        | (go_at_call 17; (with_reducible refine (QT.out w3 HB3.out).mono ?_); rintro e w4 ⟨rfl, hb4⟩; have HB4 := hidH (HB3.out.trans (hb4.mono HB3.out.size)); clear hb4 HB3))
      go_ret
      exact ⟨rfl, HB4.out⟩
    · obtain ⟨ka3, ka2⟩ := ha2
      obtain ⟨kb3, kb2⟩ := hb2
      go_enter Try.func5, Try.ntmps5
      go_wp2_with (first
        | (go_at_call 10; (with_reducible refine (QA.out).mono ?_); clear QA; rintro e w1 ⟨v1, rfl, hb1⟩; have HB1 := hidH hb1; clear hb1)
        | (go_at_call 10; (with_reducible refine (QB.out w1 HB1.out).mono ?_); clear QB; rintro e w2 ⟨v2, rfl, hb2⟩; have HB2 := hidH (HB1.out.trans (hb2.mono HB1.out.size)); clear hb2 HB1)
        | (go_at_call 16; (with_reducible refine (QP.out w2 HB2.out).mono ?_); rintro e w3 ⟨v3, rfl, hb3⟩; have HB3 := hidH (HB2.out.trans (hb3.mono HB2.out.size)); clear hb3 HB2)
        | (go_at_call 17; (with_reducible refine (QT.out w3 HB3.out).mono ?_); rintro e w4 ⟨rfl, hb4⟩; have HB4 := hidH (HB3.out.trans (hb4.mono HB3.out.size)); clear hb4 HB3))
      go_ret
      exact ⟨rfl, HB4.out⟩
set_option maxRecDepth 1000000 in
set_option maxHeartbeats 4000000 in
theorem tg_a (n a b : Int) (s : Option Addr) (l cap : Nat) (w : World) (ha : a < 0 ∨ (0 ≤ a ∧ n ≤ a)) (hb : 0 ≤ b ∧ b < n)
    (RA : Ans 10 #[.int .i64 n, .slice s l cap, .int .i64 a] 1 w) (RB : ∀ w1, Below w.heap.size w w1 → Ans 10 #[.int .i64 n, .slice s l cap, .int .i64 b] 0 w1) (RP : ∀ w1, Below w.heap.size w w1 → Ans 16 #[.int .i64 n, .slice s l cap] 0 w1) (RT : ∀ w1, Below w.heap.size w w1 → Calls Try.prog 17 #[.int .i64 n, .slice s l cap] w1 fun e w' => e = .returned (.bool true) ∧ Below w1.heap.size w1 w') :
    Calls Try.prog 5 #[.int .i64 n, .slice s l cap, .int .i64 a, .int .i64 b] w fun e w' => e = .returned (.bool true) ∧ Below w.heap.size w w' := by
  have QA := hidH RA
  have QB := hidH RB
  have QP := hidH RP
  have QT := hidH RT
  clear RA RB RP RT
  rcases ha with ha1 | ha2
  · obtain ⟨hb1, hb2⟩ := hb
    have ka1 : a < 0 := ha1
    go_enter Try.func5, Try.ntmps5
    go_wp2_with (first
      | (go_at_call 10; (with_reducible refine (QA.out).mono ?_); clear QA; rintro e w1 ⟨v1, rfl, hb1⟩; have HB1 := hidH hb1; clear hb1)
      | (go_at_call 10; (with_reducible refine (QB.out w1 HB1.out).mono ?_); clear QB; rintro e w2 ⟨v2, rfl, hb2⟩; have HB2 := hidH (HB1.out.trans (hb2.mono HB1.out.size)); clear hb2 HB1)
      | (go_at_call 16; (with_reducible refine (QP.out w2 HB2.out).mono ?_); rintro e w3 ⟨v3, rfl, hb3⟩; have HB3 := hidH (HB2.out.trans (hb3.mono HB2.out.size)); clear hb3 HB2)
      | (go_at_call 17; (with_reducible refine (QT.out w3 HB3.out).mono ?_); rintro e w4 ⟨rfl, hb4⟩; have HB4 := hidH (HB3.out.trans (hb4.mono HB3.out.size)); clear hb4 HB3))
    go_ret
    exact ⟨rfl, HB4.out⟩
  · obtain ⟨hb1, hb2⟩ := hb
    obtain ⟨ka3, ka2⟩ := ha2
    go_enter Try.func5, Try.ntmps5
    go_wp2_with (first
      | (go_at_call 10; (with_reducible refine (QA.out).mono ?_); clear QA; rintro e w1 ⟨v1, rfl, hb1⟩; have HB1 := hidH hb1; clear hb1)
      | (go_at_call 10; (with_reducible refine (QB.out w1 HB1.out).mono ?_); clear QB; rintro e w2 ⟨v2, rfl, hb2⟩; have HB2 := hidH (HB1.out.trans (hb2.mono HB1.out.size)); clear hb2 HB1)
      | (go_at_call 16; (with_reducible refine (QP.out w2 HB2.out).mono ?_); rintro e w3 ⟨v3, rfl, hb3⟩; have HB3 := hidH (HB2.out.trans (hb3.mono HB2.out.size)); clear hb3 HB2)
      | (go_at_call 17; (with_reducible refine (QT.out w3 HB3.out).mono ?_); rintro e w4 ⟨rfl, hb4⟩; have HB4 := hidH (HB3.out.trans (hb4.mono HB3.out.size)); clear hb4 HB3))
    go_ret
    exact ⟨rfl, HB4.out⟩
set_option maxRecDepth 1000000 in
set_option maxHeartbeats 4000000 in
theorem tg_b (n a b : Int) (s : Option Addr) (l cap : Nat) (w : World) (ha : 0 ≤ a ∧ a < n) (hb : b < 0 ∨ (0 ≤ b ∧ n ≤ b))
    (RA : Ans 10 #[.int .i64 n, .slice s l cap, .int .i64 a] 0 w) (RB : ∀ w1, Below w.heap.size w w1 → Ans 10 #[.int .i64 n, .slice s l cap, .int .i64 b] 1 w1) (RP : ∀ w1, Below w.heap.size w w1 → Ans 16 #[.int .i64 n, .slice s l cap] 0 w1) (RT : ∀ w1, Below w.heap.size w w1 → Calls Try.prog 17 #[.int .i64 n, .slice s l cap] w1 fun e w' => e = .returned (.bool true) ∧ Below w1.heap.size w1 w') :
    Calls Try.prog 5 #[.int .i64 n, .slice s l cap, .int .i64 a, .int .i64 b] w fun e w' => e = .returned (.bool true) ∧ Below w.heap.size w w' := by
  have QA := hidH RA
  have QB := hidH RB
  have QP := hidH RP
  have QT := hidH RT
  clear RA RB RP RT
  obtain ⟨ha1, ha2⟩ := ha
  rcases hb with hb1 | hb2
  · have kb1 : b < 0 := hb1
    go_enter Try.func5, Try.ntmps5
    go_wp2_with (first
      | (go_at_call 10; (with_reducible refine (QA.out).mono ?_); clear QA; rintro e w1 ⟨v1, rfl, hb1⟩; have HB1 := hidH hb1; clear hb1)
      | (go_at_call 10; (with_reducible refine (QB.out w1 HB1.out).mono ?_); clear QB; rintro e w2 ⟨v2, rfl, hb2⟩; have HB2 := hidH (HB1.out.trans (hb2.mono HB1.out.size)); clear hb2 HB1)
      | (go_at_call 16; (with_reducible refine (QP.out w2 HB2.out).mono ?_); rintro e w3 ⟨v3, rfl, hb3⟩; have HB3 := hidH (HB2.out.trans (hb3.mono HB2.out.size)); clear hb3 HB2)
      | (go_at_call 17; (with_reducible refine (QT.out w3 HB3.out).mono ?_); rintro e w4 ⟨rfl, hb4⟩; have HB4 := hidH (HB3.out.trans (hb4.mono HB3.out.size)); clear hb4 HB3))
    go_ret
    exact ⟨rfl, HB4.out⟩
  · obtain ⟨kb3, kb2⟩ := hb2
    go_enter Try.func5, Try.ntmps5
    go_wp2_with (first
      | (go_at_call 10; (with_reducible refine (QA.out).mono ?_); clear QA; rintro e w1 ⟨v1, rfl, hb1⟩; have HB1 := hidH hb1; clear hb1)
      | (go_at_call 10; (with_reducible refine (QB.out w1 HB1.out).mono ?_); clear QB; rintro e w2 ⟨v2, rfl, hb2⟩; have HB2 := hidH (HB1.out.trans (hb2.mono HB1.out.size)); clear hb2 HB1)
      | (go_at_call 16; (with_reducible refine (QP.out w2 HB2.out).mono ?_); rintro e w3 ⟨v3, rfl, hb3⟩; have HB3 := hidH (HB2.out.trans (hb3.mono HB2.out.size)); clear hb3 HB2)
      | (go_at_call 17; (with_reducible refine (QT.out w3 HB3.out).mono ?_); rintro e w4 ⟨rfl, hb4⟩; have HB4 := hidH (HB3.out.trans (hb4.mono HB3.out.size)); clear hb4 HB3))
    go_ret
    exact ⟨rfl, HB4.out⟩
end Go.Proofs.Ytgijcbipnjmhgaa

namespace Go.Proofs.Ytgijcbipnjmhgaa
open Go.ChangeShapes Go.WideShapes Go.ChangeAt Go.RowKit
set_option linter.unusedVariables false
set_option linter.unusedSimpArgs false

/-- of which part each thing is, for the first parts, and the first things of the next -/
structure Ofp (pss : List (List Int)) (n i j : Nat) (os : List Int) : Prop where
  len : os.length = n
  old : ∀ (k : Nat) p (y : Nat), k < i → pss[k]? = some p → (y : Int) ∈ p → os[y]? = some (k : Int)
  new : ∀ p (y : Nat), pss[i]? = some p → (y : Int) ∈ p.take j → os[y]? = some (i : Int)
theorem Ofp.start (pss : List (List Int)) (n : Nat) : Ofp pss n 0 0 (List.replicate n 0) := ⟨by simp, fun k p y h => by omega, fun p y _ h => by simp at h⟩
theorem Ofp.next {pss : List (List Int)} {n i : Nat} {p : List Int} {os : List Int} (h : Ofp pss n i p.length os) (hp : pss[i]? = some p) : Ofp pss n (i + 1) 0 os := by
  refine ⟨h.len, fun k q y hk hq hy => ?_, fun q y _ hy => by simp at hy⟩
  by_cases e : k = i
  · subst e
    rw [hp] at hq
    cases hq
    exact h.new p y hp (by rw [List.take_length]; exact hy)
  · exact h.old k q y (by omega) hq hy
theorem Ofp.step {ps : List Pr} {pss : List (List Int)} {n i j y : Nat} {p : List Int} {os : List Int} (hr : Prt ps n pss) (h : Ofp pss n i j os) (hp : pss[i]? = some p) (hy : p[j]? = some (y : Int)) (hyn : y < n) : Ofp pss n i (j + 1) (os.set y (i : Int)) := by
  refine ⟨by rw [List.length_set]; exact h.len, fun k q x hk hq hx => ?_, fun q x hq hx => ?_⟩
  · have hne : y ≠ x := fun e => by
      subst e
      have := hr.one k i q p _ hq hp hx (List.mem_of_getElem? hy)
      omega
    rw [List.getElem?_set_ne hne]
    exact h.old k q x hk hq hx
  · rw [hp] at hq
    cases hq
    by_cases e : y = x
    · subst e
      rw [List.getElem?_set_self (by rw [h.len]; exact hyn)]
    · rw [List.getElem?_set_ne e]
      rw [List.take_add_one, hy] at hx
      rcases List.mem_append.1 hx with hx | hx
      · exact h.new p x hp hx
      · simp at hx
        exact absurd (by omega) e
theorem Ofp.done {pss : List (List Int)} {n : Nat} {os : List Int} (h : Ofp pss n pss.length 0 os) {k y : Nat} {p : List Int} (hp : pss[k]? = some p) (hy : (y : Int) ∈ p) : os[y]? = some (k : Int) := h.old k p y (List.getElem?_eq_some_iff.1 hp).1 hp hy
/-- of one part, or not -/
theorem of_eq {ps : List Pr} {pss : List (List Int)} {n : Nat} {os : List Int} (hr : Prt ps n pss) (h : Ofp pss n pss.length 0 os) {a b : Nat} (ha : a < n) (hb : b < n) : ∃ i j : Nat, os[a]? = some (i : Int) ∧ os[b]? = some (j : Int) ∧ (i = j ↔ Sam ps a b) := by
  obtain ⟨i, p, hp, hap⟩ := hr.all a ha
  obtain ⟨j, q, hq, hbq⟩ := hr.all b hb
  refine ⟨i, j, h.done hp hap, h.done hq hbq, ?_⟩
  constructor
  · intro e
    subst e
    rw [hp] at hq
    cases hq
    exact ((hr.sam i p a b hp hap).1 hbq).2
  · intro hs
    exact hr.one i j p q (b : Int) hp hq ((hr.sam i p a b hp hap).2 ⟨hb, hs⟩) hbq
theorem Rv.read {B : Nat} {w w' : World} {v : Value} {pss : List (List Int)} (h : Rv B w v pss) (hb : Below w.heap.size w w') : ∃ aP cP, v = .slice aP pss.length cP ∧ ∀ (i : Nat) p, pss[i]? = some p → ∃ gP, aP = some ⟨gP, 0, none⟩ ∧ gP < w.heap.size ∧ ∃ a' c', w'.cell? ⟨gP, i, none⟩ = some (.slice a' p.length c') ∧ (0 < p.length → ∃ g', a' = some ⟨g', 0, none⟩ ∧ g' < w.heap.size ∧ ∀ (j : Nat) y, p[j]? = some y → w'.cell? ⟨g', j, none⟩ = some (.int .i64 y)) := by
  obtain ⟨vals, h1, h2, h3⟩ := h
  obtain ⟨aP, cP, hv, ha, -⟩ := own_slice h1
  refine ⟨aP, cP, by rw [hv, h2], fun i p hp => ?_⟩
  have hi := (List.getElem?_eq_some_iff.1 hp).1
  obtain ⟨gP, rfl⟩ := ha (by omega)
  subst hv
  have hlt := (h1.lt gP rfl).2
  obtain ⟨u, hu, ho⟩ := h3 i p hp
  obtain ⟨a', c', hv', ha', -⟩ := own_slice ho
  subst hv'
  have k1 := h1.cells rfl i _ hu
  rw [addr_add, Nat.zero_add] at k1
  refine ⟨gP, rfl, hlt, a', c', (hb.cell (p := ⟨gP, i, none⟩) hlt).trans k1, fun h0 => ?_⟩
  obtain ⟨g', rfl⟩ := ha' h0
  have hlt' := (ho.lt g' rfl).2
  refine ⟨g', rfl, hlt', fun j y hy => (hb.cell (p := ⟨g', j, none⟩) hlt').trans ?_⟩
  have k2 := ho.cells rfl j (.int .i64 y) (by rw [List.getElem?_map, hy]; rfl)
  rwa [addr_add, Nat.zero_add] at k2
theorem pts_len (n : Nat) (lw : Nat → Nat) (os : List Int) : (pts n lw os).length ≤ os.length := by
  unfold pts
  rw [List.length_map]
  exact List.length_filter_le _ _
end Go.Proofs.Ytgijcbipnjmhgaa
