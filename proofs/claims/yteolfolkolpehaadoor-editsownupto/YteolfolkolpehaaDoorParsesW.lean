import Derived.Test.YteolfolkolpehaaDoorRy
import Derived.Test.YteolfolkolpehaaDoorRk
import Derived.Test.YteolfolkolpehaaDoorRp
namespace Go.Proofs.YteolfolkolpehaaDoor
set_option linter.unusedVariables false

theorem ln_last (e : Ed) : ∃ x, ln e = x ++ [10] ∧ ∀ c ∈ x, c ≠ 10 := by
  refine ⟨Lib.itoa e.f ++ 44 :: (Lib.itoa e.t ++ 32 :: 34 :: (esc e.s.data.toList ++ [34])), by rw [ln_eq]; simp, ?_⟩
  have hd : ∀ u, ∀ c ∈ Lib.decDigits u, c ≠ 10 := fun u c hc h => by
    have := List.all_eq_true.1 (dd_facts u).1 c hc
    rw [h] at this
    exact absurd this (by decide)
  have hi : ∀ n, ∀ c ∈ Lib.itoa n, c ≠ 10 := fun n c hc => by
    unfold Lib.itoa at hc
    split at hc
    · rcases List.mem_cons.1 hc with rfl | hc
      · decide
      · exact hd _ c hc
    · exact hd _ c hc
  have he : ∀ t, ∀ c ∈ esc t, c ≠ 10 := fun t c hc => by
    obtain ⟨a, _, ha⟩ := List.mem_flatMap.1 hc
    unfold esc1 at ha
    split at ha
    · rename_i h1
      simp only [List.mem_cons, List.not_mem_nil, or_false] at ha
      rcases ha with rfl | rfl
      · decide
      · rcases h1 with rfl | rfl <;> decide
    · split at ha
      · simp only [List.mem_cons, List.not_mem_nil, or_false] at ha
        rcases ha with rfl | rfl <;> decide
      · rename_i h2
        simp only [List.mem_cons, List.not_mem_nil, or_false] at ha
        rw [ha]; exact h2
  intro c hc
  simp only [List.mem_append, List.mem_cons, List.not_mem_nil, or_false] at hc
  rcases hc with hc | rfl | hc | rfl | rfl | hc | rfl
  · exact hi _ c hc
  · decide
  · exact hi _ c hc
  · decide
  · decide
  · exact he _ c hc
  · decide
theorem prt_cons (e : Ed) (xs : List Ed) : prt (e :: xs) = ln e ++ prt xs := by simp [prt]
theorem ln_pos (e : Ed) : 0 < (ln e).length := by rw [ln_eq]; simp only [List.length_append, List.length_cons]; omega
theorem size_of_drop {s : ByteArray} {p : Nat} {t : List UInt8} (h : s.data.toList.drop p = t) (ht : t ≠ []) : p < s.size ∧ p + t.length = s.size := by
  have h1 := congrArg List.length h
  rw [List.length_drop, bytes_len] at h1
  have h2 : 0 < t.length := List.length_pos_iff.2 ht
  omega
theorem size_of_nil {s : ByteArray} {p : Nat} (h : s.data.toList.drop p = []) : ¬ p < s.size := by
  have h1 := congrArg List.length h
  rw [List.length_drop, bytes_len] at h1
  simp at h1
  omega

/-- what Print writes Parse reads -/
theorem prs_print (s : ByteArray) : ∀ (xs l : List Ed) (p : Nat), s.data.toList.drop p = prt xs → l.length + xs.length ≤ 65536 → (∀ e ∈ xs, EdFit e) → prs s (s.size - p) p l = (l ++ xs, 0, 0)
  | [], l, p, h, _, _ => by
    rw [prs_end (size_of_nil h), List.append_nil]
  | e :: xs, l, p, h, hl, hF => by
    rw [prt_cons] at h
    have hz := size_of_drop h (by intro h2; have := ln_pos e; rw [(List.append_eq_nil_iff.1 h2).1] at this; simp at this)
    have h1 := line_print h (hF e (by simp))
    simp only [List.length_cons] at hl
    rw [prs_next hz.1 (by omega) h1, prs_print s xs (l ++ [e]) _ (drop_step h) (by rw [List.length_append, List.length_singleton]; omega) (fun x hx => hF x (by simp [hx])), List.append_assoc]
    rfl

/-- a list that is cut -/
theorem prs_cut (s : ByteArray) : ∀ (xs l : List Ed) (p : Nat) (t more : List UInt8), s.data.toList.drop p = t → t ++ more = prt xs → l.length + xs.length ≤ 65536 → (∀ e ∈ xs, EdFit e) →
    ((t = [] ∨ t.getLast? = some 10) → (prs s (s.size - p) p l).2.1 = 0) ∧ (t ≠ [] → t.getLast? ≠ some 10 → (prs s (s.size - p) p l).2 = (12, s.size))
  | [], l, p, t, more, h, ht, hl, hF => by
    have h1 : t = [] := (List.append_eq_nil_iff.1 (show t ++ more = [] from ht)).1
    subst h1
    rw [prs_end (size_of_nil h)]
    exact ⟨fun _ => rfl, fun h => absurd rfl h⟩
  | e :: xs, l, p, t, more, h, ht, hl, hF => by
    simp only [List.length_cons] at hl
    rw [prt_cons] at ht
    have go : ∀ c, t = ln e ++ c → c ++ more = prt xs → ((t = [] ∨ t.getLast? = some 10) → (prs s (s.size - p) p l).2.1 = 0) ∧ (t ≠ [] → t.getLast? ≠ some 10 → (prs s (s.size - p) p l).2 = (12, s.size)) := fun c h1 h2 => by
      rw [h1] at h
      have hz := size_of_drop h (by intro h2; have := ln_pos e; rw [(List.append_eq_nil_iff.1 h2).1] at this; simp at this)
      have h3 := line_print h (hF e (by simp))
      have ih := prs_cut s xs (l ++ [e]) (p + (ln e).length) c more (drop_step h) h2 (by rw [List.length_append, List.length_singleton]; omega) (fun x hx => hF x (by simp [hx]))
      rw [prs_next hz.1 (by omega) h3]
      by_cases hc : c = []
      · refine ⟨fun _ => ih.1 (.inl hc), fun _ h4 => absurd ?_ h4⟩
        obtain ⟨x, hx, -⟩ := ln_last e
        rw [h1, hc, List.append_nil, hx]
        simp
      · have hg : t.getLast? = c.getLast? := by rw [h1, List.getLast?_append, List.getLast?_eq_some_getLast hc]; rfl
        rw [hg]
        refine ⟨fun h4 => ih.1 (.inr (h4.elim (fun h5 => absurd (by rw [h1] at h5; exact (List.append_eq_nil_iff.1 h5).2) hc) id)), fun _ h4 => ih.2 hc h4⟩
    rcases List.append_eq_append_iff.1 ht with ⟨a, h1, h2⟩ | ⟨c, h1, h2⟩
    · by_cases ha : a = []
      · subst ha
        rw [List.append_nil] at h1
        exact go [] (by rw [List.append_nil, h1]) (by rw [h2]; rfl)
      · by_cases ht0 : t = []
        · subst ht0
          rw [prs_end (size_of_nil h)]
          exact ⟨fun _ => rfl, fun h => absurd rfl h⟩
        · have hz := size_of_drop h ht0
          have h3 := line_cut h h1.symm ha (hF e (by simp))
          have hb : prs s (s.size - p) p l = ([], 12, p + t.length) := prs_bad (E := (lineA s p).1) hz.1 (by omega) (Prod.ext rfl h3)
          obtain ⟨x, hx, hn⟩ := ln_last e
          have hno : t.getLast? ≠ some 10 := fun h4 => by
            obtain ⟨y, hy⟩ : ∃ y, t = y ++ [10] := by
              refine ⟨t.dropLast, ?_⟩
              have := List.dropLast_concat_getLast ht0
              rw [List.getLast?_eq_some_getLast ht0] at h4
              rw [Option.some.inj h4] at this
              exact this.symm
            rw [h1, hy] at hx
            obtain ⟨a', z, rfl⟩ : ∃ a' z, a = a' ++ [z] := ⟨a.dropLast, a.getLast ha, (List.dropLast_concat_getLast ha).symm⟩
            rw [← List.append_assoc] at hx
            have h5 := (List.append_inj' hx rfl).1
            exact hn 10 (by rw [← h5]; simp) rfl
          rw [hb]
          refine ⟨fun h4 => absurd h4 (fun h5 => h5.elim ht0 hno), fun _ _ => ?_⟩
          rw [hz.2]
    · exact go c h1 h2.symm

/-- what Parse takes Print writes -/
theorem prs_back (s : ByteArray) (hs : s.size ≤ 16777216) : ∀ (m p : Nat) (l L : List Ed) (P : Nat), prs s m p l = (L, 0, P) → s.size - p ≤ m → l.length ≤ 65536 → P = 0 ∧ ∃ xs, L = l ++ xs ∧ s.data.toList.drop p = prt xs ∧ ∀ e ∈ xs, EdFit e
  | 0, p, l, L, P, h, hm, _ => by
    rw [prs] at h
    simp only [Prod.mk.injEq] at h
    refine ⟨h.2.2.symm, [], by rw [List.append_nil]; exact h.1.symm, ?_, fun e he => by cases he⟩
    exact List.drop_eq_nil_of_le (by rw [bytes_len]; omega)
  | m + 1, p, l, L, P, h, hm, hl => by
    rw [prs] at h
    by_cases hp : p < s.size
    · rw [if_pos hp] at h
      by_cases h6 : l.length = 65536
      · rw [if_pos h6] at h
        simp only [Prod.mk.injEq] at h
        exact absurd h.2.1 (by decide)
      · rw [if_neg h6] at h
        cases ho : (lineA s p).2.2 with
        | false =>
          rw [ho, if_neg Bool.false_ne_true] at h
          simp only [Prod.mk.injEq] at h
          exact absurd h.2.1 (by decide)
        | true =>
          rw [ho, if_pos rfl] at h
          have hle : lineA s p = ((lineA s p).1, (lineA s p).2.1, true) := by rw [← ho]
          have h1 := line_back hs hle
          have h2 := line_on hle
          obtain ⟨h3, xs, h4, h5, h7⟩ := prs_back s hs m _ _ L P h (by omega) (by rw [List.length_append, List.length_singleton]; omega)
          refine ⟨h3, (lineA s p).1 :: xs, by rw [h4, List.append_assoc]; rfl, by rw [h1.1, h5, prt_cons], fun e he => ?_⟩
          rcases List.mem_cons.1 he with rfl | he
          · exact h1.2
          · exact h7 e he
    · rw [if_neg hp] at h
      simp only [Prod.mk.injEq] at h
      refine ⟨h.2.2.symm, [], by rw [List.append_nil]; exact h.1.symm, ?_, fun e he => by cases he⟩
      exact List.drop_eq_nil_of_le (by rw [bytes_len]; omega)

theorem numA_le2 {s : ByteArray} {p : Nat} (h : p ≤ s.size) : (numA s p).2.1 ≤ s.size := numA_le h (show numA s p = ((numA s p).1, (numA s p).2.1, (numA s p).2.2) from rfl)
theorem line_le {s : ByteArray} {p : Nat} (h : p ≤ s.size) : (lineA s p).2.1 ≤ s.size := by
  rw [lineA_T]
  unfold lineT
  have h1 : (tkA s p 44).2.1 ≤ s.size := tkA_le h
  have h2 : (tkA s (tkA s p 44).2.1 32).2.1 ≤ s.size := tkA_le h1
  split
  · split
    · split
      · rename_i i2
        have i3 := isAt_lt i2
        have h3 := qz_len _ (s.data.toList.drop ((tkA s (tkA s p 44).2.1 32).2.1 + 1)) (Nat.le_refl _)
        rw [List.length_drop, bytes_len] at h3
        split
        · rename_i i4
          have := isAt_lt (Bool.and_eq_true_iff.1 i4).2
          show _ + 1 ≤ s.size
          omega
        · show _ + 1 + _ ≤ s.size
          omega
      · exact h2
    · exact h2
  · exact h1
/-- what is no list: nothing, and a place within the text -/
theorem prs_fault (s : ByteArray) : ∀ (m p : Nat) (l L : List Ed) (E : Int) (P : Nat), prs s m p l = (L, E, P) → E ≠ 0 → p ≤ s.size → L = [] ∧ P ≤ s.size
  | 0, p, l, L, E, P, h, hE, _ => by
    rw [prs] at h
    simp only [Prod.mk.injEq] at h
    exact absurd h.2.1.symm hE
  | m + 1, p, l, L, E, P, h, hE, hp => by
    rw [prs] at h
    by_cases hlt : p < s.size
    · rw [if_pos hlt] at h
      by_cases h6 : l.length = 65536
      · rw [if_pos h6] at h
        simp only [Prod.mk.injEq] at h
        exact ⟨h.1.symm, by omega⟩
      · rw [if_neg h6] at h
        have hle := line_le hp
        cases ho : (lineA s p).2.2 with
        | false =>
          rw [ho, if_neg Bool.false_ne_true] at h
          simp only [Prod.mk.injEq] at h
          exact ⟨h.1.symm, by omega⟩
        | true =>
          rw [ho, if_pos rfl] at h
          exact prs_fault s m _ _ L E P h hE hle
    · rw [if_neg hlt] at h
      simp only [Prod.mk.injEq] at h
      exact absurd h.2.1.symm hE
theorem tots_le : ∀ xs : List Ed, tots xs ≤ (prt xs).length
  | [] => Nat.zero_le _
  | e :: xs => by
    have h1 := tots_le xs
    have h2 := esc_ge e.s.data.toList
    rw [bytes_len] at h2
    rw [prt_cons, List.length_append, tots, ln_eq]
    simp only [List.length_append, List.length_cons]
    omega
end Go.Proofs.YteolfolkolpehaaDoor

namespace Go.Proofs.YteolfolkolpehaaDoor
open Go.ChangeShapes Go.WideShapes Go.ChangeAt Go.RowKit
set_option linter.unusedVariables false

set_option maxRecDepth 1000000 in
set_option maxHeartbeats 2000000 in
theorem rparse_any (s : ByteArray) (v : World) (hs : s.size ≤ 16777216) (L : List Ed) (E : Int) (P : Nat) (hq : prs s s.size 0 [] = (L, E, P)) :
    Calls Tryd.prog 14 #[.string s] v fun e w' => ∃ u, e = .returned (.tuple #[u, .int .i64 E, .int .i64 (P : Nat)]) ∧ w'.ownsRow v.heap.size 45 3 u L.length (flat L) ∧ Below v.heap.size v w' := by
  obtain ⟨i0, hi0, hz0, hz1, hz2⟩ := info_parts infoEd
  have HQ : Hid (prs s s.size 0 [] = (L, E, P)) := hq
  clear hq
  go_enter Tryd.func14, Tryd.ntmps14
  go_wp2
  go_loopg [5, 6] s.size (fun gk so si wr => ∃ (p : Nat) (l : List Ed), gk = s.size - p ∧ p ≤ s.size ∧ l.length ≤ 65536 ∧ si = .int .i64 (p : Int) ∧ prs s (s.size - p) p l = (L, E, P) ∧ wr.ownsRow v.heap.size 45 3 so l.length (flat l) ∧ Below v.heap.size v wr)
  case atStart => exact ⟨0, [], rfl, Nat.zero_le _, Nat.zero_le _, rfl, HQ.out, World.ownsRow_nil _ _ _ _, Below.refl _ v⟩
  case round =>
    obtain ⟨p, l, rfl, hp, hll, rfl, hpr, hown, hbel⟩ := hrel
    clear HQ
    have HQ : Hid (prs s (s.size - p) p l = (L, E, P)) := hpr
    have HO : Hid (wr.ownsRow v.heap.size 45 3 u5 l.length (flat l)) := hown
    have HB : Hid (Below v.heap.size v wr) := hbel
    obtain ⟨a5, k5, rfl, -, -, -⟩ := own_form hown
    clear hpr hown hbel
    by_cases hps : p < s.size
    · have hps' : (p : Int) < (s.size : Int) := by omega
      by_cases h65 : l.length = 65536
      · have h65' : ((l.length : Int) == 65536) = true := by rw [h65]; rfl
        have HE : Hid (L = [] ∧ E = 2 ∧ P = p) := by
          have := HQ.out
          rw [prs_many hps h65] at this
          simp only [Prod.mk.injEq] at this
          exact ⟨this.1.symm, this.2.1.symm, this.2.2.symm⟩
        clear HQ h65
        go_wp2
        go_ret3
        exact ⟨.slice none 0 0, by rw [HE.out.2.1, HE.out.2.2]; rfl, by rw [HE.out.1]; exact World.ownsRow_nil _ _ _ _, HB.out⟩
      · have h65' : ((l.length : Int) == 65536) = false := by rw [beq_eq_false_iff_ne]; omega
        obtain ⟨e, q, o, hle⟩ : ∃ e q o, lineA s p = (e, q, o) := ⟨_, _, _, rfl⟩
        have HL : Hid (∀ x, Calls Tryd.prog 32 #[.string s, .int .i64 (p : Int)] x fun z w' => (∃ E' : Ed, z = .returned (.tuple #[.agg #[.int .i64 E'.f, .int .i64 E'.t, .string E'.s], .int .i64 (q : Nat), .bool o]) ∧ (o = true → E' = e)) ∧ Below x.heap.size x w') := fun x => rline_any s p x hs hp e q o hle
        cases o
        · have HE : Hid (L = [] ∧ E = 12 ∧ P = q) := by
            have := HQ.out
            rw [prs_bad hps h65 hle] at this
            simp only [Prod.mk.injEq] at this
            exact ⟨this.1.symm, this.2.1.symm, this.2.2.symm⟩
          clear HQ h65 hle
          go_wp2_with (go_at_call 32; (with_reducible refine (HL.out _).mono ?_); rintro z w3 ⟨⟨E', rfl, -⟩, hb⟩; have B3 : Hid (Below v.heap.size v w3) := HB.out.trans (hb.mono HB.out.size); clear hb)
          go_ret3
          exact ⟨.slice none 0 0, by rw [HE.out.2.1, HE.out.2.2]; rfl, by rw [HE.out.1]; exact World.ownsRow_nil _ _ _ _, B3.out.alloc B3.out.size _⟩
        · have hon := line_on hle
          have HQ2 : Hid (prs s (s.size - q) q (l ++ [e]) = (L, E, P)) := by unfold Hid; rw [← HQ.out, prs_next hps h65 hle]
          clear HQ hle
          go_wp2_with (first
            | (go_at_call 32; (with_reducible refine (HL.out _).mono ?_); rintro z w3 ⟨⟨E', rfl, hE⟩, hb⟩; obtain rfl := hE rfl; have B3 : Hid (Below v.heap.size v w3) := HB.out.trans (hb.mono HB.out.size); have O3 : Hid (w3.ownsRow v.heap.size 45 3 (.slice a5 l.length k5) l.length (flat l)) := ownsRow_below HO.out hb (Nat.le_refl _); clear hb)
            | (at_builtin; (refine wpList_append_own_any _ rfl _ _ 22 rfl v.heap.size 45 i0 (.agg #[.int .i64 0, .int .i64 0, .string ⟨#[]⟩]) 3 32 Tryd.underlying22 hi0 hz0 hz1 hz2 rfl (by decide) _ _ _ rfl ((O3.out.alloc _).alloc _) (some ⟨w3.heap.size + 1, 0, none⟩) 1 1 (flat [E']) rfl (by rfl) (fun h => by cases h) (fun ad had => by cases had; exact cells_new2 w3 _ E') (flat_oneCell _) (by unfold maxLen; omega) (by omega) (by have := B3.out.size; simp; omega) ?_); intro v9 w9 hown9 hgrow9; have O9 : Hid (w9.ownsRow v.heap.size 45 3 v9 (l ++ [E']).length (flat (l ++ [E']))) := (by unfold Hid; rw [flat_append, List.length_append]; exact hown9); have B9 : Hid (Below v.heap.size v w9) := ((B3.out.alloc B3.out.size _).alloc (by have := B3.out.size; simp; omega) _).grown hgrow9 (by have := B3.out.size; simp; omega) (fun g h => (O3.out.lt g h).1); clear hown9 hgrow9))
          go_roundg (s.size - q)
          case measure => omega
          case rel => exact ⟨q, l ++ [E'], rfl, hon.2, by rw [List.length_append, List.length_singleton]; omega, by go_num, HQ2.out, O9.out, B9.out⟩
    · have hps' : ¬ (p : Int) < (s.size : Int) := by omega
      have HE : Hid (L = l ∧ E = 0 ∧ P = 0) := by
        have := HQ.out
        rw [prs_end hps] at this
        simp only [Prod.mk.injEq] at this
        exact ⟨this.1.symm, this.2.1.symm, this.2.2.symm⟩
      clear HQ
      go_wp2
      go_ret3
      exact ⟨_, by rw [HE.out.2.1, HE.out.2.2]; rfl, by rw [HE.out.1]; exact HO.out, HB.out⟩
end Go.Proofs.YteolfolkolpehaaDoor

namespace Go.Proofs.YteolfolkolpehaaDoor
open Go.ChangeShapes Go.WideShapes Go.ChangeAt Go.RowKit
set_option linter.unusedVariables false

theorem prs_lens (s : ByteArray) : ∀ (m p : Nat) (l : List Ed), l.length ≤ 65536 → (prs s m p l).1.length ≤ 65536 ∧ (prs s m p l).2.1 < 100 ∧ 0 ≤ (prs s m p l).2.1
  | 0, p, l, h => by rw [prs]; exact ⟨h, show (0 : Int) < 100 by decide, show (0 : Int) ≤ 0 by decide⟩
  | m + 1, p, l, h => by
    rw [prs]
    split
    · split
      · exact ⟨Nat.zero_le _, show (2 : Int) < 100 by decide, show (0 : Int) ≤ 2 by decide⟩
      · split
        · exact prs_lens s m _ _ (by rw [List.length_append, List.length_singleton]; omega)
        · exact ⟨Nat.zero_le _, show (12 : Int) < 100 by decide, show (0 : Int) ≤ 12 by decide⟩
    · exact ⟨h, show (0 : Int) < 100 by decide, show (0 : Int) ≤ 0 by decide⟩

set_option maxRecDepth 1000000 in
set_option maxHeartbeats 2000000 in
theorem editsParses_walk (s : ByteArray) (w : World) (hs : s.size ≤ 140737488351232) (hB : s.size ≤ 1048576) (htab : Lib.TabIs Tryd.prog w "internal/strconv.uint64pow10" .u64 Lib.pow10Tab) :
    Calls Tryd.prog 5 #[.string s] w fun e w' => e = .returned (.bool true) ∧ Below w.heap.size w w' := by
  clear htab hs
  obtain ⟨L, E, P, hq⟩ : ∃ L E P, prs s s.size 0 [] = (L, E, P) := ⟨_, _, _, rfl⟩
  have hlen := prs_lens s s.size 0 [] (Nat.zero_le _)
  rw [hq] at hlen
  have HL : Hid (L.length ≤ maxLen) := by unfold Hid maxLen; have := hlen.1; simp only at this; omega
  have hE0 : (0 : Int) ≤ E := hlen.2.2
  have hE1 : E < 100 := hlen.2.1
  have C1 : Hid (∀ v, Calls Tryd.prog 9 #[.string s] v fun e w' => ∃ u, e = .returned (.tuple #[u, .int .i64 E, .int .i64 (P : Nat)]) ∧ w'.ownsRow v.heap.size 45 3 u L.length (flat L) ∧ Below v.heap.size v w') := fun v => parse_any s v (by omega) L E P hq
  have C2 : Hid (∀ v, Calls Tryd.prog 14 #[.string s] v fun e w' => ∃ u, e = .returned (.tuple #[u, .int .i64 E, .int .i64 (P : Nat)]) ∧ w'.ownsRow v.heap.size 45 3 u L.length (flat L) ∧ Below v.heap.size v w') := fun v => rparse_any s v (by omega) L E P hq
  have m1 : IntKind.i64.wrap E = E := IntWalk.i64_in _ ⟨by omega, by omega⟩
  clear hlen hq
  go_enter Tryd.func5, Tryd.ntmps5
  go_wp2_with (first
    | (go_at_call 9; (with_reducible refine (C1.out _).mono ?_); rintro e w1 ⟨u, rfl, hown, hb⟩; obtain ⟨a1, k1, rfl, hE1', -, -⟩ := own_form hown; have A1 : Hid (EdsA w1 a1 L) := hE1'; have HB1 : Hid (Below w.heap.size w w1) := hb; clear hown hE1' hb)
    | (go_at_call 14; (with_reducible refine (C2.out _).mono ?_); rintro e w2 ⟨u, rfl, hown, hb⟩; obtain ⟨a2, k2, rfl, hE2', -, -⟩ := own_form hown; have A2 : Hid (EdsA w2 a1 L ∧ EdsA w2 a2 L) := ⟨A1.out.below hb, hE2'⟩; have HB2 : Hid (Below w.heap.size w w2) := HB1.out.trans (hb.mono HB1.out.size); clear hown hE2' hb)
    | (go_at_call 10; (with_reducible refine (same_any _ _ _ _ L _ A2.out.1 A2.out.2 HL.out).mono ?_); rintro e w3 ⟨rfl, hb⟩; have HB3 : Hid (Below w.heap.size w w3) := HB2.out.trans (hb.mono HB2.out.size); clear hb))
  go_ret
  exact ⟨rfl, HB3.out⟩
end Go.Proofs.YteolfolkolpehaaDoor
