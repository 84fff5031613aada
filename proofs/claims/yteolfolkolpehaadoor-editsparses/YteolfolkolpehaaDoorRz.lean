import Derived.Test.YteolfolkolpehaaDoorRk
import Derived.Test.YteolfolkolpehaaDoorRp
namespace Go.Proofs.YteolfolkolpehaaDoor
open Go.ChangeShapes Go.WideShapes Go.ChangeAt Go.RowKit
set_option linter.unusedVariables false

set_option maxRecDepth 1000000 in
set_option maxHeartbeats 2000000 in
theorem rparse_any (s : ByteArray) (v : World) (hs : s.size ≤ 140737488351232) (L : List Ed) (E : Int) (P : Nat) (hq : prs s s.size 0 [] = (L, E, P)) :
    Calls Tryd.prog 14 #[.string s] v fun e w' => ∃ u, e = .returned (.tuple #[u, .int .i64 E, .int .i64 (P : Nat)]) ∧ w'.ownsRow v.heap.size 45 3 u L.length (flat L) ∧ Below v.heap.size v w' := by
  obtain ⟨i0, hi0, hz0, hz1, hz2⟩ := info_parts infoEd
  have HQ : Hid (prs s s.size 0 [] = (L, E, P)) := hq
  clear hq
  go_enter Tryd.func14, Tryd.ntmps14
  go_wp2
  go_loopg [5, 6] s.size (fun gk so si wr => ∃ (p : Nat) (l : List Ed), gk = s.size - p ∧ p ≤ s.size ∧ l.length ≤ 65536 ∧ si = .int .i64 (p : Int) ∧ prs s (s.size - p) p l = (L, E, P) ∧ wr.ownsRow v.heap.size 45 3 so l.length (flat l) ∧ Below v.heap.size v wr)
  case atStart => exact ⟨0, [], rfl, Nat.zero_le _, Nat.zero_le _, rfl, HQ.out, World.ownsRow_nil _ _ _ _, Below.refl _ v⟩
  case round =>
    obtain ⟨p, l, rfl, hp, hll, rfl, hpr, hown, hbel⟩ := hrel
    clear HQ
    have HQ : Hid (prs s (s.size - p) p l = (L, E, P)) := hpr
    have HO : Hid (wr.ownsRow v.heap.size 45 3 u5 l.length (flat l)) := hown
    have HB : Hid (Below v.heap.size v wr) := hbel
    obtain ⟨a5, k5, rfl, -, -, -⟩ := own_form hown
    clear hpr hown hbel
    by_cases hps : p < s.size
    · have hps' : (p : Int) < (s.size : Int) := by omega
      by_cases h65 : l.length = 65536
      · have h65' : ((l.length : Int) == 65536) = true := by rw [h65]; rfl
        have HE : Hid (L = [] ∧ E = 2 ∧ P = p) := by
          have := HQ.out
          rw [prs_many hps h65] at this
          simp only [Prod.mk.injEq] at this
          exact ⟨this.1.symm, this.2.1.symm, this.2.2.symm⟩
        clear HQ h65
        go_wp2
        go_ret3
        exact ⟨.slice none 0 0, by rw [HE.out.2.1, HE.out.2.2]; rfl, by rw [HE.out.1]; exact World.ownsRow_nil _ _ _ _, HB.out⟩
      · have h65' : ((l.length : Int) == 65536) = false := by rw [beq_eq_false_iff_ne]; omega
        obtain ⟨e, q, o, hle⟩ : ∃ e q o, lineA s p = (e, q, o) := ⟨_, _, _, rfl⟩
        have HL : Hid (∀ x, Calls Tryd.prog 32 #[.string s, .int .i64 (p : Int)] x fun z w' => (∃ E' : Ed, z = .returned (.tuple #[.agg #[.int .i64 E'.f, .int .i64 E'.t, .string E'.s], .int .i64 (q : Nat), .bool o]) ∧ (o = true → E' = e)) ∧ Below x.heap.size x w') := fun x => rline_any s p x hs hp e q o hle
        cases o
        · have HE : Hid (L = [] ∧ E = 12 ∧ P = q) := by
            have := HQ.out
            rw [prs_bad hps h65 hle] at this
            simp only [Prod.mk.injEq] at this
            exact ⟨this.1.symm, this.2.1.symm, this.2.2.symm⟩
          clear HQ h65 hle
          go_wp2_with (go_at_call 32; (with_reducible refine (HL.out _).mono ?_); rintro z w3 ⟨⟨E', rfl, -⟩, hb⟩; have B3 : Hid (Below v.heap.size v w3) := HB.out.trans (hb.mono HB.out.size); clear hb)
          go_ret3
          exact ⟨.slice none 0 0, by rw [HE.out.2.1, HE.out.2.2]; rfl, by rw [HE.out.1]; exact World.ownsRow_nil _ _ _ _, B3.out.alloc B3.out.size _⟩
        · have hon := line_on hle
          have HQ2 : Hid (prs s (s.size - q) q (l ++ [e]) = (L, E, P)) := by unfold Hid; rw [← HQ.out, prs_next hps h65 hle]
          clear HQ hle
          go_wp2_with (first
            | (go_at_call 32; (with_reducible refine (HL.out _).mono ?_); rintro z w3 ⟨⟨E', rfl, hE⟩, hb⟩; obtain rfl := hE rfl; have B3 : Hid (Below v.heap.size v w3) := HB.out.trans (hb.mono HB.out.size); have O3 : Hid (w3.ownsRow v.heap.size 45 3 (.slice a5 l.length k5) l.length (flat l)) := ownsRow_below HO.out hb (Nat.le_refl _); clear hb)
            | (at_builtin; (refine wpList_append_own_any _ rfl _ _ 22 rfl v.heap.size 45 i0 (.agg #[.int .i64 0, .int .i64 0, .string ⟨#[]⟩]) 3 32 Tryd.underlying22 hi0 hz0 hz1 hz2 rfl (by decide) _ _ _ rfl ((O3.out.alloc _).alloc _) (some ⟨w3.heap.size + 1, 0, none⟩) 1 1 (flat [E']) rfl (by rfl) (fun h => by cases h) (fun ad had => by cases had; exact cells_new2 w3 _ E') (flat_oneCell _) (by unfold maxLen; omega) (by omega) (by have := B3.out.size; simp; omega) ?_); intro v9 w9 hown9 hgrow9; have O9 : Hid (w9.ownsRow v.heap.size 45 3 v9 (l ++ [E']).length (flat (l ++ [E']))) := (by unfold Hid; rw [flat_append, List.length_append]; exact hown9); have B9 : Hid (Below v.heap.size v w9) := ((B3.out.alloc B3.out.size _).alloc (by have := B3.out.size; simp; omega) _).grown hgrow9 (by have := B3.out.size; simp; omega) (fun g h => (O3.out.lt g h).1); clear hown9 hgrow9))
          go_roundg (s.size - q)
          case measure => omega
          case rel => exact ⟨q, l ++ [E'], rfl, hon.2, by rw [List.length_append, List.length_singleton]; omega, by go_num, HQ2.out, O9.out, B9.out⟩
    · have hps' : ¬ (p : Int) < (s.size : Int) := by omega
      have HE : Hid (L = l ∧ E = 0 ∧ P = 0) := by
        have := HQ.out
        rw [prs_end hps] at this
        simp only [Prod.mk.injEq] at this
        exact ⟨this.1.symm, this.2.1.symm, this.2.2.symm⟩
      clear HQ
      go_wp2
      go_ret3
      exact ⟨_, by rw [HE.out.2.1, HE.out.2.2]; rfl, by rw [HE.out.1]; exact HO.out, HB.out⟩
end Go.Proofs.YteolfolkolpehaaDoor
