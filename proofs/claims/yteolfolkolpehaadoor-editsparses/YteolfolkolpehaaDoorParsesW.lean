import Derived.Test.YteolfolkolpehaaDoorRz
namespace Go.Proofs.YteolfolkolpehaaDoor
open Go.ChangeShapes Go.WideShapes Go.ChangeAt Go.RowKit
set_option linter.unusedVariables false

theorem prs_lens (s : ByteArray) : ∀ (m p : Nat) (l : List Ed), l.length ≤ 65536 → (prs s m p l).1.length ≤ 65536 ∧ (prs s m p l).2.1 < 100 ∧ 0 ≤ (prs s m p l).2.1
  | 0, p, l, h => by rw [prs]; exact ⟨h, show (0 : Int) < 100 by decide, show (0 : Int) ≤ 0 by decide⟩
  | m + 1, p, l, h => by
    rw [prs]
    split
    · split
      · exact ⟨Nat.zero_le _, show (2 : Int) < 100 by decide, show (0 : Int) ≤ 2 by decide⟩
      · split
        · exact prs_lens s m _ _ (by rw [List.length_append, List.length_singleton]; omega)
        · exact ⟨Nat.zero_le _, show (12 : Int) < 100 by decide, show (0 : Int) ≤ 12 by decide⟩
    · exact ⟨h, show (0 : Int) < 100 by decide, show (0 : Int) ≤ 0 by decide⟩

set_option maxRecDepth 1000000 in
set_option maxHeartbeats 2000000 in
theorem editsParses_walk (s : ByteArray) (w : World) (hs : s.size ≤ 140737488351232) (htab : Lib.TabIs Tryd.prog w "internal/strconv.uint64pow10" .u64 Lib.pow10Tab) :
    Calls Tryd.prog 5 #[.string s] w fun e w' => e = .returned (.bool true) ∧ Below w.heap.size w w' := by
  clear htab
  obtain ⟨L, E, P, hq⟩ : ∃ L E P, prs s s.size 0 [] = (L, E, P) := ⟨_, _, _, rfl⟩
  have hlen := prs_lens s s.size 0 [] (Nat.zero_le _)
  rw [hq] at hlen
  have HL : Hid (L.length ≤ maxLen) := by unfold Hid maxLen; have := hlen.1; simp only at this; omega
  have hE0 : (0 : Int) ≤ E := hlen.2.2
  have hE1 : E < 100 := hlen.2.1
  have C1 : Hid (∀ v, Calls Tryd.prog 9 #[.string s] v fun e w' => ∃ u, e = .returned (.tuple #[u, .int .i64 E, .int .i64 (P : Nat)]) ∧ w'.ownsRow v.heap.size 45 3 u L.length (flat L) ∧ Below v.heap.size v w') := fun v => parse_any s v (by omega) L E P hq
  have C2 : Hid (∀ v, Calls Tryd.prog 14 #[.string s] v fun e w' => ∃ u, e = .returned (.tuple #[u, .int .i64 E, .int .i64 (P : Nat)]) ∧ w'.ownsRow v.heap.size 45 3 u L.length (flat L) ∧ Below v.heap.size v w') := fun v => rparse_any s v (by omega) L E P hq
  have m1 : IntKind.i64.wrap E = E := IntWalk.i64_in _ ⟨by omega, by omega⟩
  clear hlen hq
  go_enter Tryd.func5, Tryd.ntmps5
  go_wp2_with (first
    | (go_at_call 9; (with_reducible refine (C1.out _).mono ?_); rintro e w1 ⟨u, rfl, hown, hb⟩; obtain ⟨a1, k1, rfl, hE1', -, -⟩ := own_form hown; have A1 : Hid (EdsA w1 a1 L) := hE1'; have HB1 : Hid (Below w.heap.size w w1) := hb; clear hown hE1' hb)
    | (go_at_call 14; (with_reducible refine (C2.out _).mono ?_); rintro e w2 ⟨u, rfl, hown, hb⟩; obtain ⟨a2, k2, rfl, hE2', -, -⟩ := own_form hown; have A2 : Hid (EdsA w2 a1 L ∧ EdsA w2 a2 L) := ⟨A1.out.below hb, hE2'⟩; have HB2 : Hid (Below w.heap.size w w2) := HB1.out.trans (hb.mono HB1.out.size); clear hown hE2' hb)
    | (go_at_call 10; (with_reducible refine (same_any _ _ _ _ L _ A2.out.1 A2.out.2 HL.out).mono ?_); rintro e w3 ⟨rfl, hb⟩; have HB3 : Hid (Below w.heap.size w w3) := HB2.out.trans (hb.mono HB2.out.size); clear hb))
  go_ret
  exact ⟨rfl, HB3.out⟩
end Go.Proofs.YteolfolkolpehaaDoor
