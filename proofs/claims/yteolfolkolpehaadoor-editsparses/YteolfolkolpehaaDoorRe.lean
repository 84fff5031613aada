import Derived.Test.YteolfolkolpehaaDoorRd
namespace Go.Proofs.YteolfolkolpehaaDoor
open Go.ChangeShapes Go.WideShapes Go.ChangeAt Go.RowKit
set_option linter.unusedVariables false

/-- the byte that stands behind a backslash -/
def escC (s : ByteArray) (p : Nat) : Option UInt8 := if isAt s p 34 then some 34 else if isAt s p 92 then some 92 else if isAt s p 110 then some 10 else none
def escP (s : ByteArray) (p : Nat) : Nat := if (escC s p).isSome then p + 1 else p

set_option maxRecDepth 1000000 in
set_option maxHeartbeats 2000000 in
theorem escaped_any (B g : Nat) (s : ByteArray) (p : Nat) (v : World) (hs : s.size ≤ 140737488351232) (hp : p ≤ s.size) (hB : B ≤ g) (h : Rdr v g s p) :
    Calls Tryd.prog 79 #[.pointer (some ⟨g, 0, none⟩)] v fun e w' => e = .returned (.tuple #[.int .u8 ((escC s p).getD 0).toNat, .bool (escC s p).isSome]) ∧ Rdr w' g s (escP s p : Nat) ∧ Below B v w' ∧ Btg g v w' := by
  have HT : Hid (∀ (c : UInt8) (x : World), Rdr x g s p → Calls Tryd.prog 59 #[.pointer (some ⟨g, 0, none⟩), .int .u8 c.toNat] x fun e w' => e = .returned (.bool (isAt s p c)) ∧ Rdr w' g s (if isAt s p c then p + 1 else p : Nat) ∧ Below B x w' ∧ Btg g x w') := fun c x hx => take_any B g s p c x hs hp hB hx
  have H : Hid (Rdr v g s p) := h
  have H1 : Hid (∀ x, Rdr x g s p → Calls Tryd.prog 59 #[.pointer (some ⟨g, 0, none⟩), .int .u8 34] x fun e w' => e = .returned (.bool (isAt s p 34)) ∧ Rdr w' g s (if isAt s p 34 then p + 1 else p : Nat) ∧ Below B x w' ∧ Btg g x w') := fun x hx => HT.out 34 x hx
  have H2 : Hid (∀ x, Rdr x g s p → Calls Tryd.prog 59 #[.pointer (some ⟨g, 0, none⟩), .int .u8 92] x fun e w' => e = .returned (.bool (isAt s p 92)) ∧ Rdr w' g s (if isAt s p 92 then p + 1 else p : Nat) ∧ Below B x w' ∧ Btg g x w') := fun x hx => HT.out 92 x hx
  have H3 : Hid (∀ x, Rdr x g s p → Calls Tryd.prog 59 #[.pointer (some ⟨g, 0, none⟩), .int .u8 110] x fun e w' => e = .returned (.bool (isAt s p 110)) ∧ Rdr w' g s (if isAt s p 110 then p + 1 else p : Nat) ∧ Below B x w' ∧ Btg g x w') := fun x hx => HT.out 110 x hx
  unfold escP
  clear h HT
  go_enter Tryd.func79, Tryd.ntmps79
  cases e1 : isAt s p 34
  · cases e2 : isAt s p 92
    · cases e3 : isAt s p 110
      · have hE : escC s p = none := by unfold escC; rw [e1, e2, e3]; rfl
        rw [hE]
        rw [e1] at H1; rw [e2] at H2; rw [e3] at H3
        clear e1 e2 e3 hE
        go_wp2_with (first
          | (go_at_call 59; (with_reducible refine (H1.out _ H.out).mono ?_); rintro e w2 ⟨rfl, hr, hb, hg⟩; have HR2 : Hid (Rdr w2 g s p) := hr; have HB2 : Hid (Below B v w2 ∧ Btg g v w2) := ⟨hb, hg⟩; clear hr hb hg)
          | (go_at_call 59; (with_reducible refine (H2.out _ HR2.out).mono ?_); rintro e w3 ⟨rfl, hr, hb, hg⟩; have HR3 : Hid (Rdr w3 g s p) := hr; have HB3 : Hid (Below B v w3 ∧ Btg g v w3) := ⟨HB2.out.1.trans hb, HB2.out.2.trans hg⟩; clear hr hb hg)
          | (go_at_call 59; (with_reducible refine (H3.out _ HR3.out).mono ?_); rintro e w4 ⟨rfl, hr, hb, hg⟩; have HR4 : Hid (Rdr w4 g s p) := hr; have HB4 : Hid (Below B v w4 ∧ Btg g v w4) := ⟨HB3.out.1.trans hb, HB3.out.2.trans hg⟩; clear hr hb hg))
        go_ret2
        exact ⟨rfl, HR4.out, HB4.out⟩
      · have hE : escC s p = some 10 := by unfold escC; rw [e1, e2, e3]; rfl
        rw [hE]
        rw [e1] at H1; rw [e2] at H2; rw [e3] at H3
        clear e1 e2 e3 hE
        go_wp2_with (first
          | (go_at_call 59; (with_reducible refine (H1.out _ H.out).mono ?_); rintro e w2 ⟨rfl, hr, hb, hg⟩; have HR2 : Hid (Rdr w2 g s p) := hr; have HB2 : Hid (Below B v w2 ∧ Btg g v w2) := ⟨hb, hg⟩; clear hr hb hg)
          | (go_at_call 59; (with_reducible refine (H2.out _ HR2.out).mono ?_); rintro e w3 ⟨rfl, hr, hb, hg⟩; have HR3 : Hid (Rdr w3 g s p) := hr; have HB3 : Hid (Below B v w3 ∧ Btg g v w3) := ⟨HB2.out.1.trans hb, HB2.out.2.trans hg⟩; clear hr hb hg)
          | (go_at_call 59; (with_reducible refine (H3.out _ HR3.out).mono ?_); rintro e w4 ⟨rfl, hr, hb, hg⟩; have HR4 : Hid (Rdr w4 g s (p + 1 : Nat)) := hr; have HB4 : Hid (Below B v w4 ∧ Btg g v w4) := ⟨HB3.out.1.trans hb, HB3.out.2.trans hg⟩; clear hr hb hg))
        go_ret2
        exact ⟨rfl, HR4.out, HB4.out⟩
    · have hE : escC s p = some 92 := by unfold escC; rw [e1, e2]; rfl
      rw [hE]
      rw [e1] at H1; rw [e2] at H2
      clear e1 e2 hE
      go_wp2_with (first
        | (go_at_call 59; (with_reducible refine (H1.out _ H.out).mono ?_); rintro e w2 ⟨rfl, hr, hb, hg⟩; have HR2 : Hid (Rdr w2 g s p) := hr; have HB2 : Hid (Below B v w2 ∧ Btg g v w2) := ⟨hb, hg⟩; clear hr hb hg)
        | (go_at_call 59; (with_reducible refine (H2.out _ HR2.out).mono ?_); rintro e w3 ⟨rfl, hr, hb, hg⟩; have HR3 : Hid (Rdr w3 g s (p + 1 : Nat)) := hr; have HB3 : Hid (Below B v w3 ∧ Btg g v w3) := ⟨HB2.out.1.trans hb, HB2.out.2.trans hg⟩; clear hr hb hg))
      go_ret2
      exact ⟨rfl, HR3.out, HB3.out⟩
  · have hE : escC s p = some 34 := by unfold escC; rw [e1]; rfl
    rw [hE]
    rw [e1] at H1
    clear e1 hE
    go_wp2_with (go_at_call 59; (with_reducible refine (H1.out _ H.out).mono ?_); rintro e w2 ⟨rfl, hr, hb, hg⟩; have HR2 : Hid (Rdr w2 g s (p + 1 : Nat)) := hr; have HB2 : Hid (Below B v w2 ∧ Btg g v w2) := ⟨hb, hg⟩; clear hr hb hg)
    go_ret2
    exact ⟨rfl, HR2.out, HB2.out⟩
end Go.Proofs.YteolfolkolpehaaDoor
