import Derived.Test.YteolfolkolpehaaDoorRm
namespace Go.Proofs.YteolfolkolpehaaDoor
open Go.ChangeShapes Go.WideShapes Go.ChangeAt Go.RowKit
set_option linter.unusedVariables false

theorem nz_len (L : Int) : ∀ (r : List UInt8) (b : Bool) (n : Int), (nz L b n r).2.1 ≤ r.length
  | [], b, n => by simp [nz]
  | c :: r, b, n => by
    rw [nz]
    split
    · exact Nat.zero_le _
    · split
      · exact Nat.zero_le _
      · have := nz_len L r false (n * 10 - ((c.toNat : Int) - 48))
        simp only [List.length_cons]; omega
theorem qz_len : ∀ (m : Nat) (r : List UInt8), r.length ≤ m → (qz r).2.1 ≤ r.length
  | 0, [], _ => by rw [qz_end]; exact Nat.le_refl _
  | 0, c :: r, h => by simp at h
  | m + 1, [], _ => by rw [qz_end]; exact Nat.le_refl _
  | m + 1, c :: r, h => by
    simp only [List.length_cons] at h
    by_cases h1 : c = 34
    · rw [h1, qz_mark]; simp
    · by_cases h2 : c = 10
      · rw [h2, qz_feed]; simp
      · by_cases h3 : c = 92
        · rw [h3, qz.eq_def]
          cases r with
          | nil => simp
          | cons z t =>
            have := qz_len m t (by simp only [List.length_cons] at h; omega)
            simp only [List.length_cons]
            split
            · simp
            · split
              · simp
              · split
                · split
                  · show (qz t).2.1 + 2 ≤ _; omega
                  · simp
                · simp_all
        · have := qz_len m r (by omega)
          rw [qz_byte r h1 h2 h3]
          show (qz r).2.1 + 1 ≤ r.length + 1
          omega
theorem numA_le {s : ByteArray} {p : Nat} (h : p ≤ s.size) {n : Int} {q : Nat} {ok : Bool} (hq : numA s p = (n, q, ok)) : q ≤ s.size := by
  have hl := bytes_len s
  unfold numA at hq
  cases e1 : isAt s p 48
  · cases e2 : isAt s p 45
    · rw [e1, e2] at hq
      simp only [Bool.false_eq_true, if_false, Prod.mk.injEq] at hq
      have := nz_len (-9223372036854775807) (s.data.toList.drop p) true 0
      rw [List.length_drop] at this
      omega
    · rw [e1, e2] at hq
      simp only [Bool.false_eq_true, if_false, if_true, Prod.mk.injEq] at hq
      have := nz_len (-9223372036854775808) (s.data.toList.drop (p + 1)) true 0
      have h2 := isAt_lt e2
      rw [List.length_drop] at this
      omega
  · rw [e1] at hq
    simp only [if_true, Prod.mk.injEq] at hq
    have h2 := isAt_lt e1
    omega

/-- what line answers from p on: the edit, the place, whether it is one -/
def lineA (s : ByteArray) (p : Nat) : Ed × Nat × Bool :=
  if (numA s p).2.2 && isAt s (numA s p).2.1 44 then
    if (numA s ((numA s p).2.1 + 1)).2.2 && isAt s (numA s ((numA s p).2.1 + 1)).2.1 32 then
      (if isAt s ((numA s ((numA s p).2.1 + 1)).2.1 + 1) 34 then
        (if (qz (s.data.toList.drop ((numA s ((numA s p).2.1 + 1)).2.1 + 2))).2.2 && isAt s ((numA s ((numA s p).2.1 + 1)).2.1 + 2 + (qz (s.data.toList.drop ((numA s ((numA s p).2.1 + 1)).2.1 + 2))).2.1) 10 then
          (⟨(numA s p).1, (numA s ((numA s p).2.1 + 1)).1, ⟨(qz (s.data.toList.drop ((numA s ((numA s p).2.1 + 1)).2.1 + 2))).1.toArray⟩⟩, (numA s ((numA s p).2.1 + 1)).2.1 + 2 + (qz (s.data.toList.drop ((numA s ((numA s p).2.1 + 1)).2.1 + 2))).2.1 + 1, true)
        else (⟨0, 0, ⟨#[]⟩⟩, (numA s ((numA s p).2.1 + 1)).2.1 + 2 + (qz (s.data.toList.drop ((numA s ((numA s p).2.1 + 1)).2.1 + 2))).2.1, false))
      else (⟨0, 0, ⟨#[]⟩⟩, (numA s ((numA s p).2.1 + 1)).2.1 + 1, false))
    else (⟨0, 0, ⟨#[]⟩⟩, (numA s ((numA s p).2.1 + 1)).2.1, false)
  else (⟨0, 0, ⟨#[]⟩⟩, (numA s p).2.1, false)

theorem btg_new {g : Nat} {u w : World} (h : Btg g u w) (i : Nat) (x : Value) : Btg g u (w.setCell ⟨u.heap.size, i, none⟩ x) :=
  ⟨by simpa using h.1, fun j hj hg => (heap_setCell_other w ⟨u.heap.size, i, none⟩ j x (by show j ≠ u.heap.size; omega)).trans (h.2 j hj hg)⟩
set_option maxRecDepth 1000000 in
set_option maxHeartbeats 2000000 in
theorem line_any (B g : Nat) (s : ByteArray) (p : Nat) (v : World) (hs : s.size ≤ 140737488351232) (hp : p ≤ s.size) (hB : B ≤ g) (h : Rdr v g s p) (E : Ed) (Q : Nat) (K : Bool) (hq : lineA s p = (E, Q, K)) :
    Calls Tryd.prog 29 #[.pointer (some ⟨g, 0, none⟩)] v fun e w' => e = .returned (.tuple #[.agg #[.int .i64 E.f, .int .i64 E.t, .string E.s], .bool K]) ∧ Rdr w' g s (Q : Nat) ∧ Below B v w' ∧ Btg g v w' := by
  have hgl := h.lt
  have hBv : B ≤ v.heap.size := by omega
  have R0 : Hid (Rdr (v.alloc (.cells #[.int .i64 0, .int .i64 0, .string ⟨#[]⟩] 45)) g s p) := h.alloc _
  have G0 : Hid (Below B v (v.alloc (.cells #[.int .i64 0, .int .i64 0, .string ⟨#[]⟩] 45)) ∧ Btg g v (v.alloc (.cells #[.int .i64 0, .int .i64 0, .string ⟨#[]⟩] 45))) := ⟨(Below.refl B v).alloc hBv _, (Btg.refl g v).below ((Below.refl _ v).alloc (Nat.le_refl _) _)⟩
  have X0 : Hid (Box (v.alloc (.cells #[.int .i64 0, .int .i64 0, .string ⟨#[]⟩] 45)) v.heap.size 0 0 ⟨#[]⟩) := Box.new v 0 0 ⟨#[]⟩
  obtain ⟨n1, q1, o1, h1⟩ : ∃ n q o, numA s p = (n, q, o) := ⟨_, _, _, rfl⟩
  obtain ⟨n2, q2, o2, h2⟩ : ∃ n q o, numA s (q1 + 1) = (n, q, o) := ⟨_, _, _, rfl⟩
  obtain ⟨T, N, o3, h3⟩ : ∃ n q o, qz (s.data.toList.drop (q2 + 2)) = (n, q, o) := ⟨_, _, _, rfl⟩
  have hq1 := numA_le hp h1
  unfold lineA at hq
  simp only [h1, h2, h3] at hq
  have N1 : Hid (∀ x, Rdr x g s p → Calls Tryd.prog 58 #[.pointer (some ⟨g, 0, none⟩)] x fun e w' => e = .returned (.tuple #[.int .i64 n1, .bool o1]) ∧ Rdr w' g s (q1 : Nat) ∧ Below B x w' ∧ Btg g x w') := fun x hx => number_any B g s p x hs hp hB hx n1 q1 o1 h1
  have T1 : Hid (∀ x, Rdr x g s (q1 : Nat) → Calls Tryd.prog 59 #[.pointer (some ⟨g, 0, none⟩), .int .u8 44] x fun e w' => e = .returned (.bool (isAt s q1 44)) ∧ Rdr w' g s (if isAt s q1 44 then q1 + 1 else q1 : Nat) ∧ Below B x w' ∧ Btg g x w') := fun x hx => take_any B g s q1 44 x hs hq1 hB hx
  clear h h1
  go_enter Tryd.func29, Tryd.ntmps29
  cases o1
  · have HE : Hid (E = ⟨0, 0, ⟨#[]⟩⟩ ∧ Q = q1 ∧ K = false) := by
      simp only [Bool.false_and, Bool.false_eq_true, if_false, Prod.mk.injEq] at hq
      exact ⟨hq.1.symm, hq.2.1.symm, hq.2.2.symm⟩
    clear hq
    go_wp2_with (first
      | (go_at_call 58; (with_reducible refine (N1.out _ R0.out).mono ?_); rintro e w1 ⟨rfl, hr, hb, hg⟩; have R1 : Hid (Rdr w1 g s (q1 : Nat)) := hr; have G1 : Hid (Below B v w1 ∧ Btg g v w1) := ⟨G0.out.1.trans hb, G0.out.2.trans hg⟩; have X1 : Hid (Box w1 v.heap.size 0 0 ⟨#[]⟩) := (hg.2 _ X0.out.lt (by omega)).trans X0.out; clear hr hb hg; have f0 := X1.out.free 0; have f1 := (X1.out.set0 0).free 1; have f2 := ((X1.out.set0 0).set1 0).free 2; have b0 := X1.out.c0; have b1 := (X1.out.set0 0).c1; have b2 := ((X1.out.set0 0).set1 0).c2))
    clear f0 f1 f2 b0 b1 b2
    have hbx : Box (((w1.setCell ⟨v.heap.size, 0, none⟩ (.int .i64 0)).setCell ⟨v.heap.size, 1, none⟩ (.int .i64 0)).setCell ⟨v.heap.size, 2, none⟩ (.string ⟨#[]⟩)) v.heap.size 0 0 ⟨#[]⟩ := ((X1.out.set0 0).set1 0).set2 ⟨#[]⟩
    have r0 := hbx.c0
    have r1 := hbx.c1
    have r2 := hbx.c2
    refine bodyPost_ret (v := .tuple #[.agg #[.int .i64 0, .int .i64 0, .string ⟨#[]⟩], .bool false]) (by simp [results, Tryd.results29, go_sem, r0, r1, r2]) rfl ?_
    exact ⟨by rw [HE.out.1, HE.out.2.2], by rw [HE.out.2.1]; exact ((R1.out.other ⟨v.heap.size, 0, none⟩ (by show g ≠ v.heap.size; omega) _).other ⟨v.heap.size, 1, none⟩ (by show g ≠ v.heap.size; omega) _).other ⟨v.heap.size, 2, none⟩ (by show g ≠ v.heap.size; omega) _, ((G1.out.1.setCell (p := ⟨v.heap.size, 0, none⟩) hBv _).setCell (p := ⟨v.heap.size, 1, none⟩) hBv _).setCell (p := ⟨v.heap.size, 2, none⟩) hBv _, btg_new (btg_new (btg_new G1.out.2 0 _) 1 _) 2 _⟩
  · cases e1 : isAt s q1 44
    · have HE : Hid (E = ⟨0, 0, ⟨#[]⟩⟩ ∧ Q = q1 ∧ K = false) := by
        rw [e1] at hq
        simp only [Bool.and_false, Bool.false_eq_true, if_false, Prod.mk.injEq] at hq
        exact ⟨hq.1.symm, hq.2.1.symm, hq.2.2.symm⟩
      rw [e1] at T1
      clear hq e1
      go_wp2_with (first
        | (go_at_call 58; (with_reducible refine (N1.out _ R0.out).mono ?_); rintro e w1 ⟨rfl, hr, hb, hg⟩; have R1 : Hid (Rdr w1 g s (q1 : Nat)) := hr; have G1 : Hid (Below B v w1 ∧ Btg g v w1) := ⟨G0.out.1.trans hb, G0.out.2.trans hg⟩; have X1 : Hid (Box w1 v.heap.size 0 0 ⟨#[]⟩) := (hg.2 _ X0.out.lt (by omega)).trans X0.out; clear hr hb hg)
        | (go_at_call 59; (with_reducible refine (T1.out _ R1.out).mono ?_); rintro e w2 ⟨rfl, hr, hb, hg⟩; have R2 : Hid (Rdr w2 g s (q1 : Nat)) := hr; have G2 : Hid (Below B v w2 ∧ Btg g v w2) := ⟨G1.out.1.trans hb, G1.out.2.trans hg⟩; have X2 : Hid (Box w2 v.heap.size 0 0 ⟨#[]⟩) := (hg.2 _ X1.out.lt (by omega)).trans X1.out; clear hr hb hg; have f0 := X2.out.free 0; have f1 := (X2.out.set0 0).free 1; have f2 := ((X2.out.set0 0).set1 0).free 2; have b0 := X2.out.c0; have b1 := (X2.out.set0 0).c1; have b2 := ((X2.out.set0 0).set1 0).c2))
      clear f0 f1 f2 b0 b1 b2
      have hbx : Box (((w2.setCell ⟨v.heap.size, 0, none⟩ (.int .i64 0)).setCell ⟨v.heap.size, 1, none⟩ (.int .i64 0)).setCell ⟨v.heap.size, 2, none⟩ (.string ⟨#[]⟩)) v.heap.size 0 0 ⟨#[]⟩ := ((X2.out.set0 0).set1 0).set2 ⟨#[]⟩
      have r0 := hbx.c0
      have r1 := hbx.c1
      have r2 := hbx.c2
      refine bodyPost_ret (v := .tuple #[.agg #[.int .i64 0, .int .i64 0, .string ⟨#[]⟩], .bool false]) (by simp [results, Tryd.results29, go_sem, r0, r1, r2]) rfl ?_
      exact ⟨by rw [HE.out.1, HE.out.2.2], by rw [HE.out.2.1]; exact ((R2.out.other ⟨v.heap.size, 0, none⟩ (by show g ≠ v.heap.size; omega) _).other ⟨v.heap.size, 1, none⟩ (by show g ≠ v.heap.size; omega) _).other ⟨v.heap.size, 2, none⟩ (by show g ≠ v.heap.size; omega) _, ((G2.out.1.setCell (p := ⟨v.heap.size, 0, none⟩) hBv _).setCell (p := ⟨v.heap.size, 1, none⟩) hBv _).setCell (p := ⟨v.heap.size, 2, none⟩) hBv _, btg_new (btg_new (btg_new G2.out.2 0 _) 1 _) 2 _⟩
    · rw [e1] at T1
      simp only [e1, Bool.and_self, if_true] at hq
      have hq1' := isAt_lt e1
      have hq2 := numA_le (by omega) h2
      have N2 : Hid (∀ x, Rdr x g s (q1 + 1 : Nat) → Calls Tryd.prog 58 #[.pointer (some ⟨g, 0, none⟩)] x fun e w' => e = .returned (.tuple #[.int .i64 n2, .bool o2]) ∧ Rdr w' g s (q2 : Nat) ∧ Below B x w' ∧ Btg g x w') := fun x hx => number_any B g s (q1 + 1) x hs (by omega) hB hx n2 q2 o2 h2
      have T2 : Hid (∀ x, Rdr x g s (q2 : Nat) → Calls Tryd.prog 59 #[.pointer (some ⟨g, 0, none⟩), .int .u8 32] x fun e w' => e = .returned (.bool (isAt s q2 32)) ∧ Rdr w' g s (if isAt s q2 32 then q2 + 1 else q2 : Nat) ∧ Below B x w' ∧ Btg g x w') := fun x hx => take_any B g s q2 32 x hs hq2 hB hx
      clear h2 e1
      cases o2
      · have HE : Hid (E = ⟨0, 0, ⟨#[]⟩⟩ ∧ Q = q2 ∧ K = false) := by
          simp only [Bool.false_and, Bool.false_eq_true, if_false, Prod.mk.injEq] at hq
          exact ⟨hq.1.symm, hq.2.1.symm, hq.2.2.symm⟩
        clear hq
        go_wp2_with (first
          | (go_at_call 58; (with_reducible refine (N1.out _ R0.out).mono ?_); rintro e w1 ⟨rfl, hr, hb, hg⟩; have R1 : Hid (Rdr w1 g s (q1 : Nat)) := hr; have G1 : Hid (Below B v w1 ∧ Btg g v w1) := ⟨G0.out.1.trans hb, G0.out.2.trans hg⟩; have X1 : Hid (Box w1 v.heap.size 0 0 ⟨#[]⟩) := (hg.2 _ X0.out.lt (by omega)).trans X0.out; clear hr hb hg)
          | (go_at_call 59; (with_reducible refine (T1.out _ R1.out).mono ?_); rintro e w2 ⟨rfl, hr, hb, hg⟩; have R2 : Hid (Rdr w2 g s (q1 + 1 : Nat)) := hr; have G2 : Hid (Below B v w2 ∧ Btg g v w2) := ⟨G1.out.1.trans hb, G1.out.2.trans hg⟩; have X2 : Hid (Box w2 v.heap.size 0 0 ⟨#[]⟩) := (hg.2 _ X1.out.lt (by omega)).trans X1.out; clear hr hb hg)
          | (go_at_call 58; (with_reducible refine (N2.out _ R2.out).mono ?_); rintro e w3 ⟨rfl, hr, hb, hg⟩; have R3 : Hid (Rdr w3 g s (q2 : Nat)) := hr; have G3 : Hid (Below B v w3 ∧ Btg g v w3) := ⟨G2.out.1.trans hb, G2.out.2.trans hg⟩; have X3 : Hid (Box w3 v.heap.size 0 0 ⟨#[]⟩) := (hg.2 _ X2.out.lt (by omega)).trans X2.out; clear hr hb hg; have f0 := X3.out.free 0; have f1 := (X3.out.set0 0).free 1; have f2 := ((X3.out.set0 0).set1 0).free 2; have b0 := X3.out.c0; have b1 := (X3.out.set0 0).c1; have b2 := ((X3.out.set0 0).set1 0).c2))
        clear f0 f1 f2 b0 b1 b2
        have hbx : Box (((w3.setCell ⟨v.heap.size, 0, none⟩ (.int .i64 0)).setCell ⟨v.heap.size, 1, none⟩ (.int .i64 0)).setCell ⟨v.heap.size, 2, none⟩ (.string ⟨#[]⟩)) v.heap.size 0 0 ⟨#[]⟩ := ((X3.out.set0 0).set1 0).set2 ⟨#[]⟩
        have r0 := hbx.c0
        have r1 := hbx.c1
        have r2 := hbx.c2
        refine bodyPost_ret (v := .tuple #[.agg #[.int .i64 0, .int .i64 0, .string ⟨#[]⟩], .bool false]) (by simp [results, Tryd.results29, go_sem, r0, r1, r2]) rfl ?_
        exact ⟨by rw [HE.out.1, HE.out.2.2], by rw [HE.out.2.1]; exact ((R3.out.other ⟨v.heap.size, 0, none⟩ (by show g ≠ v.heap.size; omega) _).other ⟨v.heap.size, 1, none⟩ (by show g ≠ v.heap.size; omega) _).other ⟨v.heap.size, 2, none⟩ (by show g ≠ v.heap.size; omega) _, ((G3.out.1.setCell (p := ⟨v.heap.size, 0, none⟩) hBv _).setCell (p := ⟨v.heap.size, 1, none⟩) hBv _).setCell (p := ⟨v.heap.size, 2, none⟩) hBv _, btg_new (btg_new (btg_new G3.out.2 0 _) 1 _) 2 _⟩
      · cases e2 : isAt s q2 32
        · have HE : Hid (E = ⟨0, 0, ⟨#[]⟩⟩ ∧ Q = q2 ∧ K = false) := by
            rw [e2] at hq
            simp only [Bool.and_false, Bool.false_eq_true, if_false, Prod.mk.injEq] at hq
            exact ⟨hq.1.symm, hq.2.1.symm, hq.2.2.symm⟩
          rw [e2] at T2
          clear hq e2
          go_wp2_with (first
            | (go_at_call 58; (with_reducible refine (N1.out _ R0.out).mono ?_); rintro e w1 ⟨rfl, hr, hb, hg⟩; have R1 : Hid (Rdr w1 g s (q1 : Nat)) := hr; have G1 : Hid (Below B v w1 ∧ Btg g v w1) := ⟨G0.out.1.trans hb, G0.out.2.trans hg⟩; have X1 : Hid (Box w1 v.heap.size 0 0 ⟨#[]⟩) := (hg.2 _ X0.out.lt (by omega)).trans X0.out; clear hr hb hg)
            | (go_at_call 59; (with_reducible refine (T1.out _ R1.out).mono ?_); rintro e w2 ⟨rfl, hr, hb, hg⟩; have R2 : Hid (Rdr w2 g s (q1 + 1 : Nat)) := hr; have G2 : Hid (Below B v w2 ∧ Btg g v w2) := ⟨G1.out.1.trans hb, G1.out.2.trans hg⟩; have X2 : Hid (Box w2 v.heap.size 0 0 ⟨#[]⟩) := (hg.2 _ X1.out.lt (by omega)).trans X1.out; clear hr hb hg)
            | (go_at_call 58; (with_reducible refine (N2.out _ R2.out).mono ?_); rintro e w3 ⟨rfl, hr, hb, hg⟩; have R3 : Hid (Rdr w3 g s (q2 : Nat)) := hr; have G3 : Hid (Below B v w3 ∧ Btg g v w3) := ⟨G2.out.1.trans hb, G2.out.2.trans hg⟩; have X3 : Hid (Box w3 v.heap.size 0 0 ⟨#[]⟩) := (hg.2 _ X2.out.lt (by omega)).trans X2.out; clear hr hb hg)
            | (go_at_call 59; (with_reducible refine (T2.out _ R3.out).mono ?_); rintro e w4 ⟨rfl, hr, hb, hg⟩; have R4 : Hid (Rdr w4 g s (q2 : Nat)) := hr; have G4 : Hid (Below B v w4 ∧ Btg g v w4) := ⟨G3.out.1.trans hb, G3.out.2.trans hg⟩; have X4 : Hid (Box w4 v.heap.size 0 0 ⟨#[]⟩) := (hg.2 _ X3.out.lt (by omega)).trans X3.out; clear hr hb hg; have f0 := X4.out.free 0; have f1 := (X4.out.set0 0).free 1; have f2 := ((X4.out.set0 0).set1 0).free 2; have b0 := X4.out.c0; have b1 := (X4.out.set0 0).c1; have b2 := ((X4.out.set0 0).set1 0).c2))
          clear f0 f1 f2 b0 b1 b2
          have hbx : Box (((w4.setCell ⟨v.heap.size, 0, none⟩ (.int .i64 0)).setCell ⟨v.heap.size, 1, none⟩ (.int .i64 0)).setCell ⟨v.heap.size, 2, none⟩ (.string ⟨#[]⟩)) v.heap.size 0 0 ⟨#[]⟩ := ((X4.out.set0 0).set1 0).set2 ⟨#[]⟩
          have r0 := hbx.c0
          have r1 := hbx.c1
          have r2 := hbx.c2
          refine bodyPost_ret (v := .tuple #[.agg #[.int .i64 0, .int .i64 0, .string ⟨#[]⟩], .bool false]) (by simp [results, Tryd.results29, go_sem, r0, r1, r2]) rfl ?_
          exact ⟨by rw [HE.out.1, HE.out.2.2], by rw [HE.out.2.1]; exact ((R4.out.other ⟨v.heap.size, 0, none⟩ (by show g ≠ v.heap.size; omega) _).other ⟨v.heap.size, 1, none⟩ (by show g ≠ v.heap.size; omega) _).other ⟨v.heap.size, 2, none⟩ (by show g ≠ v.heap.size; omega) _, ((G4.out.1.setCell (p := ⟨v.heap.size, 0, none⟩) hBv _).setCell (p := ⟨v.heap.size, 1, none⟩) hBv _).setCell (p := ⟨v.heap.size, 2, none⟩) hBv _, btg_new (btg_new (btg_new G4.out.2 0 _) 1 _) 2 _⟩
        · rw [e2] at T2
          simp only [e2, Bool.and_self, if_true] at hq
          have hq2' := isAt_lt e2
          have QD : Hid (∀ x, Rdr x g s (q2 + 1 : Nat) → Calls Tryd.prog 60 #[.pointer (some ⟨g, 0, none⟩)] x fun e w' => e = .returned (.tuple #[.string ⟨(if isAt s (q2 + 1) 34 && o3 then T else []).toArray⟩, .bool (isAt s (q2 + 1) 34 && o3)]) ∧ Rdr w' g s (if isAt s (q2 + 1) 34 then q2 + 2 + N else q2 + 1 : Nat) ∧ Below B x w' ∧ Btg g x w') := fun x hx => quotedR_any B g s (q2 + 1) x hs (by omega) hB hx T N o3 h3
          clear e2
          cases e3 : isAt s (q2 + 1) 34
          · have HE : Hid (E = ⟨0, 0, ⟨#[]⟩⟩ ∧ Q = q2 + 1 ∧ K = false) := by
              simp only [e3, Bool.false_eq_true, if_false, Prod.mk.injEq] at hq
              exact ⟨hq.1.symm, hq.2.1.symm, hq.2.2.symm⟩
            rw [e3] at QD
            clear hq e3
            go_wp2_with (first
              | (go_at_call 58; (with_reducible refine (N1.out _ R0.out).mono ?_); rintro e w1 ⟨rfl, hr, hb, hg⟩; have R1 : Hid (Rdr w1 g s (q1 : Nat)) := hr; have G1 : Hid (Below B v w1 ∧ Btg g v w1) := ⟨G0.out.1.trans hb, G0.out.2.trans hg⟩; have X1 : Hid (Box w1 v.heap.size 0 0 ⟨#[]⟩) := (hg.2 _ X0.out.lt (by omega)).trans X0.out; clear hr hb hg)
              | (go_at_call 59; (with_reducible refine (T1.out _ R1.out).mono ?_); rintro e w2 ⟨rfl, hr, hb, hg⟩; have R2 : Hid (Rdr w2 g s (q1 + 1 : Nat)) := hr; have G2 : Hid (Below B v w2 ∧ Btg g v w2) := ⟨G1.out.1.trans hb, G1.out.2.trans hg⟩; have X2 : Hid (Box w2 v.heap.size 0 0 ⟨#[]⟩) := (hg.2 _ X1.out.lt (by omega)).trans X1.out; clear hr hb hg)
              | (go_at_call 58; (with_reducible refine (N2.out _ R2.out).mono ?_); rintro e w3 ⟨rfl, hr, hb, hg⟩; have R3 : Hid (Rdr w3 g s (q2 : Nat)) := hr; have G3 : Hid (Below B v w3 ∧ Btg g v w3) := ⟨G2.out.1.trans hb, G2.out.2.trans hg⟩; have X3 : Hid (Box w3 v.heap.size 0 0 ⟨#[]⟩) := (hg.2 _ X2.out.lt (by omega)).trans X2.out; clear hr hb hg)
              | (go_at_call 59; (with_reducible refine (T2.out _ R3.out).mono ?_); rintro e w4 ⟨rfl, hr, hb, hg⟩; have R4 : Hid (Rdr w4 g s (q2 + 1 : Nat)) := hr; have G4 : Hid (Below B v w4 ∧ Btg g v w4) := ⟨G3.out.1.trans hb, G3.out.2.trans hg⟩; have X4 : Hid (Box w4 v.heap.size 0 0 ⟨#[]⟩) := (hg.2 _ X3.out.lt (by omega)).trans X3.out; clear hr hb hg)
              | (go_at_call 60; (with_reducible refine (QD.out _ R4.out).mono ?_); rintro e w5 ⟨rfl, hr, hb, hg⟩; have R5 : Hid (Rdr w5 g s (q2 + 1 : Nat)) := hr; have G5 : Hid (Below B v w5 ∧ Btg g v w5) := ⟨G4.out.1.trans hb, G4.out.2.trans hg⟩; have X5 : Hid (Box w5 v.heap.size 0 0 ⟨#[]⟩) := (hg.2 _ X4.out.lt (by omega)).trans X4.out; clear hr hb hg; have f0 := X5.out.free 0; have f1 := (X5.out.set0 0).free 1; have f2 := ((X5.out.set0 0).set1 0).free 2; have b0 := X5.out.c0; have b1 := (X5.out.set0 0).c1; have b2 := ((X5.out.set0 0).set1 0).c2))
            clear f0 f1 f2 b0 b1 b2
            have hbx : Box (((w5.setCell ⟨v.heap.size, 0, none⟩ (.int .i64 0)).setCell ⟨v.heap.size, 1, none⟩ (.int .i64 0)).setCell ⟨v.heap.size, 2, none⟩ (.string ⟨#[]⟩)) v.heap.size 0 0 ⟨#[]⟩ := ((X5.out.set0 0).set1 0).set2 ⟨#[]⟩
            have r0 := hbx.c0
            have r1 := hbx.c1
            have r2 := hbx.c2
            refine bodyPost_ret (v := .tuple #[.agg #[.int .i64 0, .int .i64 0, .string ⟨#[]⟩], .bool false]) (by simp [results, Tryd.results29, go_sem, r0, r1, r2]) rfl ?_
            exact ⟨by rw [HE.out.1, HE.out.2.2], by rw [HE.out.2.1]; exact ((R5.out.other ⟨v.heap.size, 0, none⟩ (by show g ≠ v.heap.size; omega) _).other ⟨v.heap.size, 1, none⟩ (by show g ≠ v.heap.size; omega) _).other ⟨v.heap.size, 2, none⟩ (by show g ≠ v.heap.size; omega) _, ((G5.out.1.setCell (p := ⟨v.heap.size, 0, none⟩) hBv _).setCell (p := ⟨v.heap.size, 1, none⟩) hBv _).setCell (p := ⟨v.heap.size, 2, none⟩) hBv _, btg_new (btg_new (btg_new G5.out.2 0 _) 1 _) 2 _⟩
          · rw [e3] at QD
            simp only [e3, if_true] at hq
            have he3 := isAt_lt e3
            have hqn : q2 + 2 + N ≤ s.size := by
              have h5 := qz_len _ (s.data.toList.drop (q2 + 2)) (Nat.le_refl _)
              have hl := bytes_len s
              rw [h3, List.length_drop] at h5
              simp only at h5
              omega
            have T3 : Hid (∀ x, Rdr x g s (q2 + 2 + N : Nat) → Calls Tryd.prog 59 #[.pointer (some ⟨g, 0, none⟩), .int .u8 10] x fun e w' => e = .returned (.bool (isAt s (q2 + 2 + N) 10)) ∧ Rdr w' g s (if isAt s (q2 + 2 + N) 10 then q2 + 2 + N + 1 else q2 + 2 + N : Nat) ∧ Below B x w' ∧ Btg g x w') := fun x hx => take_any B g s (q2 + 2 + N) 10 x hs hqn hB hx
            clear e3 h3
            cases o3
            · have HE : Hid (E = ⟨0, 0, ⟨#[]⟩⟩ ∧ Q = q2 + 2 + N ∧ K = false) := by
                simp only [Bool.false_and, Bool.false_eq_true, if_false, Prod.mk.injEq] at hq
                exact ⟨hq.1.symm, hq.2.1.symm, hq.2.2.symm⟩
              clear hq
              go_wp2_with (first
                | (go_at_call 58; (with_reducible refine (N1.out _ R0.out).mono ?_); rintro e w1 ⟨rfl, hr, hb, hg⟩; have R1 : Hid (Rdr w1 g s (q1 : Nat)) := hr; have G1 : Hid (Below B v w1 ∧ Btg g v w1) := ⟨G0.out.1.trans hb, G0.out.2.trans hg⟩; have X1 : Hid (Box w1 v.heap.size 0 0 ⟨#[]⟩) := (hg.2 _ X0.out.lt (by omega)).trans X0.out; clear hr hb hg)
                | (go_at_call 59; (with_reducible refine (T1.out _ R1.out).mono ?_); rintro e w2 ⟨rfl, hr, hb, hg⟩; have R2 : Hid (Rdr w2 g s (q1 + 1 : Nat)) := hr; have G2 : Hid (Below B v w2 ∧ Btg g v w2) := ⟨G1.out.1.trans hb, G1.out.2.trans hg⟩; have X2 : Hid (Box w2 v.heap.size 0 0 ⟨#[]⟩) := (hg.2 _ X1.out.lt (by omega)).trans X1.out; clear hr hb hg)
                | (go_at_call 58; (with_reducible refine (N2.out _ R2.out).mono ?_); rintro e w3 ⟨rfl, hr, hb, hg⟩; have R3 : Hid (Rdr w3 g s (q2 : Nat)) := hr; have G3 : Hid (Below B v w3 ∧ Btg g v w3) := ⟨G2.out.1.trans hb, G2.out.2.trans hg⟩; have X3 : Hid (Box w3 v.heap.size 0 0 ⟨#[]⟩) := (hg.2 _ X2.out.lt (by omega)).trans X2.out; clear hr hb hg)
                | (go_at_call 59; (with_reducible refine (T2.out _ R3.out).mono ?_); rintro e w4 ⟨rfl, hr, hb, hg⟩; have R4 : Hid (Rdr w4 g s (q2 + 1 : Nat)) := hr; have G4 : Hid (Below B v w4 ∧ Btg g v w4) := ⟨G3.out.1.trans hb, G3.out.2.trans hg⟩; have X4 : Hid (Box w4 v.heap.size 0 0 ⟨#[]⟩) := (hg.2 _ X3.out.lt (by omega)).trans X3.out; clear hr hb hg)
                | (go_at_call 60; (with_reducible refine (QD.out _ R4.out).mono ?_); rintro e w5 ⟨rfl, hr, hb, hg⟩; have R5 : Hid (Rdr w5 g s (q2 + 2 + N : Nat)) := hr; have G5 : Hid (Below B v w5 ∧ Btg g v w5) := ⟨G4.out.1.trans hb, G4.out.2.trans hg⟩; have X5 : Hid (Box w5 v.heap.size 0 0 ⟨#[]⟩) := (hg.2 _ X4.out.lt (by omega)).trans X4.out; clear hr hb hg; have f0 := X5.out.free 0; have f1 := (X5.out.set0 0).free 1; have f2 := ((X5.out.set0 0).set1 0).free 2; have b0 := X5.out.c0; have b1 := (X5.out.set0 0).c1; have b2 := ((X5.out.set0 0).set1 0).c2))
              clear f0 f1 f2 b0 b1 b2
              have hbx : Box (((w5.setCell ⟨v.heap.size, 0, none⟩ (.int .i64 0)).setCell ⟨v.heap.size, 1, none⟩ (.int .i64 0)).setCell ⟨v.heap.size, 2, none⟩ (.string ⟨#[]⟩)) v.heap.size 0 0 ⟨#[]⟩ := ((X5.out.set0 0).set1 0).set2 ⟨#[]⟩
              have r0 := hbx.c0
              have r1 := hbx.c1
              have r2 := hbx.c2
              refine bodyPost_ret (v := .tuple #[.agg #[.int .i64 0, .int .i64 0, .string ⟨#[]⟩], .bool false]) (by simp [results, Tryd.results29, go_sem, r0, r1, r2]) rfl ?_
              exact ⟨by rw [HE.out.1, HE.out.2.2], by rw [HE.out.2.1]; exact ((R5.out.other ⟨v.heap.size, 0, none⟩ (by show g ≠ v.heap.size; omega) _).other ⟨v.heap.size, 1, none⟩ (by show g ≠ v.heap.size; omega) _).other ⟨v.heap.size, 2, none⟩ (by show g ≠ v.heap.size; omega) _, ((G5.out.1.setCell (p := ⟨v.heap.size, 0, none⟩) hBv _).setCell (p := ⟨v.heap.size, 1, none⟩) hBv _).setCell (p := ⟨v.heap.size, 2, none⟩) hBv _, btg_new (btg_new (btg_new G5.out.2 0 _) 1 _) 2 _⟩
            · cases e4 : isAt s (q2 + 2 + N) 10
              · have HE : Hid (E = ⟨0, 0, ⟨#[]⟩⟩ ∧ Q = q2 + 2 + N ∧ K = false) := by
                  rw [e4] at hq
                  simp only [Bool.and_false, Bool.false_eq_true, if_false, Prod.mk.injEq] at hq
                  exact ⟨hq.1.symm, hq.2.1.symm, hq.2.2.symm⟩
                rw [e4] at T3
                clear hq e4
                go_wp2_with (first
                  | (go_at_call 58; (with_reducible refine (N1.out _ R0.out).mono ?_); rintro e w1 ⟨rfl, hr, hb, hg⟩; have R1 : Hid (Rdr w1 g s (q1 : Nat)) := hr; have G1 : Hid (Below B v w1 ∧ Btg g v w1) := ⟨G0.out.1.trans hb, G0.out.2.trans hg⟩; have X1 : Hid (Box w1 v.heap.size 0 0 ⟨#[]⟩) := (hg.2 _ X0.out.lt (by omega)).trans X0.out; clear hr hb hg)
                  | (go_at_call 59; (with_reducible refine (T1.out _ R1.out).mono ?_); rintro e w2 ⟨rfl, hr, hb, hg⟩; have R2 : Hid (Rdr w2 g s (q1 + 1 : Nat)) := hr; have G2 : Hid (Below B v w2 ∧ Btg g v w2) := ⟨G1.out.1.trans hb, G1.out.2.trans hg⟩; have X2 : Hid (Box w2 v.heap.size 0 0 ⟨#[]⟩) := (hg.2 _ X1.out.lt (by omega)).trans X1.out; clear hr hb hg)
                  | (go_at_call 58; (with_reducible refine (N2.out _ R2.out).mono ?_); rintro e w3 ⟨rfl, hr, hb, hg⟩; have R3 : Hid (Rdr w3 g s (q2 : Nat)) := hr; have G3 : Hid (Below B v w3 ∧ Btg g v w3) := ⟨G2.out.1.trans hb, G2.out.2.trans hg⟩; have X3 : Hid (Box w3 v.heap.size 0 0 ⟨#[]⟩) := (hg.2 _ X2.out.lt (by omega)).trans X2.out; clear hr hb hg)
                  | (go_at_call 59; (with_reducible refine (T2.out _ R3.out).mono ?_); rintro e w4 ⟨rfl, hr, hb, hg⟩; have R4 : Hid (Rdr w4 g s (q2 + 1 : Nat)) := hr; have G4 : Hid (Below B v w4 ∧ Btg g v w4) := ⟨G3.out.1.trans hb, G3.out.2.trans hg⟩; have X4 : Hid (Box w4 v.heap.size 0 0 ⟨#[]⟩) := (hg.2 _ X3.out.lt (by omega)).trans X3.out; clear hr hb hg)
                  | (go_at_call 60; (with_reducible refine (QD.out _ R4.out).mono ?_); rintro e w5 ⟨rfl, hr, hb, hg⟩; have R5 : Hid (Rdr w5 g s (q2 + 2 + N : Nat)) := hr; have G5 : Hid (Below B v w5 ∧ Btg g v w5) := ⟨G4.out.1.trans hb, G4.out.2.trans hg⟩; have X5 : Hid (Box w5 v.heap.size 0 0 ⟨#[]⟩) := (hg.2 _ X4.out.lt (by omega)).trans X4.out; clear hr hb hg)
                  | (go_at_call 59; (with_reducible refine (T3.out _ R5.out).mono ?_); rintro e w6 ⟨rfl, hr, hb, hg⟩; have R6 : Hid (Rdr w6 g s (q2 + 2 + N : Nat)) := hr; have G6 : Hid (Below B v w6 ∧ Btg g v w6) := ⟨G5.out.1.trans hb, G5.out.2.trans hg⟩; have X6 : Hid (Box w6 v.heap.size 0 0 ⟨#[]⟩) := (hg.2 _ X5.out.lt (by omega)).trans X5.out; clear hr hb hg; have f0 := X6.out.free 0; have f1 := (X6.out.set0 0).free 1; have f2 := ((X6.out.set0 0).set1 0).free 2; have b0 := X6.out.c0; have b1 := (X6.out.set0 0).c1; have b2 := ((X6.out.set0 0).set1 0).c2))
                clear f0 f1 f2 b0 b1 b2
                have hbx : Box (((w6.setCell ⟨v.heap.size, 0, none⟩ (.int .i64 0)).setCell ⟨v.heap.size, 1, none⟩ (.int .i64 0)).setCell ⟨v.heap.size, 2, none⟩ (.string ⟨#[]⟩)) v.heap.size 0 0 ⟨#[]⟩ := ((X6.out.set0 0).set1 0).set2 ⟨#[]⟩
                have r0 := hbx.c0
                have r1 := hbx.c1
                have r2 := hbx.c2
                refine bodyPost_ret (v := .tuple #[.agg #[.int .i64 0, .int .i64 0, .string ⟨#[]⟩], .bool false]) (by simp [results, Tryd.results29, go_sem, r0, r1, r2]) rfl ?_
                exact ⟨by rw [HE.out.1, HE.out.2.2], by rw [HE.out.2.1]; exact ((R6.out.other ⟨v.heap.size, 0, none⟩ (by show g ≠ v.heap.size; omega) _).other ⟨v.heap.size, 1, none⟩ (by show g ≠ v.heap.size; omega) _).other ⟨v.heap.size, 2, none⟩ (by show g ≠ v.heap.size; omega) _, ((G6.out.1.setCell (p := ⟨v.heap.size, 0, none⟩) hBv _).setCell (p := ⟨v.heap.size, 1, none⟩) hBv _).setCell (p := ⟨v.heap.size, 2, none⟩) hBv _, btg_new (btg_new (btg_new G6.out.2 0 _) 1 _) 2 _⟩
              · have HE : Hid (E = ⟨n1, n2, ⟨T.toArray⟩⟩ ∧ Q = q2 + 2 + N + 1 ∧ K = true) := by
                  simp only [e4, Bool.and_self, if_true, Prod.mk.injEq] at hq
                  exact ⟨hq.1.symm, hq.2.1.symm, hq.2.2.symm⟩
                rw [e4] at T3
                clear hq e4
                go_wp2_with (first
                  | (go_at_call 58; (with_reducible refine (N1.out _ R0.out).mono ?_); rintro e w1 ⟨rfl, hr, hb, hg⟩; have R1 : Hid (Rdr w1 g s (q1 : Nat)) := hr; have G1 : Hid (Below B v w1 ∧ Btg g v w1) := ⟨G0.out.1.trans hb, G0.out.2.trans hg⟩; have X1 : Hid (Box w1 v.heap.size 0 0 ⟨#[]⟩) := (hg.2 _ X0.out.lt (by omega)).trans X0.out; clear hr hb hg)
                  | (go_at_call 59; (with_reducible refine (T1.out _ R1.out).mono ?_); rintro e w2 ⟨rfl, hr, hb, hg⟩; have R2 : Hid (Rdr w2 g s (q1 + 1 : Nat)) := hr; have G2 : Hid (Below B v w2 ∧ Btg g v w2) := ⟨G1.out.1.trans hb, G1.out.2.trans hg⟩; have X2 : Hid (Box w2 v.heap.size 0 0 ⟨#[]⟩) := (hg.2 _ X1.out.lt (by omega)).trans X1.out; clear hr hb hg)
                  | (go_at_call 58; (with_reducible refine (N2.out _ R2.out).mono ?_); rintro e w3 ⟨rfl, hr, hb, hg⟩; have R3 : Hid (Rdr w3 g s (q2 : Nat)) := hr; have G3 : Hid (Below B v w3 ∧ Btg g v w3) := ⟨G2.out.1.trans hb, G2.out.2.trans hg⟩; have X3 : Hid (Box w3 v.heap.size 0 0 ⟨#[]⟩) := (hg.2 _ X2.out.lt (by omega)).trans X2.out; clear hr hb hg)
                  | (go_at_call 59; (with_reducible refine (T2.out _ R3.out).mono ?_); rintro e w4 ⟨rfl, hr, hb, hg⟩; have R4 : Hid (Rdr w4 g s (q2 + 1 : Nat)) := hr; have G4 : Hid (Below B v w4 ∧ Btg g v w4) := ⟨G3.out.1.trans hb, G3.out.2.trans hg⟩; have X4 : Hid (Box w4 v.heap.size 0 0 ⟨#[]⟩) := (hg.2 _ X3.out.lt (by omega)).trans X3.out; clear hr hb hg)
                  | (go_at_call 60; (with_reducible refine (QD.out _ R4.out).mono ?_); rintro e w5 ⟨rfl, hr, hb, hg⟩; have R5 : Hid (Rdr w5 g s (q2 + 2 + N : Nat)) := hr; have G5 : Hid (Below B v w5 ∧ Btg g v w5) := ⟨G4.out.1.trans hb, G4.out.2.trans hg⟩; have X5 : Hid (Box w5 v.heap.size 0 0 ⟨#[]⟩) := (hg.2 _ X4.out.lt (by omega)).trans X4.out; clear hr hb hg)
                  | (go_at_call 59; (with_reducible refine (T3.out _ R5.out).mono ?_); rintro e w6 ⟨rfl, hr, hb, hg⟩; have R6 : Hid (Rdr w6 g s (q2 + 2 + N + 1 : Nat)) := hr; have G6 : Hid (Below B v w6 ∧ Btg g v w6) := ⟨G5.out.1.trans hb, G5.out.2.trans hg⟩; have X6 : Hid (Box w6 v.heap.size 0 0 ⟨#[]⟩) := (hg.2 _ X5.out.lt (by omega)).trans X5.out; clear hr hb hg; have f0 := X6.out.free 0; have f1 := (X6.out.set0 n1).free 1; have f2 := ((X6.out.set0 n1).set1 n2).free 2; have b0 := X6.out.c0; have b1 := (X6.out.set0 n1).c1; have b2 := ((X6.out.set0 n1).set1 n2).c2))
                clear f0 f1 f2 b0 b1 b2
                have hbx : Box (((w6.setCell ⟨v.heap.size, 0, none⟩ (.int .i64 n1)).setCell ⟨v.heap.size, 1, none⟩ (.int .i64 n2)).setCell ⟨v.heap.size, 2, none⟩ (.string ⟨T.toArray⟩)) v.heap.size n1 n2 ⟨T.toArray⟩ := ((X6.out.set0 n1).set1 n2).set2 ⟨T.toArray⟩
                have r0 := hbx.c0
                have r1 := hbx.c1
                have r2 := hbx.c2
                refine bodyPost_ret (v := .tuple #[.agg #[.int .i64 n1, .int .i64 n2, .string ⟨T.toArray⟩], .bool true]) (by simp [results, Tryd.results29, go_sem, r0, r1, r2]) rfl ?_
                exact ⟨by rw [HE.out.1, HE.out.2.2], by rw [HE.out.2.1]; exact ((R6.out.other ⟨v.heap.size, 0, none⟩ (by show g ≠ v.heap.size; omega) _).other ⟨v.heap.size, 1, none⟩ (by show g ≠ v.heap.size; omega) _).other ⟨v.heap.size, 2, none⟩ (by show g ≠ v.heap.size; omega) _, ((G6.out.1.setCell (p := ⟨v.heap.size, 0, none⟩) hBv _).setCell (p := ⟨v.heap.size, 1, none⟩) hBv _).setCell (p := ⟨v.heap.size, 2, none⟩) hBv _, btg_new (btg_new (btg_new G6.out.2 0 _) 1 _) 2 _⟩
end Go.Proofs.YteolfolkolpehaaDoor
