import Derived.Test.YteolfolkolpehaaDoorRq
namespace Go.Proofs.YteolfolkolpehaaDoor
open Go.ChangeShapes Go.WideShapes Go.ChangeAt Go.RowKit
set_option linter.unusedVariables false

/-- a number's digits, counted below zero: the number, how many were passed, whether it is one -/
def nz (least : Int) : Bool → Int → List UInt8 → Int × Nat × Bool
  | _, _, [] => (0, 0, false)
  | first, n, c :: r =>
    if (c.toNat : Int) - 48 < 0 ∨ 9 < (c.toNat : Int) - 48 then (n, 0, !first)
    else if (first = true ∧ (c.toNat : Int) - 48 = 0) ∨ n < (least + ((c.toNat : Int) - 48)).tdiv 10 then (0, 0, false)
    else ((nz least false (n * 10 - ((c.toNat : Int) - 48)) r).1, (nz least false (n * 10 - ((c.toNat : Int) - 48)) r).2.1 + 1, (nz least false (n * 10 - ((c.toNat : Int) - 48)) r).2.2)
/-- what number answers from p on: the number, the place, whether it is one -/
def numA (s : ByteArray) (p : Nat) : Int × Nat × Bool :=
  if isAt s p 48 then (0, p + 1, true)
  else if isAt s p 45 then ((nz (-9223372036854775808) true 0 (s.data.toList.drop (p + 1))).1, p + 1 + (nz (-9223372036854775808) true 0 (s.data.toList.drop (p + 1))).2.1, (nz (-9223372036854775808) true 0 (s.data.toList.drop (p + 1))).2.2)
  else (-(nz (-9223372036854775807) true 0 (s.data.toList.drop p)).1, p + (nz (-9223372036854775807) true 0 (s.data.toList.drop p)).2.1, (nz (-9223372036854775807) true 0 (s.data.toList.drop p)).2.2)

set_option maxRecDepth 1000000 in
set_option maxHeartbeats 2000000 in
theorem number_any (B g : Nat) (s : ByteArray) (p : Nat) (v : World) (hs : s.size ≤ 140737488351232) (hp : p ≤ s.size) (hB : B ≤ g) (h : Rdr v g s p) (n : Int) (q : Nat) (ok : Bool) (hq : numA s p = (n, q, ok)) :
    Calls Tryd.prog 58 #[.pointer (some ⟨g, 0, none⟩)] v fun e w' => e = .returned (.tuple #[.int .i64 n, .bool ok]) ∧ Rdr w' g s (q : Nat) ∧ Below B v w' ∧ Btg g v w' := by
  have hl := bytes_len s
  have hgl := h.lt
  have H : Hid (Rdr v g s p) := h
  have H1 : Hid (∀ x, Rdr x g s p → Calls Tryd.prog 59 #[.pointer (some ⟨g, 0, none⟩), .int .u8 48] x fun e w' => e = .returned (.bool (isAt s p 48)) ∧ Rdr w' g s (if isAt s p 48 then p + 1 else p : Nat) ∧ Below B x w' ∧ Btg g x w') := fun x hx => take_any B g s p 48 x hs hp hB hx
  have H2 : Hid (∀ x, Rdr x g s p → Calls Tryd.prog 59 #[.pointer (some ⟨g, 0, none⟩), .int .u8 45] x fun e w' => e = .returned (.bool (isAt s p 45)) ∧ Rdr w' g s (if isAt s p 45 then p + 1 else p : Nat) ∧ Below B x w' ∧ Btg g x w') := fun x hx => take_any B g s p 45 x hs hp hB hx
  have HQ : Hid (numA s p = (n, q, ok)) := hq
  clear h hq
  go_enter Tryd.func58, Tryd.ntmps58
  cases e1 : isAt s p 48
  · rw [e1] at H1
    cases e2 : isAt s p 45
    · rw [e2] at H2
      have HN : Hid ((-(nz (-9223372036854775807) true 0 (s.data.toList.drop p)).1, p + (nz (-9223372036854775807) true 0 (s.data.toList.drop p)).2.1, (nz (-9223372036854775807) true 0 (s.data.toList.drop p)).2.2) = (n, q, ok)) := by
        unfold Hid
        rw [← HQ.out]; unfold numA; rw [e1, e2]; rfl
      clear e1 e2 HQ
      go_wp2_with (first
        | (go_at_call 59; (with_reducible refine (H1.out _ H.out).mono ?_); rintro e w2 ⟨rfl, hr, hb, hg⟩; have R2 : Hid (Rdr w2 g s (p : Nat)) := hr; have G2 : Hid (Below B v w2 ∧ Btg g v w2) := ⟨hb, hg⟩; clear hr hb hg)
        | (go_at_call 59; (with_reducible refine (H2.out _ R2.out).mono ?_); rintro e w3 ⟨rfl, hr, hb, hg⟩; have R3 : Hid (Rdr w3 g s (p : Nat)) := hr; have G3 : Hid (Below B v w3 ∧ Btg g v w3) := ⟨G2.out.1.trans hb, G2.out.2.trans hg⟩; have c1 := R3.out.c1; clear hr hb hg))
      clear H1 H2 H R2 G2 c1
      obtain ⟨f, hf⟩ : ∃ f : Nat, p = f := ⟨_, rfl⟩
      rw [hf] at HN R3
      have hfs : f ≤ s.size := by omega
      have hfi : ((p : Nat) : Int) = (f : Int) := by omega
      rw [hfi]
      obtain ⟨a, b, c, hab⟩ : ∃ a b c, nz (-9223372036854775807) true 0 (s.data.toList.drop f) = (a, b, c) := ⟨_, _, _, rfl⟩
      have HE : Hid (n = -a ∧ q = f + b ∧ ok = c) := by
        have := HN.out
        rw [hab] at this
        simp only [Prod.mk.injEq] at this
        exact ⟨this.1.symm, this.2.1.symm, this.2.2.symm⟩
      have HA : Hid (nz (-9223372036854775807) true 0 (s.data.toList.drop f) = (a, b, c)) := hab
      clear HN hf hfi hab
      go_loopg [6] (s.size - f) (fun gk sn wr => ∃ (k : Nat) (m : Int), gk = s.size - k ∧ f ≤ k ∧ k ≤ s.size ∧ sn = .int .i64 m ∧ -9223372036854775807 ≤ m ∧ m ≤ 0 ∧ ((nz (-9223372036854775807) (decide (k = f)) m (s.data.toList.drop k)).1, k + (nz (-9223372036854775807) (decide (k = f)) m (s.data.toList.drop k)).2.1, (nz (-9223372036854775807) (decide (k = f)) m (s.data.toList.drop k)).2.2) = (a, f + b, c) ∧ Rdr wr g s (k : Nat) ∧ Below B v wr ∧ Btg g v wr)
      case atStart => exact ⟨f, 0, rfl, Nat.le_refl _, hfs, rfl, by omega, by omega, by rw [decide_eq_true rfl, HA.out], R3.out, G3.out⟩
      case round =>
        obtain ⟨k, m, rfl, hfk, hks, rfl, hm0, hm1, hnz, hrd, hbel⟩ := hrel
        clear HA R3 G3
        have HA : Hid (((nz (-9223372036854775807) (decide (k = f)) m (s.data.toList.drop k)).1, k + (nz (-9223372036854775807) (decide (k = f)) m (s.data.toList.drop k)).2.1, (nz (-9223372036854775807) (decide (k = f)) m (s.data.toList.drop k)).2.2) = (a, f + b, c)) := hnz
        obtain ⟨w3, ew3⟩ : ∃ w3', wr = w3' := ⟨_, rfl⟩
        subst ew3
        have Rr : Hid (Rdr wr g s (k : Nat)) := hrd
        have Gr : Hid (Below B v wr ∧ Btg g v wr) := hbel
        clear hnz hrd hbel
        cases hx : s.data.toList[k]? with
        | none =>
          have hke : k = s.size := by have := List.getElem?_eq_none_iff.1 hx; omega
          have hk1 : ¬ (k : Int) < (s.size : Int) := by omega
          have HZ : Hid (n = 0 ∧ q = k ∧ ok = false) := by
            have h1 := HA.out
            rw [List.drop_eq_nil_of_le (List.getElem?_eq_none_iff.1 hx)] at h1
            simp only [nz, Prod.mk.injEq] at h1
            obtain ⟨h2, h3, h4⟩ := HE.out
            refine ⟨by rw [h2, ← h1.1]; rfl, by omega, by rw [h4, ← h1.2.2]⟩
          clear HA hx hke
          obtain ⟨X, F, hX, hF, onto⟩ := class_of (fun x => Below wr.heap.size wr x) (Below.refl _ wr)
          have HF : Hid (∀ y, Below wr.heap.size wr (F y)) := hF
          have HOn : Hid (∀ x, Below wr.heap.size wr x → ∃ y, x = F y) := fun x h => by obtain ⟨y, hy⟩ := onto x h; exact ⟨y, hy.symm⟩
          have hR : ∀ y, Rdr (F y) g s (k : Nat) := fun y => Rr.out.below (hF y) Rr.out.lt
          have c0 := fun y => (hR y).c0
          have c1 := fun y => (hR y).c1
          clear hF hR onto
          go_upto_region 8 with fail
          refine region_class F (by kernel_rfl) (by kernel_rfl) (by obtain ⟨x, hx⟩ := HOn.out _ (Below.refl _ _).drew; exact ⟨x, hx.symm⟩) ?_
          repeat (go_big_quiet_step (fail))
          refine wpQuiet_nil ?_
          rintro _ ⟨nq, rfl⟩
          have hfn := HF.out nq
          obtain ⟨w4, hV⟩ : ∃ w4, F nq = w4 := ⟨_, rfl⟩
          rw [hV] at hfn
          rw [hV]
          have R4 : Hid (Rdr w4 g s (k : Nat)) := Rr.out.below hfn Rr.out.lt
          have G4 : Hid (Below B v w4 ∧ Btg g v w4) := ⟨Gr.out.1.trans (hfn.mono (by have := Gr.out.1.size; have := Gr.out.2.1; omega)), Gr.out.2.below hfn⟩
          clear c0 c1 HF HOn hV hfn hX
          go_wp2
          go_ret2
          exact ⟨by rw [HZ.out.1, HZ.out.2.2]; rfl, by rw [HZ.out.2.1]; exact R4.out, G4.out⟩
        | some x =>
          have hkl : k < s.size := by have := (List.getElem?_eq_some_iff.1 hx).1; omega
          have hk0 : (0 : Int) ≤ (k : Int) := by omega
          have hk1 : (k : Int) < (s.size : Int) := by omega
          have hsx : s[k]'hkl = x := by
            have := (List.getElem?_eq_some_iff.1 hx).2
            rw [← this]; rfl
          have hx8 : x.toNat < 256 := x.toNat_lt
          have m1 : IntKind.i64.wrap ((x.toNat : Int)) = (x.toNat : Int) := IntWalk.i64_in _ ⟨by omega, by omega⟩
          have m2 : IntKind.i64.wrap ((x.toNat : Int) - 48) = (x.toNat : Int) - 48 := IntWalk.i64_in _ ⟨by omega, by omega⟩
          obtain ⟨X, F, hX, hF, onto⟩ := class_of (fun x => Below wr.heap.size wr x) (Below.refl _ wr)
          have HF : Hid (∀ y, Below wr.heap.size wr (F y)) := hF
          have HOn : Hid (∀ x, Below wr.heap.size wr x → ∃ y, x = F y) := fun x h => by obtain ⟨y, hy⟩ := onto x h; exact ⟨y, hy.symm⟩
          have hR : ∀ y, Rdr (F y) g s (k : Nat) := fun y => Rr.out.below (hF y) Rr.out.lt
          have c0 := fun y => (hR y).c0
          have c1 := fun y => (hR y).c1
          clear hF hR onto
          go_upto_region 8 with fail
          refine region_class F (by kernel_rfl) (by kernel_rfl) (by obtain ⟨x, hx⟩ := HOn.out _ (Below.refl _ _).drew; exact ⟨x, hx.symm⟩) ?_
          repeat (go_big_quiet_step (fail))
          refine wpQuiet_nil ?_
          rintro _ ⟨nq, rfl⟩
          have hfn := HF.out nq
          obtain ⟨w4, hV⟩ : ∃ w4, F nq = w4 := ⟨_, rfl⟩
          rw [hV] at hfn
          rw [hV]
          have R4 : Hid (Rdr w4 g s (k : Nat)) := Rr.out.below hfn Rr.out.lt
          have G4 : Hid (Below B v w4 ∧ Btg g v w4) := ⟨Gr.out.1.trans (hfn.mono (by have := Gr.out.1.size; have := Gr.out.2.1; omega)), Gr.out.2.below hfn⟩
          clear c0 c1 HF HOn hV hfn hX
          obtain ⟨X, F, hX, hF, onto⟩ := class_of (fun x => Below w4.heap.size w4 x) (Below.refl _ w4)
          have HF : Hid (∀ y, Below w4.heap.size w4 (F y)) := hF
          have HOn : Hid (∀ x, Below w4.heap.size w4 x → ∃ y, x = F y) := fun x h => by obtain ⟨y, hy⟩ := onto x h; exact ⟨y, hy.symm⟩
          have hR : ∀ y, Rdr (F y) g s (k : Nat) := fun y => R4.out.below (hF y) R4.out.lt
          have c0 := fun y => (hR y).c0
          have c1 := fun y => (hR y).c1
          clear hF hR onto
          go_upto_region 10 with fail
          refine region_class F (by kernel_rfl) (by kernel_rfl) (by obtain ⟨x, hx⟩ := HOn.out _ (Below.refl _ _).drew; exact ⟨x, hx.symm⟩) ?_
          repeat (go_big_quiet_step (fail))
          refine wpQuiet_nil ?_
          rintro _ ⟨nq, rfl⟩
          have hfn := HF.out nq
          obtain ⟨w5, hV⟩ : ∃ w5, F nq = w5 := ⟨_, rfl⟩
          rw [hV] at hfn
          rw [hV]
          have R5 : Hid (Rdr w5 g s (k : Nat)) := R4.out.below hfn R4.out.lt
          have G5 : Hid (Below B v w5 ∧ Btg g v w5) := ⟨G4.out.1.trans (hfn.mono (by have := G4.out.1.size; have := G4.out.2.1; omega)), G4.out.2.below hfn⟩
          clear c0 c1 HF HOn hV hfn hX
          by_cases hdg : (x.toNat : Int) - 48 < 0 ∨ 9 < (x.toNat : Int) - 48
          · have m3 : IntKind.i64.wrap (-1 * m) = -m := by rw [show (-1 : Int) * m = -m by omega]; exact IntWalk.i64_in _ ⟨by omega, by omega⟩
            have HZ : Hid (n = -m ∧ q = k ∧ ok = !decide (k = f)) := by
              have h1 := HA.out
              rw [drop_at hx, nz, if_pos hdg] at h1
              simp only [Prod.mk.injEq] at h1
              obtain ⟨h2, h3, h4⟩ := HE.out
              refine ⟨by rw [h2, ← h1.1], by omega, by rw [h4, ← h1.2.2]⟩
            clear HA hx
            by_cases hlo : (x.toNat : Int) - 48 < 0
            · by_cases hkf : k = f
              · have hgt : ¬ (f : Int) < (k : Int) := by omega
                have HZ2 : Hid (n = -m ∧ q = k ∧ ok = false) := by have := HZ.out; rw [decide_eq_true hkf] at this; exact this
                clear HZ hdg hkf
                obtain ⟨X, F, hX, hF, onto⟩ := class_of (fun x => Below w5.heap.size w5 x) (Below.refl _ w5)
                have HF : Hid (∀ y, Below w5.heap.size w5 (F y)) := hF
                have HOn : Hid (∀ x, Below w5.heap.size w5 x → ∃ y, x = F y) := fun x h => by obtain ⟨y, hy⟩ := onto x h; exact ⟨y, hy.symm⟩
                have hR : ∀ y, Rdr (F y) g s (k : Nat) := fun y => R5.out.below (hF y) R5.out.lt
                have c0 := fun y => (hR y).c0
                have c1 := fun y => (hR y).c1
                clear hF hR onto
                go_upto_region 12 with fail
                refine region_class F (by kernel_rfl) (by kernel_rfl) (by obtain ⟨x, hx⟩ := HOn.out _ (Below.refl _ _).drew; exact ⟨x, hx.symm⟩) ?_
                repeat (go_big_quiet_step (fail))
                refine wpQuiet_nil ?_
                rintro _ ⟨nq, rfl⟩
                have hfn := HF.out nq
                obtain ⟨w6, hV⟩ : ∃ w6, F nq = w6 := ⟨_, rfl⟩
                rw [hV] at hfn
                rw [hV]
                have R6 : Hid (Rdr w6 g s (k : Nat)) := R5.out.below hfn R5.out.lt
                have G6 : Hid (Below B v w6 ∧ Btg g v w6) := ⟨G5.out.1.trans (hfn.mono (by have := G5.out.1.size; have := G5.out.2.1; omega)), G5.out.2.below hfn⟩
                clear c0 c1 HF HOn hV hfn hX
                go_wp2
                go_ret2
                exact ⟨by rw [HZ2.out.1, HZ2.out.2.2]; rfl, by rw [HZ2.out.2.1]; exact R6.out, G6.out⟩
              · have hgt : (f : Int) < (k : Int) := by omega
                have HZ2 : Hid (n = -m ∧ q = k ∧ ok = true) := by have := HZ.out; rw [decide_eq_false hkf] at this; exact this
                clear HZ hdg hkf
                obtain ⟨X, F, hX, hF, onto⟩ := class_of (fun x => Below w5.heap.size w5 x) (Below.refl _ w5)
                have HF : Hid (∀ y, Below w5.heap.size w5 (F y)) := hF
                have HOn : Hid (∀ x, Below w5.heap.size w5 x → ∃ y, x = F y) := fun x h => by obtain ⟨y, hy⟩ := onto x h; exact ⟨y, hy.symm⟩
                have hR : ∀ y, Rdr (F y) g s (k : Nat) := fun y => R5.out.below (hF y) R5.out.lt
                have c0 := fun y => (hR y).c0
                have c1 := fun y => (hR y).c1
                clear hF hR onto
                go_upto_region 12 with fail
                refine region_class F (by kernel_rfl) (by kernel_rfl) (by obtain ⟨x, hx⟩ := HOn.out _ (Below.refl _ _).drew; exact ⟨x, hx.symm⟩) ?_
                repeat (go_big_quiet_step (fail))
                refine wpQuiet_nil ?_
                rintro _ ⟨nq, rfl⟩
                have hfn := HF.out nq
                obtain ⟨w6, hV⟩ : ∃ w6, F nq = w6 := ⟨_, rfl⟩
                rw [hV] at hfn
                rw [hV]
                have R6 : Hid (Rdr w6 g s (k : Nat)) := R5.out.below hfn R5.out.lt
                have G6 : Hid (Below B v w6 ∧ Btg g v w6) := ⟨G5.out.1.trans (hfn.mono (by have := G5.out.1.size; have := G5.out.2.1; omega)), G5.out.2.below hfn⟩
                clear c0 c1 HF HOn hV hfn hX
                go_wp2
                go_ret2
                exact ⟨by rw [HZ2.out.1, HZ2.out.2.2]; rfl, by rw [HZ2.out.2.1]; exact R6.out, G6.out⟩
            · have hhi : 9 < (x.toNat : Int) - 48 := by omega
              by_cases hkf : k = f
              · have hgt : ¬ (f : Int) < (k : Int) := by omega
                have HZ2 : Hid (n = -m ∧ q = k ∧ ok = false) := by have := HZ.out; rw [decide_eq_true hkf] at this; exact this
                clear HZ hdg hkf
                obtain ⟨X, F, hX, hF, onto⟩ := class_of (fun x => Below w5.heap.size w5 x) (Below.refl _ w5)
                have HF : Hid (∀ y, Below w5.heap.size w5 (F y)) := hF
                have HOn : Hid (∀ x, Below w5.heap.size w5 x → ∃ y, x = F y) := fun x h => by obtain ⟨y, hy⟩ := onto x h; exact ⟨y, hy.symm⟩
                have hR : ∀ y, Rdr (F y) g s (k : Nat) := fun y => R5.out.below (hF y) R5.out.lt
                have c0 := fun y => (hR y).c0
                have c1 := fun y => (hR y).c1
                clear hF hR onto
                go_upto_region 12 with fail
                refine region_class F (by kernel_rfl) (by kernel_rfl) (by obtain ⟨x, hx⟩ := HOn.out _ (Below.refl _ _).drew; exact ⟨x, hx.symm⟩) ?_
                repeat (go_big_quiet_step (fail))
                refine wpQuiet_nil ?_
                rintro _ ⟨nq, rfl⟩
                have hfn := HF.out nq
                obtain ⟨w6, hV⟩ : ∃ w6, F nq = w6 := ⟨_, rfl⟩
                rw [hV] at hfn
                rw [hV]
                have R6 : Hid (Rdr w6 g s (k : Nat)) := R5.out.below hfn R5.out.lt
                have G6 : Hid (Below B v w6 ∧ Btg g v w6) := ⟨G5.out.1.trans (hfn.mono (by have := G5.out.1.size; have := G5.out.2.1; omega)), G5.out.2.below hfn⟩
                clear c0 c1 HF HOn hV hfn hX
                go_wp2
                go_ret2
                exact ⟨by rw [HZ2.out.1, HZ2.out.2.2]; rfl, by rw [HZ2.out.2.1]; exact R6.out, G6.out⟩
              · have hgt : (f : Int) < (k : Int) := by omega
                have HZ2 : Hid (n = -m ∧ q = k ∧ ok = true) := by have := HZ.out; rw [decide_eq_false hkf] at this; exact this
                clear HZ hdg hkf
                obtain ⟨X, F, hX, hF, onto⟩ := class_of (fun x => Below w5.heap.size w5 x) (Below.refl _ w5)
                have HF : Hid (∀ y, Below w5.heap.size w5 (F y)) := hF
                have HOn : Hid (∀ x, Below w5.heap.size w5 x → ∃ y, x = F y) := fun x h => by obtain ⟨y, hy⟩ := onto x h; exact ⟨y, hy.symm⟩
                have hR : ∀ y, Rdr (F y) g s (k : Nat) := fun y => R5.out.below (hF y) R5.out.lt
                have c0 := fun y => (hR y).c0
                have c1 := fun y => (hR y).c1
                clear hF hR onto
                go_upto_region 12 with fail
                refine region_class F (by kernel_rfl) (by kernel_rfl) (by obtain ⟨x, hx⟩ := HOn.out _ (Below.refl _ _).drew; exact ⟨x, hx.symm⟩) ?_
                repeat (go_big_quiet_step (fail))
                refine wpQuiet_nil ?_
                rintro _ ⟨nq, rfl⟩
                have hfn := HF.out nq
                obtain ⟨w6, hV⟩ : ∃ w6, F nq = w6 := ⟨_, rfl⟩
                rw [hV] at hfn
                rw [hV]
                have R6 : Hid (Rdr w6 g s (k : Nat)) := R5.out.below hfn R5.out.lt
                have G6 : Hid (Below B v w6 ∧ Btg g v w6) := ⟨G5.out.1.trans (hfn.mono (by have := G5.out.1.size; have := G5.out.2.1; omega)), G5.out.2.below hfn⟩
                clear c0 c1 HF HOn hV hfn hX
                go_wp2
                go_ret2
                exact ⟨by rw [HZ2.out.1, HZ2.out.2.2]; rfl, by rw [HZ2.out.2.1]; exact R6.out, G6.out⟩
          · obtain ⟨hlo, hhi⟩ : ¬ (x.toNat : Int) - 48 < 0 ∧ ¬ 9 < (x.toNat : Int) - 48 := by omega
            obtain ⟨D, hD⟩ : ∃ D : Int, (-9223372036854775807 + ((x.toNat : Int) - 48)).tdiv 10 = D := ⟨_, rfl⟩
            have hD2 : -9223372036854775807 + ((x.toNat : Int) - 48) ≤ 10 * D ∧ D ≤ 0 ∧ 10 * D ≤ -9223372036854775807 + ((x.toNat : Int) - 48) + 9 := by
              rw [← hD, show -9223372036854775807 + ((x.toNat : Int) - 48) = -(-(-9223372036854775807 + ((x.toNat : Int) - 48))) by omega, Int.neg_tdiv, Int.tdiv_eq_ediv_of_nonneg (by omega)]
              omega
            have t1 : IntKind.i64.wrap (-9223372036854775807 + ((x.toNat : Int) - 48)) = -9223372036854775807 + ((x.toNat : Int) - 48) := IntWalk.i64_in _ ⟨by omega, by omega⟩
            have t2 : IntKind.i64.wrap D = D := IntWalk.i64_in _ ⟨by omega, by omega⟩
            by_cases hz : k = f ∧ (x.toNat : Int) - 48 = 0
            · have HZ : Hid (n = 0 ∧ q = k ∧ ok = false) := by
                have h1 := HA.out
                rw [drop_at hx, nz, if_neg hdg, if_pos (.inl ⟨decide_eq_true hz.1, hz.2⟩)] at h1
                simp only [Prod.mk.injEq] at h1
                obtain ⟨h2, h3, h4⟩ := HE.out
                refine ⟨by rw [h2, ← h1.1]; rfl, by omega, by rw [h4, ← h1.2.2]⟩
              have u1 : ((k : Int) == (f : Int)) = true := by rw [hz.1]; exact beq_self_eq_true _
              have u2 : (((x.toNat : Int) - 48) == 0) = true := by rw [hz.2]; rfl
              clear HA hx hdg hz t1 t2 hD hD2
              have c1 := R5.out.c1
              go_wp2
              go_ret2
              exact ⟨by rw [HZ.out.1, HZ.out.2.2]; rfl, by rw [HZ.out.2.1]; exact R5.out, G5.out⟩
            · by_cases hlt : m < D
              · have HZ : Hid (n = 0 ∧ q = k ∧ ok = false) := by
                  have h1 := HA.out
                  rw [drop_at hx, nz, if_neg hdg, if_pos (.inr (by rw [hD]; exact hlt))] at h1
                  simp only [Prod.mk.injEq] at h1
                  obtain ⟨h2, h3, h4⟩ := HE.out
                  refine ⟨by rw [h2, ← h1.1]; rfl, by omega, by rw [h4, ← h1.2.2]⟩
                have c1 := R5.out.c1
                by_cases hkf : k = f
                · have u1 : ((k : Int) == (f : Int)) = true := by rw [hkf]; exact beq_self_eq_true _
                  have u2 : (((x.toNat : Int) - 48) == 0) = false := by rw [beq_eq_false_iff_ne]; intro h; exact hz ⟨hkf, h⟩
                  clear HA hx hdg hz hkf hD2
                  go_wp2
                  go_ret2
                  exact ⟨by rw [HZ.out.1, HZ.out.2.2]; rfl, by rw [HZ.out.2.1]; exact R5.out, G5.out⟩
                · have u1 : ((k : Int) == (f : Int)) = false := by rw [beq_eq_false_iff_ne]; omega
                  clear HA hx hdg hz hkf hD2
                  go_wp2
                  go_ret2
                  exact ⟨by rw [HZ.out.1, HZ.out.2.2]; rfl, by rw [HZ.out.2.1]; exact R5.out, G5.out⟩
              · have HA2 : Hid (((nz (-9223372036854775807) (decide (k + 1 = f)) (m * 10 - ((x.toNat : Int) - 48)) (s.data.toList.drop (k + 1))).1, k + 1 + (nz (-9223372036854775807) (decide (k + 1 = f)) (m * 10 - ((x.toNat : Int) - 48)) (s.data.toList.drop (k + 1))).2.1, (nz (-9223372036854775807) (decide (k + 1 = f)) (m * 10 - ((x.toNat : Int) - 48)) (s.data.toList.drop (k + 1))).2.2) = (a, f + b, c)) := by
                  unfold Hid
                  rw [← HA.out, drop_at hx, nz, if_neg hdg, if_neg (by rw [hD]; intro h; rcases h with ⟨h1, h2⟩ | h; exact hz ⟨of_decide_eq_true h1, h2⟩; exact hlt h), decide_eq_false (by omega)]
                  simp only [Prod.mk.injEq, and_true, true_and]
                  omega
                have c1 := R5.out.c1
                have f1 := R5.out.free 1
                have m4 : IntKind.i64.wrap (m * 10) = m * 10 := IntWalk.i64_in _ ⟨by omega, by omega⟩
                have m5 : IntKind.i64.wrap (m * 10 - ((x.toNat : Int) - 48)) = m * 10 - ((x.toNat : Int) - 48) := IntWalk.i64_in _ ⟨by omega, by omega⟩
                have m6 : IntKind.i64.wrap ((k : Int) + 1) = (k : Int) + 1 := IntWalk.i64_in _ ⟨by omega, by omega⟩
                have HM : Hid (-9223372036854775807 ≤ m * 10 - ((x.toNat : Int) - 48) ∧ m * 10 - ((x.toNat : Int) - 48) ≤ 0) := ⟨by omega, by omega⟩
                obtain ⟨w6, e6⟩ : ∃ w6, w5.setCell ⟨g, 1, none⟩ (.int .i64 ((k : Int) + 1)) = w6 := ⟨_, rfl⟩
                have E6 : Hid (w5.setCell ⟨g, 1, none⟩ (.int .i64 ((k : Int) + 1)) = w6) := e6
                have R6 : Hid (Rdr w6 g s (k + 1 : Nat)) := by unfold Hid; rw [← e6]; exact R5.out.set1 _
                have G6 : Hid (Below B v w6 ∧ Btg g v w6) := by unfold Hid; rw [← e6]; exact ⟨G5.out.1.setCell (p := ⟨g, 1, none⟩) hB _, G5.out.2.set 1 _⟩
                clear e6
                by_cases hkf : k = f
                · have u1 : ((k : Int) == (f : Int)) = true := by rw [hkf]; exact beq_self_eq_true _
                  have u2 : (((x.toNat : Int) - 48) == 0) = false := by rw [beq_eq_false_iff_ne]; intro h; exact hz ⟨hkf, h⟩
                  clear HA hx hdg hz hkf hD2
                  go_wp2
                  rw [E6.out]
                  go_roundg (s.size - (k + 1))
                  case measure => omega
                  case rel => exact ⟨k + 1, m * 10 - ((x.toNat : Int) - 48), rfl, by omega, by omega, rfl, HM.out.1, HM.out.2, HA2.out, R6.out, G6.out⟩
                · have u1 : ((k : Int) == (f : Int)) = false := by rw [beq_eq_false_iff_ne]; omega
                  clear HA hx hdg hz hkf hD2
                  go_wp2
                  rw [E6.out]
                  go_roundg (s.size - (k + 1))
                  case measure => omega
                  case rel => exact ⟨k + 1, m * 10 - ((x.toNat : Int) - 48), rfl, by omega, by omega, rfl, HM.out.1, HM.out.2, HA2.out, R6.out, G6.out⟩
    · rw [e2] at H2
      have hps := isAt_lt e2
      have HN : Hid (((nz (-9223372036854775808) true 0 (s.data.toList.drop (p + 1))).1, p + 1 + (nz (-9223372036854775808) true 0 (s.data.toList.drop (p + 1))).2.1, (nz (-9223372036854775808) true 0 (s.data.toList.drop (p + 1))).2.2) = (n, q, ok)) := by
        unfold Hid
        rw [← HQ.out]; unfold numA; rw [e1, e2]; rfl
      clear e1 e2 HQ
      go_wp2_with (first
        | (go_at_call 59; (with_reducible refine (H1.out _ H.out).mono ?_); rintro e w2 ⟨rfl, hr, hb, hg⟩; have R2 : Hid (Rdr w2 g s (p : Nat)) := hr; have G2 : Hid (Below B v w2 ∧ Btg g v w2) := ⟨hb, hg⟩; clear hr hb hg)
        | (go_at_call 59; (with_reducible refine (H2.out _ R2.out).mono ?_); rintro e w3 ⟨rfl, hr, hb, hg⟩; have R3 : Hid (Rdr w3 g s (p + 1 : Nat)) := hr; have G3 : Hid (Below B v w3 ∧ Btg g v w3) := ⟨G2.out.1.trans hb, G2.out.2.trans hg⟩; have c1 := R3.out.c1; clear hr hb hg))
      clear H1 H2 H R2 G2 c1
      obtain ⟨f, hf⟩ : ∃ f : Nat, p + 1 = f := ⟨_, rfl⟩
      rw [hf] at HN R3
      have hfs : f ≤ s.size := by omega
      have hfi : ((p : Nat) : Int) + 1 = (f : Int) := by omega
      rw [hfi]
      obtain ⟨a, b, c, hab⟩ : ∃ a b c, nz (-9223372036854775808) true 0 (s.data.toList.drop f) = (a, b, c) := ⟨_, _, _, rfl⟩
      have HE : Hid (n = a ∧ q = f + b ∧ ok = c) := by
        have := HN.out
        rw [hab] at this
        simp only [Prod.mk.injEq] at this
        exact ⟨this.1.symm, this.2.1.symm, this.2.2.symm⟩
      have HA : Hid (nz (-9223372036854775808) true 0 (s.data.toList.drop f) = (a, b, c)) := hab
      clear HN hf hfi hab
      go_loopg [6] (s.size - f) (fun gk sn wr => ∃ (k : Nat) (m : Int), gk = s.size - k ∧ f ≤ k ∧ k ≤ s.size ∧ sn = .int .i64 m ∧ -9223372036854775808 ≤ m ∧ m ≤ 0 ∧ ((nz (-9223372036854775808) (decide (k = f)) m (s.data.toList.drop k)).1, k + (nz (-9223372036854775808) (decide (k = f)) m (s.data.toList.drop k)).2.1, (nz (-9223372036854775808) (decide (k = f)) m (s.data.toList.drop k)).2.2) = (a, f + b, c) ∧ Rdr wr g s (k : Nat) ∧ Below B v wr ∧ Btg g v wr)
      case atStart => exact ⟨f, 0, rfl, Nat.le_refl _, hfs, rfl, by omega, by omega, by rw [decide_eq_true rfl, HA.out], R3.out, G3.out⟩
      case round =>
        obtain ⟨k, m, rfl, hfk, hks, rfl, hm0, hm1, hnz, hrd, hbel⟩ := hrel
        clear HA R3 G3
        have HA : Hid (((nz (-9223372036854775808) (decide (k = f)) m (s.data.toList.drop k)).1, k + (nz (-9223372036854775808) (decide (k = f)) m (s.data.toList.drop k)).2.1, (nz (-9223372036854775808) (decide (k = f)) m (s.data.toList.drop k)).2.2) = (a, f + b, c)) := hnz
        obtain ⟨w3, ew3⟩ : ∃ w3', wr = w3' := ⟨_, rfl⟩
        subst ew3
        have Rr : Hid (Rdr wr g s (k : Nat)) := hrd
        have Gr : Hid (Below B v wr ∧ Btg g v wr) := hbel
        clear hnz hrd hbel
        cases hx : s.data.toList[k]? with
        | none =>
          have hke : k = s.size := by have := List.getElem?_eq_none_iff.1 hx; omega
          have hk1 : ¬ (k : Int) < (s.size : Int) := by omega
          have HZ : Hid (n = 0 ∧ q = k ∧ ok = false) := by
            have h1 := HA.out
            rw [List.drop_eq_nil_of_le (List.getElem?_eq_none_iff.1 hx)] at h1
            simp only [nz, Prod.mk.injEq] at h1
            obtain ⟨h2, h3, h4⟩ := HE.out
            refine ⟨by rw [h2, ← h1.1], by omega, by rw [h4, ← h1.2.2]⟩
          clear HA hx hke
          obtain ⟨X, F, hX, hF, onto⟩ := class_of (fun x => Below wr.heap.size wr x) (Below.refl _ wr)
          have HF : Hid (∀ y, Below wr.heap.size wr (F y)) := hF
          have HOn : Hid (∀ x, Below wr.heap.size wr x → ∃ y, x = F y) := fun x h => by obtain ⟨y, hy⟩ := onto x h; exact ⟨y, hy.symm⟩
          have hR : ∀ y, Rdr (F y) g s (k : Nat) := fun y => Rr.out.below (hF y) Rr.out.lt
          have c0 := fun y => (hR y).c0
          have c1 := fun y => (hR y).c1
          clear hF hR onto
          go_upto_region 8 with fail
          refine region_class F (by kernel_rfl) (by kernel_rfl) (by obtain ⟨x, hx⟩ := HOn.out _ (Below.refl _ _).drew; exact ⟨x, hx.symm⟩) ?_
          repeat (go_big_quiet_step (fail))
          refine wpQuiet_nil ?_
          rintro _ ⟨nq, rfl⟩
          have hfn := HF.out nq
          obtain ⟨w4, hV⟩ : ∃ w4, F nq = w4 := ⟨_, rfl⟩
          rw [hV] at hfn
          rw [hV]
          have R4 : Hid (Rdr w4 g s (k : Nat)) := Rr.out.below hfn Rr.out.lt
          have G4 : Hid (Below B v w4 ∧ Btg g v w4) := ⟨Gr.out.1.trans (hfn.mono (by have := Gr.out.1.size; have := Gr.out.2.1; omega)), Gr.out.2.below hfn⟩
          clear c0 c1 HF HOn hV hfn hX
          go_wp2
          go_ret2
          exact ⟨by rw [HZ.out.1, HZ.out.2.2]; rfl, by rw [HZ.out.2.1]; exact R4.out, G4.out⟩
        | some x =>
          have hkl : k < s.size := by have := (List.getElem?_eq_some_iff.1 hx).1; omega
          have hk0 : (0 : Int) ≤ (k : Int) := by omega
          have hk1 : (k : Int) < (s.size : Int) := by omega
          have hsx : s[k]'hkl = x := by
            have := (List.getElem?_eq_some_iff.1 hx).2
            rw [← this]; rfl
          have hx8 : x.toNat < 256 := x.toNat_lt
          have m1 : IntKind.i64.wrap ((x.toNat : Int)) = (x.toNat : Int) := IntWalk.i64_in _ ⟨by omega, by omega⟩
          have m2 : IntKind.i64.wrap ((x.toNat : Int) - 48) = (x.toNat : Int) - 48 := IntWalk.i64_in _ ⟨by omega, by omega⟩
          obtain ⟨X, F, hX, hF, onto⟩ := class_of (fun x => Below wr.heap.size wr x) (Below.refl _ wr)
          have HF : Hid (∀ y, Below wr.heap.size wr (F y)) := hF
          have HOn : Hid (∀ x, Below wr.heap.size wr x → ∃ y, x = F y) := fun x h => by obtain ⟨y, hy⟩ := onto x h; exact ⟨y, hy.symm⟩
          have hR : ∀ y, Rdr (F y) g s (k : Nat) := fun y => Rr.out.below (hF y) Rr.out.lt
          have c0 := fun y => (hR y).c0
          have c1 := fun y => (hR y).c1
          clear hF hR onto
          go_upto_region 8 with fail
          refine region_class F (by kernel_rfl) (by kernel_rfl) (by obtain ⟨x, hx⟩ := HOn.out _ (Below.refl _ _).drew; exact ⟨x, hx.symm⟩) ?_
          repeat (go_big_quiet_step (fail))
          refine wpQuiet_nil ?_
          rintro _ ⟨nq, rfl⟩
          have hfn := HF.out nq
          obtain ⟨w4, hV⟩ : ∃ w4, F nq = w4 := ⟨_, rfl⟩
          rw [hV] at hfn
          rw [hV]
          have R4 : Hid (Rdr w4 g s (k : Nat)) := Rr.out.below hfn Rr.out.lt
          have G4 : Hid (Below B v w4 ∧ Btg g v w4) := ⟨Gr.out.1.trans (hfn.mono (by have := Gr.out.1.size; have := Gr.out.2.1; omega)), Gr.out.2.below hfn⟩
          clear c0 c1 HF HOn hV hfn hX
          obtain ⟨X, F, hX, hF, onto⟩ := class_of (fun x => Below w4.heap.size w4 x) (Below.refl _ w4)
          have HF : Hid (∀ y, Below w4.heap.size w4 (F y)) := hF
          have HOn : Hid (∀ x, Below w4.heap.size w4 x → ∃ y, x = F y) := fun x h => by obtain ⟨y, hy⟩ := onto x h; exact ⟨y, hy.symm⟩
          have hR : ∀ y, Rdr (F y) g s (k : Nat) := fun y => R4.out.below (hF y) R4.out.lt
          have c0 := fun y => (hR y).c0
          have c1 := fun y => (hR y).c1
          clear hF hR onto
          go_upto_region 10 with fail
          refine region_class F (by kernel_rfl) (by kernel_rfl) (by obtain ⟨x, hx⟩ := HOn.out _ (Below.refl _ _).drew; exact ⟨x, hx.symm⟩) ?_
          repeat (go_big_quiet_step (fail))
          refine wpQuiet_nil ?_
          rintro _ ⟨nq, rfl⟩
          have hfn := HF.out nq
          obtain ⟨w5, hV⟩ : ∃ w5, F nq = w5 := ⟨_, rfl⟩
          rw [hV] at hfn
          rw [hV]
          have R5 : Hid (Rdr w5 g s (k : Nat)) := R4.out.below hfn R4.out.lt
          have G5 : Hid (Below B v w5 ∧ Btg g v w5) := ⟨G4.out.1.trans (hfn.mono (by have := G4.out.1.size; have := G4.out.2.1; omega)), G4.out.2.below hfn⟩
          clear c0 c1 HF HOn hV hfn hX
          by_cases hdg : (x.toNat : Int) - 48 < 0 ∨ 9 < (x.toNat : Int) - 48
          · have m3 : IntKind.i64.wrap (1 * m) = m := by rw [show (1 : Int) * m = m by omega]; exact IntWalk.i64_in _ ⟨by omega, by omega⟩
            have HZ : Hid (n = m ∧ q = k ∧ ok = !decide (k = f)) := by
              have h1 := HA.out
              rw [drop_at hx, nz, if_pos hdg] at h1
              simp only [Prod.mk.injEq] at h1
              obtain ⟨h2, h3, h4⟩ := HE.out
              refine ⟨by rw [h2, ← h1.1], by omega, by rw [h4, ← h1.2.2]⟩
            clear HA hx
            by_cases hlo : (x.toNat : Int) - 48 < 0
            · by_cases hkf : k = f
              · have hgt : ¬ (f : Int) < (k : Int) := by omega
                have HZ2 : Hid (n = m ∧ q = k ∧ ok = false) := by have := HZ.out; rw [decide_eq_true hkf] at this; exact this
                clear HZ hdg hkf
                obtain ⟨X, F, hX, hF, onto⟩ := class_of (fun x => Below w5.heap.size w5 x) (Below.refl _ w5)
                have HF : Hid (∀ y, Below w5.heap.size w5 (F y)) := hF
                have HOn : Hid (∀ x, Below w5.heap.size w5 x → ∃ y, x = F y) := fun x h => by obtain ⟨y, hy⟩ := onto x h; exact ⟨y, hy.symm⟩
                have hR : ∀ y, Rdr (F y) g s (k : Nat) := fun y => R5.out.below (hF y) R5.out.lt
                have c0 := fun y => (hR y).c0
                have c1 := fun y => (hR y).c1
                clear hF hR onto
                go_upto_region 12 with fail
                refine region_class F (by kernel_rfl) (by kernel_rfl) (by obtain ⟨x, hx⟩ := HOn.out _ (Below.refl _ _).drew; exact ⟨x, hx.symm⟩) ?_
                repeat (go_big_quiet_step (fail))
                refine wpQuiet_nil ?_
                rintro _ ⟨nq, rfl⟩
                have hfn := HF.out nq
                obtain ⟨w6, hV⟩ : ∃ w6, F nq = w6 := ⟨_, rfl⟩
                rw [hV] at hfn
                rw [hV]
                have R6 : Hid (Rdr w6 g s (k : Nat)) := R5.out.below hfn R5.out.lt
                have G6 : Hid (Below B v w6 ∧ Btg g v w6) := ⟨G5.out.1.trans (hfn.mono (by have := G5.out.1.size; have := G5.out.2.1; omega)), G5.out.2.below hfn⟩
                clear c0 c1 HF HOn hV hfn hX
                go_wp2
                go_ret2
                exact ⟨by rw [HZ2.out.1, HZ2.out.2.2]; rfl, by rw [HZ2.out.2.1]; exact R6.out, G6.out⟩
              · have hgt : (f : Int) < (k : Int) := by omega
                have HZ2 : Hid (n = m ∧ q = k ∧ ok = true) := by have := HZ.out; rw [decide_eq_false hkf] at this; exact this
                clear HZ hdg hkf
                obtain ⟨X, F, hX, hF, onto⟩ := class_of (fun x => Below w5.heap.size w5 x) (Below.refl _ w5)
                have HF : Hid (∀ y, Below w5.heap.size w5 (F y)) := hF
                have HOn : Hid (∀ x, Below w5.heap.size w5 x → ∃ y, x = F y) := fun x h => by obtain ⟨y, hy⟩ := onto x h; exact ⟨y, hy.symm⟩
                have hR : ∀ y, Rdr (F y) g s (k : Nat) := fun y => R5.out.below (hF y) R5.out.lt
                have c0 := fun y => (hR y).c0
                have c1 := fun y => (hR y).c1
                clear hF hR onto
                go_upto_region 12 with fail
                refine region_class F (by kernel_rfl) (by kernel_rfl) (by obtain ⟨x, hx⟩ := HOn.out _ (Below.refl _ _).drew; exact ⟨x, hx.symm⟩) ?_
                repeat (go_big_quiet_step (fail))
                refine wpQuiet_nil ?_
                rintro _ ⟨nq, rfl⟩
                have hfn := HF.out nq
                obtain ⟨w6, hV⟩ : ∃ w6, F nq = w6 := ⟨_, rfl⟩
                rw [hV] at hfn
                rw [hV]
                have R6 : Hid (Rdr w6 g s (k : Nat)) := R5.out.below hfn R5.out.lt
                have G6 : Hid (Below B v w6 ∧ Btg g v w6) := ⟨G5.out.1.trans (hfn.mono (by have := G5.out.1.size; have := G5.out.2.1; omega)), G5.out.2.below hfn⟩
                clear c0 c1 HF HOn hV hfn hX
                go_wp2
                go_ret2
                exact ⟨by rw [HZ2.out.1, HZ2.out.2.2]; rfl, by rw [HZ2.out.2.1]; exact R6.out, G6.out⟩
            · have hhi : 9 < (x.toNat : Int) - 48 := by omega
              by_cases hkf : k = f
              · have hgt : ¬ (f : Int) < (k : Int) := by omega
                have HZ2 : Hid (n = m ∧ q = k ∧ ok = false) := by have := HZ.out; rw [decide_eq_true hkf] at this; exact this
                clear HZ hdg hkf
                obtain ⟨X, F, hX, hF, onto⟩ := class_of (fun x => Below w5.heap.size w5 x) (Below.refl _ w5)
                have HF : Hid (∀ y, Below w5.heap.size w5 (F y)) := hF
                have HOn : Hid (∀ x, Below w5.heap.size w5 x → ∃ y, x = F y) := fun x h => by obtain ⟨y, hy⟩ := onto x h; exact ⟨y, hy.symm⟩
                have hR : ∀ y, Rdr (F y) g s (k : Nat) := fun y => R5.out.below (hF y) R5.out.lt
                have c0 := fun y => (hR y).c0
                have c1 := fun y => (hR y).c1
                clear hF hR onto
                go_upto_region 12 with fail
                refine region_class F (by kernel_rfl) (by kernel_rfl) (by obtain ⟨x, hx⟩ := HOn.out _ (Below.refl _ _).drew; exact ⟨x, hx.symm⟩) ?_
                repeat (go_big_quiet_step (fail))
                refine wpQuiet_nil ?_
                rintro _ ⟨nq, rfl⟩
                have hfn := HF.out nq
                obtain ⟨w6, hV⟩ : ∃ w6, F nq = w6 := ⟨_, rfl⟩
                rw [hV] at hfn
                rw [hV]
                have R6 : Hid (Rdr w6 g s (k : Nat)) := R5.out.below hfn R5.out.lt
                have G6 : Hid (Below B v w6 ∧ Btg g v w6) := ⟨G5.out.1.trans (hfn.mono (by have := G5.out.1.size; have := G5.out.2.1; omega)), G5.out.2.below hfn⟩
                clear c0 c1 HF HOn hV hfn hX
                go_wp2
                go_ret2
                exact ⟨by rw [HZ2.out.1, HZ2.out.2.2]; rfl, by rw [HZ2.out.2.1]; exact R6.out, G6.out⟩
              · have hgt : (f : Int) < (k : Int) := by omega
                have HZ2 : Hid (n = m ∧ q = k ∧ ok = true) := by have := HZ.out; rw [decide_eq_false hkf] at this; exact this
                clear HZ hdg hkf
                obtain ⟨X, F, hX, hF, onto⟩ := class_of (fun x => Below w5.heap.size w5 x) (Below.refl _ w5)
                have HF : Hid (∀ y, Below w5.heap.size w5 (F y)) := hF
                have HOn : Hid (∀ x, Below w5.heap.size w5 x → ∃ y, x = F y) := fun x h => by obtain ⟨y, hy⟩ := onto x h; exact ⟨y, hy.symm⟩
                have hR : ∀ y, Rdr (F y) g s (k : Nat) := fun y => R5.out.below (hF y) R5.out.lt
                have c0 := fun y => (hR y).c0
                have c1 := fun y => (hR y).c1
                clear hF hR onto
                go_upto_region 12 with fail
                refine region_class F (by kernel_rfl) (by kernel_rfl) (by obtain ⟨x, hx⟩ := HOn.out _ (Below.refl _ _).drew; exact ⟨x, hx.symm⟩) ?_
                repeat (go_big_quiet_step (fail))
                refine wpQuiet_nil ?_
                rintro _ ⟨nq, rfl⟩
                have hfn := HF.out nq
                obtain ⟨w6, hV⟩ : ∃ w6, F nq = w6 := ⟨_, rfl⟩
                rw [hV] at hfn
                rw [hV]
                have R6 : Hid (Rdr w6 g s (k : Nat)) := R5.out.below hfn R5.out.lt
                have G6 : Hid (Below B v w6 ∧ Btg g v w6) := ⟨G5.out.1.trans (hfn.mono (by have := G5.out.1.size; have := G5.out.2.1; omega)), G5.out.2.below hfn⟩
                clear c0 c1 HF HOn hV hfn hX
                go_wp2
                go_ret2
                exact ⟨by rw [HZ2.out.1, HZ2.out.2.2]; rfl, by rw [HZ2.out.2.1]; exact R6.out, G6.out⟩
          · obtain ⟨hlo, hhi⟩ : ¬ (x.toNat : Int) - 48 < 0 ∧ ¬ 9 < (x.toNat : Int) - 48 := by omega
            obtain ⟨D, hD⟩ : ∃ D : Int, (-9223372036854775808 + ((x.toNat : Int) - 48)).tdiv 10 = D := ⟨_, rfl⟩
            have hD2 : -9223372036854775808 + ((x.toNat : Int) - 48) ≤ 10 * D ∧ D ≤ 0 ∧ 10 * D ≤ -9223372036854775808 + ((x.toNat : Int) - 48) + 9 := by
              rw [← hD, show -9223372036854775808 + ((x.toNat : Int) - 48) = -(-(-9223372036854775808 + ((x.toNat : Int) - 48))) by omega, Int.neg_tdiv, Int.tdiv_eq_ediv_of_nonneg (by omega)]
              omega
            have t1 : IntKind.i64.wrap (-9223372036854775808 + ((x.toNat : Int) - 48)) = -9223372036854775808 + ((x.toNat : Int) - 48) := IntWalk.i64_in _ ⟨by omega, by omega⟩
            have t2 : IntKind.i64.wrap D = D := IntWalk.i64_in _ ⟨by omega, by omega⟩
            by_cases hz : k = f ∧ (x.toNat : Int) - 48 = 0
            · have HZ : Hid (n = 0 ∧ q = k ∧ ok = false) := by
                have h1 := HA.out
                rw [drop_at hx, nz, if_neg hdg, if_pos (.inl ⟨decide_eq_true hz.1, hz.2⟩)] at h1
                simp only [Prod.mk.injEq] at h1
                obtain ⟨h2, h3, h4⟩ := HE.out
                refine ⟨by rw [h2, ← h1.1], by omega, by rw [h4, ← h1.2.2]⟩
              have u1 : ((k : Int) == (f : Int)) = true := by rw [hz.1]; exact beq_self_eq_true _
              have u2 : (((x.toNat : Int) - 48) == 0) = true := by rw [hz.2]; rfl
              clear HA hx hdg hz t1 t2 hD hD2
              have c1 := R5.out.c1
              go_wp2
              go_ret2
              exact ⟨by rw [HZ.out.1, HZ.out.2.2]; rfl, by rw [HZ.out.2.1]; exact R5.out, G5.out⟩
            · by_cases hlt : m < D
              · have HZ : Hid (n = 0 ∧ q = k ∧ ok = false) := by
                  have h1 := HA.out
                  rw [drop_at hx, nz, if_neg hdg, if_pos (.inr (by rw [hD]; exact hlt))] at h1
                  simp only [Prod.mk.injEq] at h1
                  obtain ⟨h2, h3, h4⟩ := HE.out
                  refine ⟨by rw [h2, ← h1.1], by omega, by rw [h4, ← h1.2.2]⟩
                have c1 := R5.out.c1
                by_cases hkf : k = f
                · have u1 : ((k : Int) == (f : Int)) = true := by rw [hkf]; exact beq_self_eq_true _
                  have u2 : (((x.toNat : Int) - 48) == 0) = false := by rw [beq_eq_false_iff_ne]; intro h; exact hz ⟨hkf, h⟩
                  clear HA hx hdg hz hkf hD2
                  go_wp2
                  go_ret2
                  exact ⟨by rw [HZ.out.1, HZ.out.2.2]; rfl, by rw [HZ.out.2.1]; exact R5.out, G5.out⟩
                · have u1 : ((k : Int) == (f : Int)) = false := by rw [beq_eq_false_iff_ne]; omega
                  clear HA hx hdg hz hkf hD2
                  go_wp2
                  go_ret2
                  exact ⟨by rw [HZ.out.1, HZ.out.2.2]; rfl, by rw [HZ.out.2.1]; exact R5.out, G5.out⟩
              · have HA2 : Hid (((nz (-9223372036854775808) (decide (k + 1 = f)) (m * 10 - ((x.toNat : Int) - 48)) (s.data.toList.drop (k + 1))).1, k + 1 + (nz (-9223372036854775808) (decide (k + 1 = f)) (m * 10 - ((x.toNat : Int) - 48)) (s.data.toList.drop (k + 1))).2.1, (nz (-9223372036854775808) (decide (k + 1 = f)) (m * 10 - ((x.toNat : Int) - 48)) (s.data.toList.drop (k + 1))).2.2) = (a, f + b, c)) := by
                  unfold Hid
                  rw [← HA.out, drop_at hx, nz, if_neg hdg, if_neg (by rw [hD]; intro h; rcases h with ⟨h1, h2⟩ | h; exact hz ⟨of_decide_eq_true h1, h2⟩; exact hlt h), decide_eq_false (by omega)]
                  simp only [Prod.mk.injEq, and_true, true_and]
                  omega
                have c1 := R5.out.c1
                have f1 := R5.out.free 1
                have m4 : IntKind.i64.wrap (m * 10) = m * 10 := IntWalk.i64_in _ ⟨by omega, by omega⟩
                have m5 : IntKind.i64.wrap (m * 10 - ((x.toNat : Int) - 48)) = m * 10 - ((x.toNat : Int) - 48) := IntWalk.i64_in _ ⟨by omega, by omega⟩
                have m6 : IntKind.i64.wrap ((k : Int) + 1) = (k : Int) + 1 := IntWalk.i64_in _ ⟨by omega, by omega⟩
                have HM : Hid (-9223372036854775808 ≤ m * 10 - ((x.toNat : Int) - 48) ∧ m * 10 - ((x.toNat : Int) - 48) ≤ 0) := ⟨by omega, by omega⟩
                obtain ⟨w6, e6⟩ : ∃ w6, w5.setCell ⟨g, 1, none⟩ (.int .i64 ((k : Int) + 1)) = w6 := ⟨_, rfl⟩
                have E6 : Hid (w5.setCell ⟨g, 1, none⟩ (.int .i64 ((k : Int) + 1)) = w6) := e6
                have R6 : Hid (Rdr w6 g s (k + 1 : Nat)) := by unfold Hid; rw [← e6]; exact R5.out.set1 _
                have G6 : Hid (Below B v w6 ∧ Btg g v w6) := by unfold Hid; rw [← e6]; exact ⟨G5.out.1.setCell (p := ⟨g, 1, none⟩) hB _, G5.out.2.set 1 _⟩
                clear e6
                by_cases hkf : k = f
                · have u1 : ((k : Int) == (f : Int)) = true := by rw [hkf]; exact beq_self_eq_true _
                  have u2 : (((x.toNat : Int) - 48) == 0) = false := by rw [beq_eq_false_iff_ne]; intro h; exact hz ⟨hkf, h⟩
                  clear HA hx hdg hz hkf hD2
                  go_wp2
                  rw [E6.out]
                  go_roundg (s.size - (k + 1))
                  case measure => omega
                  case rel => exact ⟨k + 1, m * 10 - ((x.toNat : Int) - 48), rfl, by omega, by omega, rfl, HM.out.1, HM.out.2, HA2.out, R6.out, G6.out⟩
                · have u1 : ((k : Int) == (f : Int)) = false := by rw [beq_eq_false_iff_ne]; omega
                  clear HA hx hdg hz hkf hD2
                  go_wp2
                  rw [E6.out]
                  go_roundg (s.size - (k + 1))
                  case measure => omega
                  case rel => exact ⟨k + 1, m * 10 - ((x.toNat : Int) - 48), rfl, by omega, by omega, rfl, HM.out.1, HM.out.2, HA2.out, R6.out, G6.out⟩
  · have HE : Hid (n = 0 ∧ q = p + 1 ∧ ok = true) := by
      have := HQ.out
      unfold numA at this
      rw [e1] at this
      simp only [if_true, Prod.mk.injEq] at this
      exact ⟨this.1.symm, this.2.1.symm, this.2.2.symm⟩
    rw [e1] at H1
    clear e1 HQ
    go_wp2_with (go_at_call 59; (with_reducible refine (H1.out _ H.out).mono ?_); rintro e w2 ⟨rfl, hr, hb, hg⟩; have R2 : Hid (Rdr w2 g s (p + 1 : Nat)) := hr; have G2 : Hid (Below B v w2 ∧ Btg g v w2) := ⟨hb, hg⟩; clear hr hb hg)
    go_ret2
    exact ⟨by rw [HE.out.1, HE.out.2.2]; rfl, by rw [HE.out.2.1]; exact R2.out, G2.out⟩
end Go.Proofs.YteolfolkolpehaaDoor
