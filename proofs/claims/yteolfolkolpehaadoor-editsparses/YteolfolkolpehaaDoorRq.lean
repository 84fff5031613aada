import Derived.Test.YteolfolkolpehaaDoorRe
import Derived.Test.YteolfolkolpehaaDoorPq
namespace Go.Proofs.YteolfolkolpehaaDoor
open Go.ChangeShapes Go.WideShapes Go.ChangeAt Go.RowKit
set_option linter.unusedVariables false

/-- a text between quotation marks, behind the first: its bytes, how many bytes were passed, whether it is one -/
def qz : List UInt8 → List UInt8 × Nat × Bool
  | [] => ([], 0, false)
  | c :: r =>
    if c = 34 then ([], 1, true)
    else if c = 10 then ([], 0, false)
    else if c = 92 then
      match r with
      | [] => ([], 1, false)
      | x :: r' => if x = 34 ∨ x = 92 ∨ x = 110 then ((if x = 110 then 10 else x) :: (qz r').1, (qz r').2.1 + 2, (qz r').2.2) else ([], 1, false)
    else (c :: (qz r).1, (qz r).2.1 + 1, (qz r).2.2)

theorem drop_at {s : ByteArray} {q : Nat} {x : UInt8} (h : s.data.toList[q]? = some x) : s.data.toList.drop q = x :: s.data.toList.drop (q + 1) := by
  obtain ⟨h1, h2⟩ := List.getElem?_eq_some_iff.1 h
  rw [List.drop_eq_getElem_cons h1, h2]
theorem isAt_of {s : ByteArray} {q : Nat} {x : UInt8} (h : s.data.toList[q]? = some x) (c : UInt8) : isAt s q c = decide (x = c) := by
  unfold isAt
  rw [h]
  by_cases e : x = c
  · rw [e]; simp
  · rw [decide_eq_false e, beq_eq_false_iff_ne]; intro h; exact e (Option.some.inj h)
theorem isAt_end {s : ByteArray} {q : Nat} (h : s.data.toList[q]? = none) (c : UInt8) : isAt s q c = false := by
  unfold isAt
  rw [h]; rfl
theorem qz_end : qz [] = ([], 0, false) := by unfold qz; rfl
theorem qz_mark (r : List UInt8) : qz (34 :: r) = ([], 1, true) := by unfold qz; rfl
theorem qz_feed (r : List UInt8) : qz (10 :: r) = ([], 0, false) := by unfold qz; rfl
theorem qz_byte {c : UInt8} (r : List UInt8) (h1 : c ≠ 34) (h2 : c ≠ 10) (h3 : c ≠ 92) : qz (c :: r) = (c :: (qz r).1, (qz r).2.1 + 1, (qz r).2.2) := by
  conv => lhs; unfold qz
  rw [if_neg h1, if_neg h2, if_neg h3]
theorem qz_some {s : ByteArray} {q : Nat} {y : UInt8} (h : escC s q = some y) : qz (92 :: s.data.toList.drop q) = (y :: (qz (s.data.toList.drop (q + 1))).1, (qz (s.data.toList.drop (q + 1))).2.1 + 2, (qz (s.data.toList.drop (q + 1))).2.2) := by
  cases hz : s.data.toList[q]? with
  | none => unfold escC at h; rw [isAt_end hz, isAt_end hz, isAt_end hz] at h; cases h
  | some z =>
    unfold escC at h
    rw [isAt_of hz, isAt_of hz, isAt_of hz] at h
    rw [drop_at hz, qz, if_neg (by decide), if_neg (by decide), if_pos rfl]
    by_cases h1 : z = 34
    · subst h1; cases h; rfl
    · by_cases h2 : z = 92
      · subst h2; cases h; rfl
      · by_cases h3 : z = 110
        · subst h3; cases h; rfl
        · simp [h1, h2, h3] at h
theorem qz_none {s : ByteArray} {q : Nat} (h : escC s q = none) : qz (92 :: s.data.toList.drop q) = ([], 1, false) := by
  cases hz : s.data.toList[q]? with
  | none => rw [List.drop_eq_nil_of_le (List.getElem?_eq_none_iff.1 hz)]; unfold qz; rfl
  | some z =>
    unfold escC at h
    rw [isAt_of hz, isAt_of hz, isAt_of hz] at h
    rw [drop_at hz, qz, if_neg (by decide), if_neg (by decide), if_pos rfl]
    have h1 : ¬ z = 34 := fun e => by subst e; cases h
    have h2 : ¬ z = 92 := fun e => by subst e; cases h
    have h3 : ¬ z = 110 := fun e => by subst e; cases h
    show (if z = 34 ∨ z = 92 ∨ z = 110 then _ else _) = _
    rw [if_neg (by simp [h1, h2, h3])]

theorem btg_own {u w w' : World} {g : Nat} {v : Value} {o : Obj} (h : Btg g u w) (hl : ∀ b, v.ownBlock = some b → u.heap.size ≤ b ∧ b < w.heap.size) (hg : (w.alloc o).grownBy w' v.ownBlock) : Btg g u w' := by
  have h1 : w.heap.size ≤ (w.alloc o).heap.size := by simp
  have h2 := hg.size
  refine ⟨by have := h.1; omega, fun i hi hne => ?_⟩
  have hi' : i < w.heap.size := Nat.lt_of_lt_of_le hi h.1
  rw [hg.block i (by omega) (fun e => by have := (hl i e.symm).1; omega), Below.heap_alloc w o i hi']
  exact h.2 i hi hne

theorem ownsRow_btg {w w' : World} {base e size n g : Nat} {v : Value} {xs : List Value} (h : w.ownsRow base e size v n xs) (hb : Btg g w w') (hg : g < base) : w'.ownsRow base e size v n xs := by
  refine ⟨h.1, ?_⟩
  rcases h.2 with h' | ⟨q, cap, cur, h1, h2, h3, h4⟩
  · exact .inl h'
  · have hq : q < w.heap.size := lt_of_block h3
    exact .inr ⟨q, cap, cur, h1, h2, (hb.2 q hq (by omega)).trans h3, h4⟩

set_option maxRecDepth 1000000 in
set_option maxHeartbeats 2000000 in
theorem quotedR_any (B g : Nat) (s : ByteArray) (p : Nat) (v : World) (hs : s.size ≤ 140737488351232) (hp : p ≤ s.size) (hB : B ≤ g) (h : Rdr v g s p) (T : List UInt8) (N : Nat) (ok : Bool) (hq : qz (s.data.toList.drop (p + 1)) = (T, N, ok)) :
    Calls Tryd.prog 60 #[.pointer (some ⟨g, 0, none⟩)] v fun e w' => e = .returned (.tuple #[.string ⟨(if isAt s p 34 && ok then T else []).toArray⟩, .bool (isAt s p 34 && ok)]) ∧ Rdr w' g s (if isAt s p 34 then p + 1 + N else p : Nat) ∧ Below B v w' ∧ Btg g v w' := by
  obtain ⟨i0, hi, hz0, hz1, hz2⟩ := info_parts infoU8b
  have hl := bytes_len s
  have hgl := h.lt
  have H : Hid (Rdr v g s p) := h
  have H1 : Hid (∀ x, Rdr x g s p → Calls Tryd.prog 59 #[.pointer (some ⟨g, 0, none⟩), .int .u8 34] x fun e w' => e = .returned (.bool (isAt s p 34)) ∧ Rdr w' g s (if isAt s p 34 then p + 1 else p : Nat) ∧ Below B x w' ∧ Btg g x w') := fun x hx => take_any B g s p 34 x hs hp hB hx
  have HQ : Hid (qz (s.data.toList.drop (p + 1)) = (T, N, ok)) := hq
  obtain ⟨Y, hY⟩ : ∃ Y : ByteArray, ⟨(if isAt s p 34 && ok then T else []).toArray⟩ = Y := ⟨_, rfl⟩
  obtain ⟨Z, hZ⟩ : ∃ Z : Bool, (isAt s p 34 && ok) = Z := ⟨_, rfl⟩
  obtain ⟨M, hM⟩ : ∃ M : Nat, (if isAt s p 34 then p + 1 + N else p) = M := ⟨_, rfl⟩
  rw [hY, hZ, hM]
  have HY : Hid (⟨(if isAt s p 34 && ok then T else []).toArray⟩ = Y ∧ (isAt s p 34 && ok) = Z ∧ (if isAt s p 34 then p + 1 + N else p) = M) := ⟨hY, hZ, hM⟩
  clear h hq hY hZ hM
  go_enter Tryd.func60, Tryd.ntmps60
  cases e1 : isAt s p 34
  · rw [e1] at H1
    have HE : Hid (Y = ⟨#[]⟩ ∧ Z = false ∧ M = p) := by
      have := HY.out
      rw [e1] at this
      exact ⟨this.1.symm, this.2.1.symm, this.2.2.symm⟩
    clear e1 HY
    go_wp2_with (go_at_call 59; (with_reducible refine (H1.out _ H.out).mono ?_); rintro e w2 ⟨rfl, hr, hb, hg⟩; have HR2 : Hid (Rdr w2 g s p) := hr; have HB2 : Hid (Below B v w2 ∧ Btg g v w2) := ⟨hb, hg⟩; clear hr hb hg)
    go_ret2
    exact ⟨by rw [HE.out.1, HE.out.2.1]; rfl, by rw [HE.out.2.2]; exact HR2.out, HB2.out⟩
  · have hps := isAt_lt e1
    rw [e1] at H1
    have HZ : Hid (∀ l, T = l → ∀ q, p + 1 + N = q → ∀ k, ok = k → Y = ⟨(if k then l else []).toArray⟩ ∧ Z = k ∧ M = q) := by
      rintro l rfl q rfl k rfl
      have := HY.out
      rw [e1] at this
      exact ⟨this.1.symm, this.2.1.symm, this.2.2.symm⟩
    clear e1 HY
    go_wp2_with (go_at_call 59; (with_reducible refine (H1.out _ H.out).mono ?_); rintro e w2 ⟨rfl, hr, hb, hg⟩; have HR2 : Hid (Rdr w2 g s (p + 1 : Nat)) := hr; have HB2 : Hid (Below B v w2 ∧ Btg g v w2) := ⟨hb, hg⟩; clear hr hb hg)
    clear H1 H
    go_loopg [4] (s.size - (p + 1)) (fun gk so wr => ∃ (q : Nat) (l : List UInt8), gk = s.size - q ∧ q ≤ s.size ∧ l.length ≤ q ∧ (l ++ (qz (s.data.toList.drop q)).1, q + (qz (s.data.toList.drop q)).2.1, (qz (s.data.toList.drop q)).2.2) = (T, p + 1 + N, ok) ∧ wr.ownsRow v.heap.size 5 1 so l.length (bc l) ∧ Rdr wr g s (q : Nat) ∧ Below B v wr ∧ Btg g v wr)
    case atStart => exact ⟨p + 1, [], rfl, by omega, Nat.zero_le _, by rw [HQ.out]; rfl, World.ownsRow_nil _ _ _ _, HR2.out, HB2.out⟩
    case round =>
      obtain ⟨q, l, rfl, hqs, hlq, hqz, hown, hrd, hbel⟩ := hrel
      clear HQ HR2 HB2
      have HQ : Hid ((l ++ (qz (s.data.toList.drop q)).1, q + (qz (s.data.toList.drop q)).2.1, (qz (s.data.toList.drop q)).2.2) = (T, p + 1 + N, ok)) := hqz
      have HO : Hid (wr.ownsRow v.heap.size 5 1 u4 l.length (bc l)) := hown
      have HR : Hid (Rdr wr g s (q : Nat)) := hrd
      have HB : Hid (Below B v wr ∧ Btg g v wr) := hbel
      have HT : Hid (∀ x, Rdr x g s (q : Nat) → Calls Tryd.prog 59 #[.pointer (some ⟨g, 0, none⟩), .int .u8 34] x fun e w' => e = .returned (.bool (isAt s q 34)) ∧ Rdr w' g s (if isAt s q 34 then q + 1 else q : Nat) ∧ Below B x w' ∧ Btg g x w') := fun x hx => take_any B g s q 34 x hs hqs hB hx
      clear hqz hown hrd hbel
      cases hx : s.data.toList[q]? with
      | none =>
        have hqe : q = s.size := by have := List.getElem?_eq_none_iff.1 hx; omega
        have hqe' : ((q : Int) == (s.size : Int)) = true := by rw [hqe]; exact beq_self_eq_true _
        rw [isAt_end hx] at HT
        have HE : Hid (Y = ⟨#[]⟩ ∧ Z = false ∧ M = q) := by
          have := HQ.out
          rw [List.drop_eq_nil_of_le (List.getElem?_eq_none_iff.1 hx), qz_end] at this
          simp only [Prod.mk.injEq] at this
          exact HZ.out _ this.1.symm _ this.2.1.symm _ this.2.2.symm
        clear HQ hx hqe HZ
        go_wp2_with (go_at_call 59; (with_reducible refine (HT.out _ HR.out).mono ?_); rintro e w3 ⟨rfl, hr, hb, hg⟩; have R3 : Hid (Rdr w3 g s (q : Nat)) := hr; have O3 : Hid (w3.ownsRow v.heap.size 5 1 u4 l.length (bc l)) := ownsRow_btg HO.out hg hgl; have G3 : Hid (Below B v w3 ∧ Btg g v w3) := ⟨HB.out.1.trans hb, HB.out.2.trans hg⟩; have hcv := own_string_any O3.out; clear hr hb hg)
        clear hcv
        obtain ⟨X, F, hX, hF, onto⟩ := class_of (fun x => Below w3.heap.size w3 x) (Below.refl _ w3)
        have HF : Hid (∀ y, Below w3.heap.size w3 (F y)) := hF
        have HOn : Hid (∀ x, Below w3.heap.size w3 x → ∃ y, x = F y) := fun x h => by obtain ⟨y, hy⟩ := onto x h; exact ⟨y, hy.symm⟩
        have hR : ∀ y, Rdr (F y) g s (q : Nat) := fun y => R3.out.below (hF y) R3.out.lt
        have c0 := fun y => (hR y).c0
        have c1 := fun y => (hR y).c1
        clear hF hR onto
        go_upto_region 5 with fail
        refine region_class F (by kernel_rfl) (by kernel_rfl) (by obtain ⟨x, hx⟩ := HOn.out _ (Below.refl _ _).drew; exact ⟨x, hx.symm⟩) ?_
        repeat (go_big_quiet_step (fail))
        refine wpQuiet_nil ?_
        rintro _ ⟨nq, rfl⟩
        have hfn := HF.out nq
        obtain ⟨w4, hV⟩ : ∃ w4, F nq = w4 := ⟨_, rfl⟩
        rw [hV] at hfn
        rw [hV]
        have R4 : Hid (Rdr w4 g s (q : Nat)) := R3.out.below hfn R3.out.lt
        have O4 : Hid (w4.ownsRow v.heap.size 5 1 u4 l.length (bc l)) := ownsRow_below O3.out hfn (Nat.le_refl _)
        have G4 : Hid (Below B v w4 ∧ Btg g v w4) := ⟨G3.out.1.trans (hfn.mono (by have := G3.out.1.size; have := G3.out.2.1; omega)), G3.out.2.below hfn⟩
        clear c0 c1 HF HOn hV hfn hX
        go_wp2
        go_ret2
        exact ⟨by rw [HE.out.1, HE.out.2.1]; rfl, by rw [HE.out.2.2]; exact R4.out, G4.out⟩
      | some x =>
        have hql : q < s.size := by have := (List.getElem?_eq_some_iff.1 hx).1; omega
        have hq0 : (0 : Int) ≤ (q : Int) := by omega
        have hql' : (q : Int) < (s.size : Int) := by omega
        have hqe' : ((q : Int) == (s.size : Int)) = false := by rw [beq_eq_false_iff_ne]; omega
        have hsx : s[q]'hql = x := by
          have := (List.getElem?_eq_some_iff.1 hx).2
          rw [← this]; rfl
        rw [isAt_of hx] at HT
        by_cases x34 : x = 34
        · rw [decide_eq_true x34] at HT
          have HE : Hid (Y = ⟨l.toArray⟩ ∧ Z = true ∧ M = q + 1) := by
            have := HQ.out
            rw [drop_at hx, x34, qz_mark] at this
            simp only [Prod.mk.injEq, List.append_nil] at this
            exact HZ.out _ this.1.symm _ this.2.1.symm _ this.2.2.symm
          clear HQ hx x34 HZ
          go_wp2_with (go_at_call 59; (with_reducible refine (HT.out _ HR.out).mono ?_); rintro e w3 ⟨rfl, hr, hb, hg⟩; have R3 : Hid (Rdr w3 g s (q + 1 : Nat)) := hr; have O3 : Hid (w3.ownsRow v.heap.size 5 1 u4 l.length (bc l)) := ownsRow_btg HO.out hg hgl; have G3 : Hid (Below B v w3 ∧ Btg g v w3) := ⟨HB.out.1.trans hb, HB.out.2.trans hg⟩; have hcv := own_string_any O3.out; clear hr hb hg)
          go_ret2
          exact ⟨by rw [HE.out.1, HE.out.2.1]; rfl, by rw [HE.out.2.2]; exact R3.out, G3.out⟩
        · rw [decide_eq_false x34] at HT
          by_cases x10 : x = 10
          · have t1 : ((x.toNat : Int) == 10) = true := by rw [x10]; rfl
            have HE : Hid (Y = ⟨#[]⟩ ∧ Z = false ∧ M = q) := by
              have := HQ.out
              rw [drop_at hx, x10, qz_feed] at this
              simp only [Prod.mk.injEq] at this
              exact HZ.out _ this.1.symm _ this.2.1.symm _ this.2.2.symm
            clear HQ hx x34 x10 HZ
            go_wp2_with (go_at_call 59; (with_reducible refine (HT.out _ HR.out).mono ?_); rintro e w3 ⟨rfl, hr, hb, hg⟩; have R3 : Hid (Rdr w3 g s (q : Nat)) := hr; have O3 : Hid (w3.ownsRow v.heap.size 5 1 u4 l.length (bc l)) := ownsRow_btg HO.out hg hgl; have G3 : Hid (Below B v w3 ∧ Btg g v w3) := ⟨HB.out.1.trans hb, HB.out.2.trans hg⟩; have hcv := own_string_any O3.out; clear hr hb hg)
            clear hcv
            obtain ⟨X, F, hX, hF, onto⟩ := class_of (fun x => Below w3.heap.size w3 x) (Below.refl _ w3)
            have HF : Hid (∀ y, Below w3.heap.size w3 (F y)) := hF
            have HOn : Hid (∀ x, Below w3.heap.size w3 x → ∃ y, x = F y) := fun x h => by obtain ⟨y, hy⟩ := onto x h; exact ⟨y, hy.symm⟩
            have hR : ∀ y, Rdr (F y) g s (q : Nat) := fun y => R3.out.below (hF y) R3.out.lt
            have c0 := fun y => (hR y).c0
            have c1 := fun y => (hR y).c1
            clear hF hR onto
            go_upto_region 5 with fail
            refine region_class F (by kernel_rfl) (by kernel_rfl) (by obtain ⟨x, hx⟩ := HOn.out _ (Below.refl _ _).drew; exact ⟨x, hx.symm⟩) ?_
            repeat (go_big_quiet_step (fail))
            refine wpQuiet_nil ?_
            rintro _ ⟨nq, rfl⟩
            have hfn := HF.out nq
            obtain ⟨w4, hV⟩ : ∃ w4, F nq = w4 := ⟨_, rfl⟩
            rw [hV] at hfn
            rw [hV]
            have R4 : Hid (Rdr w4 g s (q : Nat)) := R3.out.below hfn R3.out.lt
            have O4 : Hid (w4.ownsRow v.heap.size 5 1 u4 l.length (bc l)) := ownsRow_below O3.out hfn (Nat.le_refl _)
            have G4 : Hid (Below B v w4 ∧ Btg g v w4) := ⟨G3.out.1.trans (hfn.mono (by have := G3.out.1.size; have := G3.out.2.1; omega)), G3.out.2.below hfn⟩
            clear c0 c1 HF HOn hV hfn hX
            go_wp2
            go_ret2
            exact ⟨by rw [HE.out.1, HE.out.2.1]; rfl, by rw [HE.out.2.2]; exact R4.out, G4.out⟩
          · have t1 : ((x.toNat : Int) == 10) = false := by
              rw [beq_eq_false_iff_ne]; intro h; apply x10; apply UInt8.toNat_inj.1; show x.toNat = 10; omega
            go_wp2_with (go_at_call 59; (with_reducible refine (HT.out _ HR.out).mono ?_); rintro e w3 ⟨rfl, hr, hb, hg⟩; have R3 : Hid (Rdr w3 g s (q : Nat)) := hr; have O3 : Hid (w3.ownsRow v.heap.size 5 1 u4 l.length (bc l)) := ownsRow_btg HO.out hg hgl; have G3 : Hid (Below B v w3 ∧ Btg g v w3) := ⟨HB.out.1.trans hb, HB.out.2.trans hg⟩; have hcv := own_string_any O3.out; clear hr hb hg)
            clear hcv
            obtain ⟨X, F, hX, hF, onto⟩ := class_of (fun x => Below w3.heap.size w3 x) (Below.refl _ w3)
            have HF : Hid (∀ y, Below w3.heap.size w3 (F y)) := hF
            have HOn : Hid (∀ x, Below w3.heap.size w3 x → ∃ y, x = F y) := fun x h => by obtain ⟨y, hy⟩ := onto x h; exact ⟨y, hy.symm⟩
            have hR : ∀ y, Rdr (F y) g s (q : Nat) := fun y => R3.out.below (hF y) R3.out.lt
            have c0 := fun y => (hR y).c0
            have c1 := fun y => (hR y).c1
            clear hF hR onto
            go_upto_region 5 with fail
            refine region_class F (by kernel_rfl) (by kernel_rfl) (by obtain ⟨x, hx⟩ := HOn.out _ (Below.refl _ _).drew; exact ⟨x, hx.symm⟩) ?_
            repeat (go_big_quiet_step (fail))
            refine wpQuiet_nil ?_
            rintro _ ⟨nq, rfl⟩
            have hfn := HF.out nq
            obtain ⟨w4, hV⟩ : ∃ w4, F nq = w4 := ⟨_, rfl⟩
            rw [hV] at hfn
            rw [hV]
            have R4 : Hid (Rdr w4 g s (q : Nat)) := R3.out.below hfn R3.out.lt
            have O4 : Hid (w4.ownsRow v.heap.size 5 1 u4 l.length (bc l)) := ownsRow_below O3.out hfn (Nat.le_refl _)
            have G4 : Hid (Below B v w4 ∧ Btg g v w4) := ⟨G3.out.1.trans (hfn.mono (by have := G3.out.1.size; have := G3.out.2.1; omega)), G3.out.2.below hfn⟩
            clear c0 c1 HF HOn hV hfn hX
            go_upto_region 7 with fail
            obtain ⟨X, F, hX, hF, onto⟩ := class_of (fun x => Below w4.heap.size w4 x) (Below.refl _ w4)
            have HF : Hid (∀ y, Below w4.heap.size w4 (F y)) := hF
            have HOn : Hid (∀ x, Below w4.heap.size w4 x → ∃ y, x = F y) := fun x h => by obtain ⟨y, hy⟩ := onto x h; exact ⟨y, hy.symm⟩
            have hR : ∀ y, Rdr (F y) g s (q : Nat) := fun y => R4.out.below (hF y) R4.out.lt
            have c0 := fun y => (hR y).c0
            have c1 := fun y => (hR y).c1
            clear hF hR onto
            go_upto_region 7 with fail
            refine region_class F (by kernel_rfl) (by kernel_rfl) (by obtain ⟨x, hx⟩ := HOn.out _ (Below.refl _ _).drew; exact ⟨x, hx.symm⟩) ?_
            repeat (go_big_quiet_step (fail))
            refine wpQuiet_nil ?_
            rintro _ ⟨nq, rfl⟩
            have hfn := HF.out nq
            obtain ⟨w5, hV⟩ : ∃ w5, F nq = w5 := ⟨_, rfl⟩
            rw [hV] at hfn
            rw [hV]
            have R5 : Hid (Rdr w5 g s (q : Nat)) := R4.out.below hfn R4.out.lt
            have O5 : Hid (w5.ownsRow v.heap.size 5 1 u4 l.length (bc l)) := ownsRow_below O4.out hfn (Nat.le_refl _)
            have G5 : Hid (Below B v w5 ∧ Btg g v w5) := ⟨G4.out.1.trans (hfn.mono (by have := G4.out.1.size; have := G4.out.2.1; omega)), G4.out.2.below hfn⟩
            clear c0 c1 HF HOn hV hfn hX
            have c1 := R5.out.c1
            have f1 := R5.out.free 1
            have m1 : IntKind.i64.wrap ((q : Int) + 1) = (q : Int) + 1 := IntWalk.i64_in _ ⟨by omega, by omega⟩
            obtain ⟨w6, e6⟩ : ∃ w6, w5.setCell ⟨g, 1, none⟩ (.int .i64 ((q : Int) + 1)) = w6 := ⟨_, rfl⟩
            have E6 : Hid (w5.setCell ⟨g, 1, none⟩ (.int .i64 ((q : Int) + 1)) = w6) := e6
            have R6 : Hid (Rdr w6 g s (q + 1 : Nat)) := by unfold Hid; rw [← e6]; exact R5.out.set1 _
            have G6 : Hid (Below B v w6 ∧ Btg g v w6) := by unfold Hid; rw [← e6]; exact ⟨G5.out.1.setCell (p := ⟨g, 1, none⟩) hB _, G5.out.2.set 1 _⟩
            have O6 : Hid (w6.ownsRow v.heap.size 5 1 u4 l.length (bc l)) := by unfold Hid; rw [← e6]; exact ownsRow_btg O5.out ((Btg.refl g w5).set 1 _) hgl
            clear e6
            go_upto_region 9 with fail
            rw [E6.out]
            clear c1 f1 E6 m1
            by_cases x92 : x = 92
            · have t2 : ((x.toNat : Int) == 92) = true := by rw [x92]; rfl
              have HS : Hid (∀ z, Rdr z g s (q + 1 : Nat) → Calls Tryd.prog 79 #[.pointer (some ⟨g, 0, none⟩)] z fun e w' => e = .returned (.tuple #[.int .u8 ((escC s (q + 1)).getD 0).toNat, .bool (escC s (q + 1)).isSome]) ∧ Rdr w' g s (escP s (q + 1) : Nat) ∧ Below B z w' ∧ Btg g z w') := fun z hz => escaped_any B g s (q + 1) z hs (by omega) hB hz
              cases hy : escC s (q + 1) with
              | none =>
                have HE : Hid (Y = ⟨#[]⟩ ∧ Z = false ∧ M = q + 1) := by
                  have := HQ.out
                  rw [drop_at hx, x92, qz_none hy] at this
                  simp only [Prod.mk.injEq] at this
                  exact HZ.out _ this.1.symm _ this.2.1.symm _ this.2.2.symm
                rw [show escP s (q + 1) = q + 1 by unfold escP; rw [hy]; rfl, hy] at HS
                clear HQ hx x34 x10 HZ hy x92
                go_wp2_with (go_at_call 79; (with_reducible refine (HS.out _ R6.out).mono ?_); rintro e w7 ⟨rfl, hr, hb, hg⟩; have R7 : Hid (Rdr w7 g s (q + 1 : Nat)) := hr; have G7 : Hid (Below B v w7 ∧ Btg g v w7) := ⟨G6.out.1.trans hb, G6.out.2.trans hg⟩; clear hr hb hg)
                go_ret2
                exact ⟨by rw [HE.out.1, HE.out.2.1]; rfl, by rw [HE.out.2.2]; exact R7.out, G7.out⟩
              | some y =>
                have HQ2 : Hid ((l ++ [y] ++ (qz (s.data.toList.drop (q + 2))).1, q + 2 + (qz (s.data.toList.drop (q + 2))).2.1, (qz (s.data.toList.drop (q + 2))).2.2) = (T, p + 1 + N, ok)) := by
                  unfold Hid
                  have hz := qz_some hy
                  rw [show q + 1 + 1 = q + 2 from rfl] at hz
                  rw [← HQ.out, drop_at hx, x92, hz]
                  simp only [Prod.mk.injEq, List.append_assoc, List.singleton_append, and_true, true_and]
                  omega
                have hq2 : q + 2 ≤ s.size := by
                  have h1 : s.data.toList[q + 1]? ≠ none := fun h => by unfold escC at hy; rw [isAt_end h, isAt_end h, isAt_end h] at hy; cases hy
                  have h2 : ¬ s.data.toList.length ≤ q + 1 := fun h => h1 (List.getElem?_eq_none_iff.2 h)
                  omega
                rw [show escP s (q + 1) = q + 2 by unfold escP; rw [hy]; rfl, hy] at HS
                have HS2 : Hid (∀ z, Rdr z g s (q + 1 : Nat) → Calls Tryd.prog 79 #[.pointer (some ⟨g, 0, none⟩)] z fun e w' => e = .returned (.tuple #[.int .u8 y.toNat, .bool true]) ∧ Rdr w' g s (q + 2 : Nat) ∧ Below B z w' ∧ Btg g z w') := HS.out
                clear HQ hx x34 x10 HZ hy x92 HS
                go_wp2_with (first
                  | (go_at_call 79; (with_reducible refine (HS2.out _ R6.out).mono ?_); rintro e w7 ⟨rfl, hr, hb, hg⟩; have R7 : Hid (Rdr w7 g s (q + 2 : Nat)) := hr; have G7 : Hid (Below B v w7 ∧ Btg g v w7) := ⟨G6.out.1.trans hb, G6.out.2.trans hg⟩; have O7 : Hid (w7.ownsRow v.heap.size 5 1 u4 l.length (bc l)) := ownsRow_btg O6.out hg hgl; clear hr hb hg)
                  | (at_builtin; (refine wpList_append_own_any _ rfl _ _ 59 rfl v.heap.size 5 i0 (.int .u8 0) 1 1 Tryd.underlying59 hi hz0 hz1 hz2 rfl (by decide) _ _ _ rfl (O7.out.alloc _) (some ⟨w7.heap.size, 0, none⟩) 1 1 (bc [y]) rfl (by rfl) (fun h => by cases h) (fun ad had => by cases had; exact cells_new w7 (bc [y]) 5) (bc_one _) (by unfold maxLen; omega) (by omega) (by have := G7.out.2.1; simp; omega) ?_); intro v9 w9 hown9 hgrow9; have R9 : Hid (Rdr w9 g s (q + 2 : Nat)) := (R7.out.alloc _).grown hgrow9 (fun e => by have := (O7.out.lt g e).1; omega); have O9 : Hid (w9.ownsRow v.heap.size 5 1 v9 (l ++ [y]).length (bc (l ++ [y]))) := (by unfold Hid; rw [bc_append, List.length_append]; exact hown9); have G9 : Hid (Below B v w9 ∧ Btg g v w9) := ⟨(G7.out.1.alloc (by have := G7.out.2.1; omega) _).grown hgrow9 (by have := G7.out.2.1; simp; omega) (fun g' h => by have := (O7.out.lt g' h).1; omega), btg_own G7.out.2 (O7.out.lt) hgrow9⟩; clear hown9 hgrow9))
                go_roundg (s.size - (q + 2))
                case measure => omega
                case rel => exact ⟨q + 2, l ++ [y], rfl, hq2, by rw [List.length_append, List.length_singleton]; omega, HQ2.out, O9.out, R9.out, G9.out⟩
            · have t2 : ((x.toNat : Int) == 92) = false := by
                rw [beq_eq_false_iff_ne]; intro h; apply x92; apply UInt8.toNat_inj.1; show x.toNat = 92; omega
              have HQ2 : Hid ((l ++ [x] ++ (qz (s.data.toList.drop (q + 1))).1, q + 1 + (qz (s.data.toList.drop (q + 1))).2.1, (qz (s.data.toList.drop (q + 1))).2.2) = (T, p + 1 + N, ok)) := by
                unfold Hid
                rw [← HQ.out, drop_at hx, qz_byte _ x34 x10 x92]
                simp only [Prod.mk.injEq, List.append_assoc, List.singleton_append, and_true, true_and]
                omega
              clear HQ hx x34 x10 HZ x92
              go_wp2_with (at_builtin; (refine wpList_append_own_any _ rfl _ _ 59 rfl v.heap.size 5 i0 (.int .u8 0) 1 1 Tryd.underlying59 hi hz0 hz1 hz2 rfl (by decide) _ _ _ rfl (O6.out.alloc _) (some ⟨w6.heap.size, 0, none⟩) 1 1 (bc [x]) rfl (by rfl) (fun h => by cases h) (fun ad had => by cases had; exact cells_new w6 (bc [x]) 5) (bc_one _) (by unfold maxLen; omega) (by omega) (by have := G6.out.2.1; simp; omega) ?_); intro v9 w9 hown9 hgrow9; have R9 : Hid (Rdr w9 g s (q + 1 : Nat)) := (R6.out.alloc _).grown hgrow9 (fun e => by have := (O6.out.lt g e).1; omega); have O9 : Hid (w9.ownsRow v.heap.size 5 1 v9 (l ++ [x]).length (bc (l ++ [x]))) := (by unfold Hid; rw [bc_append, List.length_append]; exact hown9); have G9 : Hid (Below B v w9 ∧ Btg g v w9) := ⟨(G6.out.1.alloc (by have := G6.out.2.1; omega) _).grown hgrow9 (by have := G6.out.2.1; simp; omega) (fun g' h => by have := (O6.out.lt g' h).1; omega), btg_own G6.out.2 (O6.out.lt) hgrow9⟩; clear hown9 hgrow9)
              go_roundg (s.size - (q + 1))
              case measure => omega
              case rel => exact ⟨q + 1, l ++ [x], rfl, by omega, by rw [List.length_append, List.length_singleton]; omega, HQ2.out, O9.out, R9.out, G9.out⟩
end Go.Proofs.YteolfolkolpehaaDoor
