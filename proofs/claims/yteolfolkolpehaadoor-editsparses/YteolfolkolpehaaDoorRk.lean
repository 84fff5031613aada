import Derived.Test.YteolfolkolpehaaDoorRc
namespace Go.Proofs.YteolfolkolpehaaDoor
open Go.ChangeShapes Go.WideShapes Go.ChangeAt Go.RowKit
set_option linter.unusedVariables false

theorem box_other {w : World} {g : Nat} {f t : Int} {s : ByteArray} (h : Box w g f t s) (a : Addr) (hne : g ≠ a.block) (v : Value) : Box (w.setCell a v) g f t s := (heap_setCell_other w a g v hne).trans h

/-- a line, by the reference's take -/
def lineT (s : ByteArray) (p : Nat) : Ed × Nat × Bool :=
  if (tkA s p 44).2.2 then
    if (tkA s (tkA s p 44).2.1 32).2.2 then
      (if isAt s (tkA s (tkA s p 44).2.1 32).2.1 34 then
        (if (qz (s.data.toList.drop ((tkA s (tkA s p 44).2.1 32).2.1 + 1))).2.2 && isAt s ((tkA s (tkA s p 44).2.1 32).2.1 + 1 + (qz (s.data.toList.drop ((tkA s (tkA s p 44).2.1 32).2.1 + 1))).2.1) 10 then
          (⟨(tkA s p 44).1, (tkA s (tkA s p 44).2.1 32).1, ⟨(qz (s.data.toList.drop ((tkA s (tkA s p 44).2.1 32).2.1 + 1))).1.toArray⟩⟩, (tkA s (tkA s p 44).2.1 32).2.1 + 1 + (qz (s.data.toList.drop ((tkA s (tkA s p 44).2.1 32).2.1 + 1))).2.1 + 1, true)
        else (⟨0, 0, ⟨#[]⟩⟩, (tkA s (tkA s p 44).2.1 32).2.1 + 1 + (qz (s.data.toList.drop ((tkA s (tkA s p 44).2.1 32).2.1 + 1))).2.1, false))
      else (⟨0, 0, ⟨#[]⟩⟩, (tkA s (tkA s p 44).2.1 32).2.1, false))
    else (⟨0, 0, ⟨#[]⟩⟩, (tkA s (tkA s p 44).2.1 32).2.1, false)
  else (⟨0, 0, ⟨#[]⟩⟩, (tkA s p 44).2.1, false)
theorem tkA_yes {s : ByteArray} {p : Nat} {e : UInt8} (h : ((numA s p).2.2 && isAt s (numA s p).2.1 e) = true) : tkA s p e = ((numA s p).1, (numA s p).2.1 + 1, true) := by unfold tkA; rw [if_pos h]
theorem tkA_no {s : ByteArray} {p : Nat} {e : UInt8} (h : ((numA s p).2.2 && isAt s (numA s p).2.1 e) = false) : tkA s p e = (0, (numA s p).2.1, false) := by unfold tkA; rw [if_neg (by rw [h]; exact Bool.false_ne_true)]
theorem lineA_T (s : ByteArray) (p : Nat) : lineA s p = lineT s p := by
  unfold lineA lineT
  cases h1 : ((numA s p).2.2 && isAt s (numA s p).2.1 44)
  · rw [tkA_no h1]
    simp
  · rw [tkA_yes h1]
    simp only [if_true]
    cases h2 : ((numA s ((numA s p).2.1 + 1)).2.2 && isAt s (numA s ((numA s p).2.1 + 1)).2.1 32)
    · rw [tkA_no h2]
      simp
    · rw [tkA_yes h2]
      simp only [if_true, Nat.add_assoc, Nat.reduceAdd]
theorem tkA_le {s : ByteArray} {p : Nat} {e : UInt8} (h : p ≤ s.size) : (tkA s p e).2.1 ≤ s.size := by
  have h1 := numA_le h (show numA s p = ((numA s p).1, (numA s p).2.1, (numA s p).2.2) from rfl)
  cases h2 : ((numA s p).2.2 && isAt s (numA s p).2.1 e)
  · rw [tkA_no h2]; exact h1
  · rw [tkA_yes h2]
    have := isAt_lt (Bool.and_eq_true_iff.1 h2).2
    show (numA s p).2.1 + 1 ≤ s.size
    omega

set_option maxRecDepth 1000000 in
set_option maxHeartbeats 2000000 in
theorem rline_any (s : ByteArray) (p : Nat) (v : World) (hs : s.size ≤ 140737488351232) (hp : p ≤ s.size) (E : Ed) (Q : Nat) (K : Bool) (hq : lineA s p = (E, Q, K)) :
    Calls Tryd.prog 32 #[.string s, .int .i64 (p : Int)] v fun r w' => (∃ E' : Ed, r = .returned (.tuple #[.agg #[.int .i64 E'.f, .int .i64 E'.t, .string E'.s], .int .i64 (Q : Nat), .bool K]) ∧ (K = true → E' = E)) ∧ Below v.heap.size v w' := by
  obtain ⟨i0, hi, hz0, hz1, hz2⟩ := info_parts infoU8b
  have hl := bytes_len s
  rw [lineA_T] at hq
  unfold lineT at hq
  obtain ⟨n1, q1, o1, h1⟩ : ∃ n q o, tkA s p 44 = (n, q, o) := ⟨_, _, _, rfl⟩
  have hq1 : q1 ≤ s.size := by have := tkA_le (e := 44) hp; rw [h1] at this; exact this
  obtain ⟨n2, q2, o2, h2⟩ : ∃ n q o, tkA s q1 32 = (n, q, o) := ⟨_, _, _, rfl⟩
  have hq2 : q2 ≤ s.size := by have := tkA_le (e := 32) hq1; rw [h2] at this; exact this
  obtain ⟨T, N, o3, h3⟩ : ∃ n q o, qz (s.data.toList.drop (q2 + 1)) = (n, q, o) := ⟨_, _, _, rfl⟩
  have T1 : Hid (∀ w, Calls Tryd.prog 62 #[.string s, .int .i64 (p : Int), .int .u8 44] w fun r w' => r = .returned (.tuple #[.int .i64 n1, .int .i64 (q1 : Nat), .bool o1]) ∧ Below w.heap.size w w') := fun w => rtake_any s p 44 w hs hp (by decide) (by decide) n1 q1 o1 h1
  have T2 : Hid (∀ w, Calls Tryd.prog 62 #[.string s, .int .i64 (q1 : Int), .int .u8 32] w fun r w' => r = .returned (.tuple #[.int .i64 n2, .int .i64 (q2 : Nat), .bool o2]) ∧ Below w.heap.size w w') := fun w => rtake_any s q1 32 w hs hq1 (by decide) (by decide) n2 q2 o2 h2
  have H3 : Hid (qz (s.data.toList.drop (q2 + 1)) = (T, N, o3)) := h3
  have HB0 : Hid (Below v.heap.size v ((v.alloc (.cells #[.int .i64 0, .int .i64 0, .string ⟨#[]⟩] 45)).alloc (.cells #[.int .i64 0, .int .i64 0, .string ⟨#[]⟩] 45))) := ((Below.refl _ v).alloc (Nat.le_refl _) _).alloc (by simp) _
  have HX0 : Hid (Box ((v.alloc (.cells #[.int .i64 0, .int .i64 0, .string ⟨#[]⟩] 45)).alloc (.cells #[.int .i64 0, .int .i64 0, .string ⟨#[]⟩] 45)) v.heap.size 0 0 ⟨#[]⟩ ∧ Box ((v.alloc (.cells #[.int .i64 0, .int .i64 0, .string ⟨#[]⟩] 45)).alloc (.cells #[.int .i64 0, .int .i64 0, .string ⟨#[]⟩] 45)) (v.heap.size + 1) 0 0 ⟨#[]⟩) := by
    refine ⟨(Box.new v 0 0 ⟨#[]⟩).alloc _, ?_⟩
    have := Box.new (v.alloc (.cells #[.int .i64 0, .int .i64 0, .string ⟨#[]⟩] 45)) 0 0 ⟨#[]⟩
    rw [show (v.alloc (.cells #[.int .i64 0, .int .i64 0, .string ⟨#[]⟩] 45)).heap.size = v.heap.size + 1 by simp] at this
    exact this
  simp only [h1, h2, h3] at hq
  clear h1 h2 h3
  cases o1 with
  | false =>
    have HE : Hid (Q = q1 ∧ K = false) := by
      simp only [Bool.false_eq_true, if_false, Prod.mk.injEq] at hq
      exact ⟨hq.2.1.symm, hq.2.2.symm⟩
    clear hq
    go_enter Tryd.func32, Tryd.ntmps32
    go_wp2_with (go_at_call 62; (with_reducible refine (T1.out _).mono ?_); rintro r w1 ⟨rfl, hb⟩; have HB1 : Hid (Below v.heap.size v w1) := HB0.out.trans (hb.mono HB0.out.size); have Y1 : Hid (Box w1 v.heap.size 0 0 ⟨#[]⟩ ∧ Box w1 (v.heap.size + 1) 0 0 ⟨#[]⟩) := ⟨HX0.out.1.below hb HX0.out.1.lt, HX0.out.2.below hb HX0.out.2.lt⟩; have x0 := Y1.out.2.free 0; have x1 := Y1.out.2.c0; obtain ⟨u1, hu1⟩ : ∃ u, w1.setCell ⟨v.heap.size + 1, 0, none⟩ (.int .i64 n1) = u := ⟨_, rfl⟩; have D1 : Hid (Box u1 v.heap.size 0 0 ⟨#[]⟩ ∧ Box u1 (v.heap.size + 1) n1 0 ⟨#[]⟩ ∧ Below v.heap.size v u1) := (by rw [← hu1]; exact ⟨box_other Y1.out.1 ⟨v.heap.size + 1, 0, none⟩ (by show v.heap.size ≠ v.heap.size + 1; omega) _, Y1.out.2.set0 n1, HB1.out.setCell (p := ⟨v.heap.size + 1, 0, none⟩) (by show v.heap.size ≤ v.heap.size + 1; omega) _⟩); clear hb; have a0 := D1.out.2.1.c0; have a1 := D1.out.2.1.c1; have a2 := D1.out.2.1.c2; have f0 := D1.out.1.free 0; have f1 := (D1.out.1.set0 n1).free 1; have f2 := ((D1.out.1.set0 n1).set1 0).free 2; have b0 := D1.out.1.c0; have b1 := (D1.out.1.set0 n1).c1; have b2 := ((D1.out.1.set0 n1).set1 0).c2)
    clear a0 a1 a2 f0 f1 f2 b0 b1 b2
    have hbx := ((D1.out.1.set0 n1).set1 0).set2 ⟨#[]⟩
    have r0 := hbx.c0
    have r1 := hbx.c1
    have r2 := hbx.c2
    refine bodyPost_ret (v := .tuple #[.agg #[.int .i64 n1, .int .i64 0, .string ⟨#[]⟩], .int .i64 (q1 : Nat), .bool false]) (by simp [results, Tryd.results32, go_sem, r0, r1, r2]) rfl ?_
    refine ⟨⟨⟨n1, 0, ⟨#[]⟩⟩, by rw [HE.out.1, HE.out.2], fun h => by rw [HE.out.2] at h; cases h⟩, ((D1.out.2.2.setCell (p := ⟨v.heap.size, 0, none⟩) (Nat.le_refl _) _).setCell (p := ⟨v.heap.size, 1, none⟩) (Nat.le_refl _) _).setCell (p := ⟨v.heap.size, 2, none⟩) (Nat.le_refl _) _⟩
  | true =>
    cases o2 with
    | false =>
      have HE : Hid (Q = q2 ∧ K = false) := by
        simp only [Bool.false_eq_true, if_false, if_true, Prod.mk.injEq] at hq
        exact ⟨hq.2.1.symm, hq.2.2.symm⟩
      clear hq
      go_enter Tryd.func32, Tryd.ntmps32
      go_wp2_with (first
        | (go_at_call 62; (with_reducible refine (T1.out _).mono ?_); rintro r w1 ⟨rfl, hb⟩; have HB1 : Hid (Below v.heap.size v w1) := HB0.out.trans (hb.mono HB0.out.size); have Y1 : Hid (Box w1 v.heap.size 0 0 ⟨#[]⟩ ∧ Box w1 (v.heap.size + 1) 0 0 ⟨#[]⟩) := ⟨HX0.out.1.below hb HX0.out.1.lt, HX0.out.2.below hb HX0.out.2.lt⟩; have x0 := Y1.out.2.free 0; have x1 := Y1.out.2.c0; obtain ⟨u1, hu1⟩ : ∃ u, w1.setCell ⟨v.heap.size + 1, 0, none⟩ (.int .i64 n1) = u := ⟨_, rfl⟩; have D1 : Hid (Box u1 v.heap.size 0 0 ⟨#[]⟩ ∧ Box u1 (v.heap.size + 1) n1 0 ⟨#[]⟩ ∧ Below v.heap.size v u1) := (by rw [← hu1]; exact ⟨box_other Y1.out.1 ⟨v.heap.size + 1, 0, none⟩ (by show v.heap.size ≠ v.heap.size + 1; omega) _, Y1.out.2.set0 n1, HB1.out.setCell (p := ⟨v.heap.size + 1, 0, none⟩) (by show v.heap.size ≤ v.heap.size + 1; omega) _⟩); clear hb)
        | (go_at_call 62; (with_reducible refine (T2.out _).mono ?_); rintro r w2 ⟨rfl, hb⟩; have HB2 : Hid (Below v.heap.size v w2) := D1.out.2.2.trans (hb.mono D1.out.2.2.size); have Y2 : Hid (Box w2 v.heap.size 0 0 ⟨#[]⟩ ∧ Box w2 (v.heap.size + 1) n1 0 ⟨#[]⟩) := ⟨D1.out.1.below hb D1.out.1.lt, D1.out.2.1.below hb D1.out.2.1.lt⟩; have z0 := Y2.out.2.free 1; have z1 := Y2.out.2.c1; obtain ⟨u2, hu2⟩ : ∃ u, w2.setCell ⟨v.heap.size + 1, 1, none⟩ (.int .i64 n2) = u := ⟨_, rfl⟩; have D2 : Hid (Box u2 v.heap.size 0 0 ⟨#[]⟩ ∧ Box u2 (v.heap.size + 1) n1 n2 ⟨#[]⟩ ∧ Below v.heap.size v u2) := (by rw [← hu2]; exact ⟨box_other Y2.out.1 ⟨v.heap.size + 1, 1, none⟩ (by show v.heap.size ≠ v.heap.size + 1; omega) _, Y2.out.2.set1 n2, HB2.out.setCell (p := ⟨v.heap.size + 1, 1, none⟩) (by show v.heap.size ≤ v.heap.size + 1; omega) _⟩); clear hb; have a0 := D2.out.2.1.c0; have a1 := D2.out.2.1.c1; have a2 := D2.out.2.1.c2; have f0 := D2.out.1.free 0; have f1 := (D2.out.1.set0 n1).free 1; have f2 := ((D2.out.1.set0 n1).set1 n2).free 2; have b0 := D2.out.1.c0; have b1 := (D2.out.1.set0 n1).c1; have b2 := ((D2.out.1.set0 n1).set1 n2).c2))
      clear a0 a1 a2 f0 f1 f2 b0 b1 b2
      have hbx := ((D2.out.1.set0 n1).set1 n2).set2 ⟨#[]⟩
      have r0 := hbx.c0
      have r1 := hbx.c1
      have r2 := hbx.c2
      refine bodyPost_ret (v := .tuple #[.agg #[.int .i64 n1, .int .i64 n2, .string ⟨#[]⟩], .int .i64 (q2 : Nat), .bool false]) (by simp [results, Tryd.results32, go_sem, r0, r1, r2]) rfl ?_
      refine ⟨⟨⟨n1, n2, ⟨#[]⟩⟩, by rw [HE.out.1, HE.out.2], fun h => by rw [HE.out.2] at h; cases h⟩, ((D2.out.2.2.setCell (p := ⟨v.heap.size, 0, none⟩) (Nat.le_refl _) _).setCell (p := ⟨v.heap.size, 1, none⟩) (Nat.le_refl _) _).setCell (p := ⟨v.heap.size, 2, none⟩) (Nat.le_refl _) _⟩
    | true =>
      cases hx : s.data.toList[q2]? with
      | none =>
        have HE : Hid (Q = q2 ∧ K = false) := by
          rw [isAt_end hx] at hq
          simp only [Bool.false_eq_true, if_false, if_true, Prod.mk.injEq] at hq
          exact ⟨hq.2.1.symm, hq.2.2.symm⟩
        have hqe : q2 = s.size := by have := List.getElem?_eq_none_iff.1 hx; omega
        have t0 : ((q2 : Int) == (s.size : Int)) = true := by rw [beq_iff_eq]; omega
        clear hq hx hqe
        go_enter Tryd.func32, Tryd.ntmps32
        go_wp2_with (first
          | (go_at_call 62; (with_reducible refine (T1.out _).mono ?_); rintro r w1 ⟨rfl, hb⟩; have HB1 : Hid (Below v.heap.size v w1) := HB0.out.trans (hb.mono HB0.out.size); have Y1 : Hid (Box w1 v.heap.size 0 0 ⟨#[]⟩ ∧ Box w1 (v.heap.size + 1) 0 0 ⟨#[]⟩) := ⟨HX0.out.1.below hb HX0.out.1.lt, HX0.out.2.below hb HX0.out.2.lt⟩; have x0 := Y1.out.2.free 0; have x1 := Y1.out.2.c0; obtain ⟨u1, hu1⟩ : ∃ u, w1.setCell ⟨v.heap.size + 1, 0, none⟩ (.int .i64 n1) = u := ⟨_, rfl⟩; have D1 : Hid (Box u1 v.heap.size 0 0 ⟨#[]⟩ ∧ Box u1 (v.heap.size + 1) n1 0 ⟨#[]⟩ ∧ Below v.heap.size v u1) := (by rw [← hu1]; exact ⟨box_other Y1.out.1 ⟨v.heap.size + 1, 0, none⟩ (by show v.heap.size ≠ v.heap.size + 1; omega) _, Y1.out.2.set0 n1, HB1.out.setCell (p := ⟨v.heap.size + 1, 0, none⟩) (by show v.heap.size ≤ v.heap.size + 1; omega) _⟩); clear hb)
          | (go_at_call 62; (with_reducible refine (T2.out _).mono ?_); rintro r w2 ⟨rfl, hb⟩; have HB2 : Hid (Below v.heap.size v w2) := D1.out.2.2.trans (hb.mono D1.out.2.2.size); have Y2 : Hid (Box w2 v.heap.size 0 0 ⟨#[]⟩ ∧ Box w2 (v.heap.size + 1) n1 0 ⟨#[]⟩) := ⟨D1.out.1.below hb D1.out.1.lt, D1.out.2.1.below hb D1.out.2.1.lt⟩; have z0 := Y2.out.2.free 1; have z1 := Y2.out.2.c1; obtain ⟨u2, hu2⟩ : ∃ u, w2.setCell ⟨v.heap.size + 1, 1, none⟩ (.int .i64 n2) = u := ⟨_, rfl⟩; have D2 : Hid (Box u2 v.heap.size 0 0 ⟨#[]⟩ ∧ Box u2 (v.heap.size + 1) n1 n2 ⟨#[]⟩ ∧ Below v.heap.size v u2) := (by rw [← hu2]; exact ⟨box_other Y2.out.1 ⟨v.heap.size + 1, 1, none⟩ (by show v.heap.size ≠ v.heap.size + 1; omega) _, Y2.out.2.set1 n2, HB2.out.setCell (p := ⟨v.heap.size + 1, 1, none⟩) (by show v.heap.size ≤ v.heap.size + 1; omega) _⟩); clear hb; have a0 := D2.out.2.1.c0; have a1 := D2.out.2.1.c1; have a2 := D2.out.2.1.c2; have f0 := D2.out.1.free 0; have f1 := (D2.out.1.set0 n1).free 1; have f2 := ((D2.out.1.set0 n1).set1 n2).free 2; have b0 := D2.out.1.c0; have b1 := (D2.out.1.set0 n1).c1; have b2 := ((D2.out.1.set0 n1).set1 n2).c2))
        clear a0 a1 a2 f0 f1 f2 b0 b1 b2
        have hbx := ((D2.out.1.set0 n1).set1 n2).set2 ⟨#[]⟩
        have r0 := hbx.c0
        have r1 := hbx.c1
        have r2 := hbx.c2
        refine bodyPost_ret (v := .tuple #[.agg #[.int .i64 n1, .int .i64 n2, .string ⟨#[]⟩], .int .i64 (q2 : Nat), .bool false]) (by simp [results, Tryd.results32, go_sem, r0, r1, r2]) rfl ?_
        refine ⟨⟨⟨n1, n2, ⟨#[]⟩⟩, by rw [HE.out.1, HE.out.2], fun h => by rw [HE.out.2] at h; cases h⟩, ((D2.out.2.2.setCell (p := ⟨v.heap.size, 0, none⟩) (Nat.le_refl _) _).setCell (p := ⟨v.heap.size, 1, none⟩) (Nat.le_refl _) _).setCell (p := ⟨v.heap.size, 2, none⟩) (Nat.le_refl _) _⟩
      | some x =>
        have hkl : q2 < s.size := by have := (List.getElem?_eq_some_iff.1 hx).1; omega
        have t0 : ((q2 : Int) == (s.size : Int)) = false := by rw [beq_eq_false_iff_ne]; omega
        have hkl' : (q2 : Int) < (s.size : Int) := by omega
        have hsx : s[q2]'hkl = x := by
          have := (List.getElem?_eq_some_iff.1 hx).2
          rw [← this]; rfl
        by_cases x34 : x = 34
        · have t1 : ((x.toNat : Int) != 34) = false := by rw [x34]; rfl
          rw [isAt_of hx, decide_eq_true x34] at hq
          simp only [if_true] at hq
          have HQ : Hid ((if o3 && isAt s (q2 + 1 + N) 10 then ((⟨n1, n2, ⟨T.toArray⟩⟩ : Ed), q2 + 1 + N + 1, true) else (⟨0, 0, ⟨#[]⟩⟩, q2 + 1 + N, false)) = (E, Q, K)) := hq
          have m1 : IntKind.i64.wrap ((q2 : Int) + 1) = (q2 : Int) + 1 := IntWalk.i64_in _ ⟨by omega, by omega⟩
          clear hq hx x34
          go_enter Tryd.func32, Tryd.ntmps32
          go_wp2_with (first
            | (go_at_call 62; (with_reducible refine (T1.out _).mono ?_); rintro r w1 ⟨rfl, hb⟩; have HB1 : Hid (Below v.heap.size v w1) := HB0.out.trans (hb.mono HB0.out.size); have Y1 : Hid (Box w1 v.heap.size 0 0 ⟨#[]⟩ ∧ Box w1 (v.heap.size + 1) 0 0 ⟨#[]⟩) := ⟨HX0.out.1.below hb HX0.out.1.lt, HX0.out.2.below hb HX0.out.2.lt⟩; have x0 := Y1.out.2.free 0; have x1 := Y1.out.2.c0; obtain ⟨u1, hu1⟩ : ∃ u, w1.setCell ⟨v.heap.size + 1, 0, none⟩ (.int .i64 n1) = u := ⟨_, rfl⟩; have D1 : Hid (Box u1 v.heap.size 0 0 ⟨#[]⟩ ∧ Box u1 (v.heap.size + 1) n1 0 ⟨#[]⟩ ∧ Below v.heap.size v u1) := (by rw [← hu1]; exact ⟨box_other Y1.out.1 ⟨v.heap.size + 1, 0, none⟩ (by show v.heap.size ≠ v.heap.size + 1; omega) _, Y1.out.2.set0 n1, HB1.out.setCell (p := ⟨v.heap.size + 1, 0, none⟩) (by show v.heap.size ≤ v.heap.size + 1; omega) _⟩); clear hb)
            | (go_at_call 62; (with_reducible refine (T2.out _).mono ?_); rintro r w2 ⟨rfl, hb⟩; have HB2 : Hid (Below v.heap.size v w2) := D1.out.2.2.trans (hb.mono D1.out.2.2.size); have Y2 : Hid (Box w2 v.heap.size 0 0 ⟨#[]⟩ ∧ Box w2 (v.heap.size + 1) n1 0 ⟨#[]⟩) := ⟨D1.out.1.below hb D1.out.1.lt, D1.out.2.1.below hb D1.out.2.1.lt⟩; have z0 := Y2.out.2.free 1; have z1 := Y2.out.2.c1; obtain ⟨u2, hu2⟩ : ∃ u, w2.setCell ⟨v.heap.size + 1, 1, none⟩ (.int .i64 n2) = u := ⟨_, rfl⟩; have D2 : Hid (Box u2 v.heap.size 0 0 ⟨#[]⟩ ∧ Box u2 (v.heap.size + 1) n1 n2 ⟨#[]⟩ ∧ Below v.heap.size v u2) := (by rw [← hu2]; exact ⟨box_other Y2.out.1 ⟨v.heap.size + 1, 1, none⟩ (by show v.heap.size ≠ v.heap.size + 1; omega) _, Y2.out.2.set1 n2, HB2.out.setCell (p := ⟨v.heap.size + 1, 1, none⟩) (by show v.heap.size ≤ v.heap.size + 1; omega) _⟩); clear hb))
          have hq21 : q2 + 1 ≤ s.size := hkl
          clear T1 T2 HB0 HX0 HB1 Y1 D1 HB2 Y2 x0 x1 z0 z1 t0 t1 hkl hkl' hsx
          go_loopg [1, 9] (s.size - (q2 + 1)) (fun gk si sb wr => ∃ (k : Nat) (l : List UInt8), gk = s.size - k ∧ k ≤ s.size ∧ l.length ≤ k ∧ si = .int .i64 (k : Int) ∧ (l ++ (qz (s.data.toList.drop k)).1, k + (qz (s.data.toList.drop k)).2.1, (qz (s.data.toList.drop k)).2.2) = (T, q2 + 1 + N, o3) ∧ wr.ownsRow v.heap.size 5 1 sb l.length (bc l) ∧ Box wr v.heap.size 0 0 ⟨#[]⟩ ∧ Box wr (v.heap.size + 1) n1 n2 ⟨#[]⟩ ∧ Below v.heap.size v wr)
          case atStart => exact ⟨q2 + 1, [], rfl, by omega, Nat.zero_le _, by go_num, by rw [H3.out]; rfl, World.ownsRow_nil _ _ _ _, D2.out⟩
          case round =>
            obtain ⟨k, l, rfl, hk, hlk, rfl, hqz, hown, hdd⟩ := hrel
            have HO : Hid (wr.ownsRow v.heap.size 5 1 u9 l.length (bc l)) := hown
            have DD : Hid (Box wr v.heap.size 0 0 ⟨#[]⟩ ∧ Box wr (v.heap.size + 1) n1 n2 ⟨#[]⟩ ∧ Below v.heap.size v wr) := hdd
            have HZ : Hid ((l ++ (qz (s.data.toList.drop k)).1, k + (qz (s.data.toList.drop k)).2.1, (qz (s.data.toList.drop k)).2.2) = (T, q2 + 1 + N, o3)) := hqz
            clear hown hdd hqz H3 D2 hu1 hu2
            cases hx : s.data.toList[k]? with
            | none =>
              have hke : k = s.size := by have := List.getElem?_eq_none_iff.1 hx; omega
              have t0 : ((k : Int) == (s.size : Int)) = true := by rw [beq_iff_eq]; omega
              have HE : Hid (Q = k ∧ K = false) := by
                have h4 := HZ.out
                rw [List.drop_eq_nil_of_le (List.getElem?_eq_none_iff.1 hx), qz_end] at h4
                simp only [Prod.mk.injEq] at h4
                have h5 := HQ.out
                rw [← h4.2.2, Bool.false_and, if_neg Bool.false_ne_true] at h5
                simp only [Prod.mk.injEq] at h5
                exact ⟨by omega, h5.2.2.symm⟩
              clear HZ HQ hx hke
              have a0 := DD.out.2.1.c0
              have a1 := DD.out.2.1.c1
              have a2 := DD.out.2.1.c2
              have f0 := DD.out.1.free 0
              have f1 := (DD.out.1.set0 n1).free 1
              have f2 := ((DD.out.1.set0 n1).set1 n2).free 2
              have b0 := DD.out.1.c0
              have b1 := (DD.out.1.set0 n1).c1
              have b2 := ((DD.out.1.set0 n1).set1 n2).c2
              go_wp2
              clear a0 a1 a2 f0 f1 f2 b0 b1 b2
              have hbx := ((DD.out.1.set0 n1).set1 n2).set2 ⟨#[]⟩
              have r0 := hbx.c0
              have r1 := hbx.c1
              have r2 := hbx.c2
              refine bodyPost_ret (v := .tuple #[.agg #[.int .i64 n1, .int .i64 n2, .string ⟨#[]⟩], .int .i64 ((k : Nat) : Int), .bool false]) (by simp [results, Tryd.results32, go_sem, r0, r1, r2]) rfl ?_
              refine ⟨⟨⟨n1, n2, ⟨#[]⟩⟩, by rw [HE.out.1, HE.out.2], fun h => by rw [HE.out.2] at h; cases h⟩, ((DD.out.2.2.setCell (p := ⟨v.heap.size, 0, none⟩) (Nat.le_refl _) _).setCell (p := ⟨v.heap.size, 1, none⟩) (Nat.le_refl _) _).setCell (p := ⟨v.heap.size, 2, none⟩) (Nat.le_refl _) _⟩
            | some x =>
              have hkl : k < s.size := by have := (List.getElem?_eq_some_iff.1 hx).1; omega
              have t0 : ((k : Int) == (s.size : Int)) = false := by rw [beq_eq_false_iff_ne]; omega
              have hkl' : (k : Int) < (s.size : Int) := by omega
              have hsx : s[k]'hkl = x := by
                have := (List.getElem?_eq_some_iff.1 hx).2
                rw [← this]; rfl
              obtain ⟨j, hj⟩ : ∃ j : Nat, k + 1 = j := ⟨_, rfl⟩
              have hj' : (k : Int) + 1 = (j : Int) := by omega
              have m1 : IntKind.i64.wrap ((j : Int)) = (j : Int) := IntWalk.i64_in _ ⟨by omega, by omega⟩
              have m2 : IntKind.i64.wrap ((j : Int) + 1) = (j : Int) + 1 := IntWalk.i64_in _ ⟨by omega, by omega⟩
              by_cases x10 : x = 10
              · have t1 : ((x.toNat : Int) == 10) = true := by rw [x10]; rfl
                have HE : Hid (Q = k ∧ K = false) := by
                  have h4 := HZ.out
                  rw [drop_at hx, x10, qz_feed] at h4
                  simp only [Prod.mk.injEq] at h4
                  have h5 := HQ.out
                  rw [← h4.2.2, Bool.false_and, if_neg Bool.false_ne_true] at h5
                  simp only [Prod.mk.injEq] at h5
                  exact ⟨by omega, h5.2.2.symm⟩
                clear HZ HQ hx x10
                have a0 := DD.out.2.1.c0
                have a1 := DD.out.2.1.c1
                have a2 := DD.out.2.1.c2
                have f0 := DD.out.1.free 0
                have f1 := (DD.out.1.set0 n1).free 1
                have f2 := ((DD.out.1.set0 n1).set1 n2).free 2
                have b0 := DD.out.1.c0
                have b1 := (DD.out.1.set0 n1).c1
                have b2 := ((DD.out.1.set0 n1).set1 n2).c2
                go_wp2
                clear a0 a1 a2 f0 f1 f2 b0 b1 b2
                have hbx := ((DD.out.1.set0 n1).set1 n2).set2 ⟨#[]⟩
                have r0 := hbx.c0
                have r1 := hbx.c1
                have r2 := hbx.c2
                refine bodyPost_ret (v := .tuple #[.agg #[.int .i64 n1, .int .i64 n2, .string ⟨#[]⟩], .int .i64 ((k : Nat) : Int), .bool false]) (by simp [results, Tryd.results32, go_sem, r0, r1, r2]) rfl ?_
                refine ⟨⟨⟨n1, n2, ⟨#[]⟩⟩, by rw [HE.out.1, HE.out.2], fun h => by rw [HE.out.2] at h; cases h⟩, ((DD.out.2.2.setCell (p := ⟨v.heap.size, 0, none⟩) (Nat.le_refl _) _).setCell (p := ⟨v.heap.size, 1, none⟩) (Nat.le_refl _) _).setCell (p := ⟨v.heap.size, 2, none⟩) (Nat.le_refl _) _⟩
              · have t1 : ((x.toNat : Int) == 10) = false := by rw [beq_eq_false_iff_ne]; intro h; exact x10 (UInt8.toNat_inj.1 (by have : (10 : UInt8).toNat = 10 := rfl; omega))
                by_cases x34 : x = 34
                · have t2 : ((x.toNat : Int) == 34) = true := by rw [x34]; rfl
                  have h4 : l = T ∧ q2 + 1 + N = j ∧ o3 = true := by
                    have h4 := HZ.out
                    rw [drop_at hx, x34, qz_mark] at h4
                    simp only [Prod.mk.injEq, List.append_nil] at h4
                    exact ⟨h4.1, by omega, h4.2.2.symm⟩
                  have HQ2 : Hid ((if isAt s j 10 then ((⟨n1, n2, ⟨l.toArray⟩⟩ : Ed), j + 1, true) else (⟨0, 0, ⟨#[]⟩⟩, j, false)) = (E, Q, K)) := by
                    have h5 := HQ.out
                    rw [h4.2.1, h4.2.2, ← h4.1, Bool.true_and] at h5
                    exact h5
                  clear h4 HZ HQ hx x34 x10
                  cases hy : s.data.toList[j]? with
                  | none =>
                    have hje : j = s.size := by have := List.getElem?_eq_none_iff.1 hy; omega
                    have t3 : ((j : Int) == (s.size : Int)) = true := by rw [beq_iff_eq]; omega
                    have HE : Hid (Q = j ∧ K = false) := by
                      have h5 := HQ2.out
                      rw [isAt_end hy, if_neg Bool.false_ne_true] at h5
                      simp only [Prod.mk.injEq] at h5
                      exact ⟨h5.2.1.symm, h5.2.2.symm⟩
                    clear HQ2 hy hje
                    have a0 := DD.out.2.1.c0
                    have a1 := DD.out.2.1.c1
                    have a2 := DD.out.2.1.c2
                    have f0 := DD.out.1.free 0
                    have f1 := (DD.out.1.set0 n1).free 1
                    have f2 := ((DD.out.1.set0 n1).set1 n2).free 2
                    have b0 := DD.out.1.c0
                    have b1 := (DD.out.1.set0 n1).c1
                    have b2 := ((DD.out.1.set0 n1).set1 n2).c2
                    go_wp2
                    clear a0 a1 a2 f0 f1 f2 b0 b1 b2
                    have hbx := ((DD.out.1.set0 n1).set1 n2).set2 ⟨#[]⟩
                    have r0 := hbx.c0
                    have r1 := hbx.c1
                    have r2 := hbx.c2
                    refine bodyPost_ret (v := .tuple #[.agg #[.int .i64 n1, .int .i64 n2, .string ⟨#[]⟩], .int .i64 ((j : Nat) : Int), .bool false]) (by simp [results, Tryd.results32, go_sem, r0, r1, r2]) rfl ?_
                    refine ⟨⟨⟨n1, n2, ⟨#[]⟩⟩, by rw [HE.out.1, HE.out.2], fun h => by rw [HE.out.2] at h; cases h⟩, ((DD.out.2.2.setCell (p := ⟨v.heap.size, 0, none⟩) (Nat.le_refl _) _).setCell (p := ⟨v.heap.size, 1, none⟩) (Nat.le_refl _) _).setCell (p := ⟨v.heap.size, 2, none⟩) (Nat.le_refl _) _⟩
                  | some y =>
                    have hjl : j < s.size := by have := (List.getElem?_eq_some_iff.1 hy).1; omega
                    have t3 : ((j : Int) == (s.size : Int)) = false := by rw [beq_eq_false_iff_ne]; omega
                    have hjl' : (j : Int) < (s.size : Int) := by omega
                    have hsy : s[j]'hjl = y := by
                      have := (List.getElem?_eq_some_iff.1 hy).2
                      rw [← this]; rfl
                    by_cases y10 : y = 10
                    · have t4 : ((y.toNat : Int) == 10) = true := by rw [y10]; rfl
                      have HE : Hid (Q = j + 1 ∧ K = true ∧ E = ⟨n1, n2, ⟨l.toArray⟩⟩) := by
                        have h5 := HQ2.out
                        rw [isAt_of hy, decide_eq_true y10, if_pos rfl] at h5
                        simp only [Prod.mk.injEq] at h5
                        exact ⟨h5.2.1.symm, h5.2.2.symm, h5.1.symm⟩
                      have hcv := own_string_any HO.out
                      have x0 := DD.out.2.1.free 2
                      have x1 := DD.out.2.1.c2
                      obtain ⟨u3, hu3⟩ : ∃ u, wr.setCell ⟨v.heap.size + 1, 2, none⟩ (.string ⟨l.toArray⟩) = u := ⟨_, rfl⟩
                      have D3 : Hid (Box u3 v.heap.size 0 0 ⟨#[]⟩ ∧ Box u3 (v.heap.size + 1) n1 n2 ⟨l.toArray⟩ ∧ Below v.heap.size v u3) := by
                        rw [← hu3]
                        exact ⟨box_other DD.out.1 ⟨v.heap.size + 1, 2, none⟩ (by show v.heap.size ≠ v.heap.size + 1; omega) _, DD.out.2.1.set2 _, DD.out.2.2.setCell (p := ⟨v.heap.size + 1, 2, none⟩) (by show v.heap.size ≤ v.heap.size + 1; omega) _⟩
                      clear HQ2 hy y10
                      have a0 := D3.out.2.1.c0
                      have a1 := D3.out.2.1.c1
                      have a2 := D3.out.2.1.c2
                      have f0 := D3.out.1.free 0
                      have f1 := (D3.out.1.set0 n1).free 1
                      have f2 := ((D3.out.1.set0 n1).set1 n2).free 2
                      have b0 := D3.out.1.c0
                      have b1 := (D3.out.1.set0 n1).c1
                      have b2 := ((D3.out.1.set0 n1).set1 n2).c2
                      go_wp2
                      clear a0 a1 a2 f0 f1 f2 b0 b1 b2
                      have hbx := ((D3.out.1.set0 n1).set1 n2).set2 ⟨l.toArray⟩
                      have r0 := hbx.c0
                      have r1 := hbx.c1
                      have r2 := hbx.c2
                      refine bodyPost_ret (v := .tuple #[.agg #[.int .i64 n1, .int .i64 n2, .string ⟨l.toArray⟩], .int .i64 (((j + 1 : Nat)) : Int), .bool true]) (by simp [results, Tryd.results32, go_sem, r0, r1, r2]) rfl ?_
                      refine ⟨⟨⟨n1, n2, ⟨l.toArray⟩⟩, by rw [HE.out.1, HE.out.2.1], fun _ => HE.out.2.2.symm⟩, ((D3.out.2.2.setCell (p := ⟨v.heap.size, 0, none⟩) (Nat.le_refl _) _).setCell (p := ⟨v.heap.size, 1, none⟩) (Nat.le_refl _) _).setCell (p := ⟨v.heap.size, 2, none⟩) (Nat.le_refl _) _⟩
                    · have t4 : ((y.toNat : Int) == 10) = false := by rw [beq_eq_false_iff_ne]; intro h; exact y10 (UInt8.toNat_inj.1 (by have : (10 : UInt8).toNat = 10 := rfl; omega))
                      have HE : Hid (Q = j ∧ K = false) := by
                        have h5 := HQ2.out
                        rw [isAt_of hy, decide_eq_false y10, if_neg Bool.false_ne_true] at h5
                        simp only [Prod.mk.injEq] at h5
                        exact ⟨h5.2.1.symm, h5.2.2.symm⟩
                      clear HQ2 hy y10
                      have a0 := DD.out.2.1.c0
                      have a1 := DD.out.2.1.c1
                      have a2 := DD.out.2.1.c2
                      have f0 := DD.out.1.free 0
                      have f1 := (DD.out.1.set0 n1).free 1
                      have f2 := ((DD.out.1.set0 n1).set1 n2).free 2
                      have b0 := DD.out.1.c0
                      have b1 := (DD.out.1.set0 n1).c1
                      have b2 := ((DD.out.1.set0 n1).set1 n2).c2
                      go_wp2
                      clear a0 a1 a2 f0 f1 f2 b0 b1 b2
                      have hbx := ((DD.out.1.set0 n1).set1 n2).set2 ⟨#[]⟩
                      have r0 := hbx.c0
                      have r1 := hbx.c1
                      have r2 := hbx.c2
                      refine bodyPost_ret (v := .tuple #[.agg #[.int .i64 n1, .int .i64 n2, .string ⟨#[]⟩], .int .i64 ((j : Nat) : Int), .bool false]) (by simp [results, Tryd.results32, go_sem, r0, r1, r2]) rfl ?_
                      refine ⟨⟨⟨n1, n2, ⟨#[]⟩⟩, by rw [HE.out.1, HE.out.2], fun h => by rw [HE.out.2] at h; cases h⟩, ((DD.out.2.2.setCell (p := ⟨v.heap.size, 0, none⟩) (Nat.le_refl _) _).setCell (p := ⟨v.heap.size, 1, none⟩) (Nat.le_refl _) _).setCell (p := ⟨v.heap.size, 2, none⟩) (Nat.le_refl _) _⟩
                · have t2 : ((x.toNat : Int) == 34) = false := by rw [beq_eq_false_iff_ne]; intro h; exact x34 (UInt8.toNat_inj.1 (by have : (34 : UInt8).toNat = 34 := rfl; omega))
                  by_cases x92 : x = 92
                  · have t5 : ((x.toNat : Int) == 92) = true := by rw [x92]; rfl
                    have HZ2 : Hid ((l ++ (qz (92 :: s.data.toList.drop j)).1, k + (qz (92 :: s.data.toList.drop j)).2.1, (qz (92 :: s.data.toList.drop j)).2.2) = (T, q2 + 1 + N, o3)) := by
                      have h4 := HZ.out
                      rw [drop_at hx, x92, hj] at h4
                      exact h4
                    clear HZ hx x92 x34 x10
                    have BAD : Hid (escC s j = none → Q = j ∧ K = false) := fun h => by
                      have h4 := HZ2.out
                      rw [qz_none h] at h4
                      simp only [Prod.mk.injEq] at h4
                      have h5 := HQ.out
                      rw [← h4.2.2, Bool.false_and, if_neg Bool.false_ne_true] at h5
                      simp only [Prod.mk.injEq] at h5
                      exact ⟨by omega, h5.2.2.symm⟩
                    have GOOD : Hid (∀ z, escC s j = some z → (l ++ [z] ++ (qz (s.data.toList.drop (j + 1))).1, j + 1 + (qz (s.data.toList.drop (j + 1))).2.1, (qz (s.data.toList.drop (j + 1))).2.2) = (T, q2 + 1 + N, o3)) := fun z h => by
                      have h4 := HZ2.out
                      rw [qz_some h] at h4
                      simp only [Prod.mk.injEq] at h4 ⊢
                      refine ⟨by rw [← h4.1]; simp, by omega, h4.2.2⟩
                    cases hy : s.data.toList[j]? with
                    | none =>
                      have hje : j = s.size := by have := List.getElem?_eq_none_iff.1 hy; omega
                      have t3 : ((j : Int) == (s.size : Int)) = true := by rw [beq_iff_eq]; omega
                      have HE : Hid (Q = j ∧ K = false) := BAD.out (by unfold escC; rw [isAt_end hy, isAt_end hy, isAt_end hy]; rfl)
                      clear HZ2 HQ BAD GOOD hy hje
                      have a0 := DD.out.2.1.c0
                      have a1 := DD.out.2.1.c1
                      have a2 := DD.out.2.1.c2
                      have f0 := DD.out.1.free 0
                      have f1 := (DD.out.1.set0 n1).free 1
                      have f2 := ((DD.out.1.set0 n1).set1 n2).free 2
                      have b0 := DD.out.1.c0
                      have b1 := (DD.out.1.set0 n1).c1
                      have b2 := ((DD.out.1.set0 n1).set1 n2).c2
                      go_wp2
                      clear a0 a1 a2 f0 f1 f2 b0 b1 b2
                      have hbx := ((DD.out.1.set0 n1).set1 n2).set2 ⟨#[]⟩
                      have r0 := hbx.c0
                      have r1 := hbx.c1
                      have r2 := hbx.c2
                      refine bodyPost_ret (v := .tuple #[.agg #[.int .i64 n1, .int .i64 n2, .string ⟨#[]⟩], .int .i64 ((j : Nat) : Int), .bool false]) (by simp [results, Tryd.results32, go_sem, r0, r1, r2]) rfl ?_
                      refine ⟨⟨⟨n1, n2, ⟨#[]⟩⟩, by rw [HE.out.1, HE.out.2], fun h => by rw [HE.out.2] at h; cases h⟩, ((DD.out.2.2.setCell (p := ⟨v.heap.size, 0, none⟩) (Nat.le_refl _) _).setCell (p := ⟨v.heap.size, 1, none⟩) (Nat.le_refl _) _).setCell (p := ⟨v.heap.size, 2, none⟩) (Nat.le_refl _) _⟩
                    | some y =>
                      have hjl : j < s.size := by have := (List.getElem?_eq_some_iff.1 hy).1; omega
                      have t3 : ((j : Int) == (s.size : Int)) = false := by rw [beq_eq_false_iff_ne]; omega
                      have hjl' : (j : Int) < (s.size : Int) := by omega
                      have hsy : s[j]'hjl = y := by
                        have := (List.getElem?_eq_some_iff.1 hy).2
                        rw [← this]; rfl
                      by_cases y34 : y = 34
                      · have s1 : ((y.toNat : Int) != 34) = false := by rw [y34]; rfl
                        have s3 : ((y.toNat : Int) == 110) = false := by rw [y34]; rfl
                        have HG := GOOD.out y (by unfold escC; rw [isAt_of hy, decide_eq_true y34, y34]; rfl)
                        have HN : Hid ((l ++ [y] ++ (qz (s.data.toList.drop (j + 1))).1, j + 1 + (qz (s.data.toList.drop (j + 1))).2.1, (qz (s.data.toList.drop (j + 1))).2.2) = (T, q2 + 1 + N, o3)) := HG
                        clear HZ2 BAD GOOD hy y34 HG
                        go_wp2_with (at_builtin; (refine wpList_append_own_any _ rfl _ _ 59 rfl v.heap.size 5 i0 (.int .u8 0) 1 1 Tryd.underlying59 hi hz0 hz1 hz2 rfl (by decide) _ _ _ rfl (HO.out.alloc _) (some ⟨wr.heap.size, 0, none⟩) 1 1 (bc [y]) rfl (by rfl) (fun h => by cases h) (fun ad had => by cases had; exact cells_new wr (bc [y]) 5) (bc_one _) (by unfold maxLen; omega) (by omega) (by have := DD.out.2.2.size; simp; omega) ?_); intro v9 w9 hown9 hgrow9; have D9 : Hid (Box w9 v.heap.size 0 0 ⟨#[]⟩ ∧ Box w9 (v.heap.size + 1) n1 n2 ⟨#[]⟩ ∧ Below v.heap.size v w9) := ⟨(DD.out.1.alloc _).grown hgrow9 (own_ne_box HO.out DD.out.1 (by decide)), (DD.out.2.1.alloc _).grown hgrow9 (own_ne_box HO.out DD.out.2.1 (by decide)), (DD.out.2.2.alloc DD.out.2.2.size _).grown hgrow9 (by have := DD.out.2.2.size; simp; omega) (fun g h => (HO.out.lt g h).1)⟩; have O9 : Hid (w9.ownsRow v.heap.size 5 1 v9 (l ++ [y]).length (bc (l ++ [y]))) := (by unfold Hid; rw [bc_append, List.length_append]; exact hown9); clear hown9 hgrow9)
                        go_roundg (s.size - (j + 1))
                        case measure => omega
                        case rel => exact ⟨j + 1, l ++ [y], rfl, by omega, by simp only [List.length_append, List.length_cons, List.length_nil]; omega, by go_num, HN.out, O9.out, D9.out⟩
                      · have s1 : ((y.toNat : Int) != 34) = true := by rw [bne_iff_ne]; intro h; exact y34 (UInt8.toNat_inj.1 (by have : (34 : UInt8).toNat = 34 := rfl; omega))
                        by_cases y92 : y = 92
                        · have s2 : ((y.toNat : Int) != 92) = false := by rw [y92]; rfl
                          have s3 : ((y.toNat : Int) == 110) = false := by rw [y92]; rfl
                          have HG := GOOD.out y (by unfold escC; rw [isAt_of hy, isAt_of hy, decide_eq_false y34, decide_eq_true y92, y92]; rfl)
                          have HN : Hid ((l ++ [y] ++ (qz (s.data.toList.drop (j + 1))).1, j + 1 + (qz (s.data.toList.drop (j + 1))).2.1, (qz (s.data.toList.drop (j + 1))).2.2) = (T, q2 + 1 + N, o3)) := HG
                          clear HZ2 BAD GOOD hy y34 y92 HG
                          go_wp2_with (at_builtin; (refine wpList_append_own_any _ rfl _ _ 59 rfl v.heap.size 5 i0 (.int .u8 0) 1 1 Tryd.underlying59 hi hz0 hz1 hz2 rfl (by decide) _ _ _ rfl (HO.out.alloc _) (some ⟨wr.heap.size, 0, none⟩) 1 1 (bc [y]) rfl (by rfl) (fun h => by cases h) (fun ad had => by cases had; exact cells_new wr (bc [y]) 5) (bc_one _) (by unfold maxLen; omega) (by omega) (by have := DD.out.2.2.size; simp; omega) ?_); intro v9 w9 hown9 hgrow9; have D9 : Hid (Box w9 v.heap.size 0 0 ⟨#[]⟩ ∧ Box w9 (v.heap.size + 1) n1 n2 ⟨#[]⟩ ∧ Below v.heap.size v w9) := ⟨(DD.out.1.alloc _).grown hgrow9 (own_ne_box HO.out DD.out.1 (by decide)), (DD.out.2.1.alloc _).grown hgrow9 (own_ne_box HO.out DD.out.2.1 (by decide)), (DD.out.2.2.alloc DD.out.2.2.size _).grown hgrow9 (by have := DD.out.2.2.size; simp; omega) (fun g h => (HO.out.lt g h).1)⟩; have O9 : Hid (w9.ownsRow v.heap.size 5 1 v9 (l ++ [y]).length (bc (l ++ [y]))) := (by unfold Hid; rw [bc_append, List.length_append]; exact hown9); clear hown9 hgrow9)
                          go_roundg (s.size - (j + 1))
                          case measure => omega
                          case rel => exact ⟨j + 1, l ++ [y], rfl, by omega, by simp only [List.length_append, List.length_cons, List.length_nil]; omega, by go_num, HN.out, O9.out, D9.out⟩
                        · have s2 : ((y.toNat : Int) != 92) = true := by rw [bne_iff_ne]; intro h; exact y92 (UInt8.toNat_inj.1 (by have : (92 : UInt8).toNat = 92 := rfl; omega))
                          by_cases y110 : y = 110
                          · have s3 : ((y.toNat : Int) == 110) = true := by rw [y110]; rfl
                            have s4 : ((y.toNat : Int) != 110) = false := by rw [y110]; rfl
                            have HG := GOOD.out 10 (by unfold escC; rw [isAt_of hy, isAt_of hy, isAt_of hy, decide_eq_false y34, decide_eq_false y92, decide_eq_true y110]; rfl)
                            have HN : Hid ((l ++ [10] ++ (qz (s.data.toList.drop (j + 1))).1, j + 1 + (qz (s.data.toList.drop (j + 1))).2.1, (qz (s.data.toList.drop (j + 1))).2.2) = (T, q2 + 1 + N, o3)) := HG
                            clear HZ2 BAD GOOD hy y34 y92 y110 HG
                            go_wp2_with (at_builtin; (refine wpList_append_own_any _ rfl _ _ 59 rfl v.heap.size 5 i0 (.int .u8 0) 1 1 Tryd.underlying59 hi hz0 hz1 hz2 rfl (by decide) _ _ _ rfl (HO.out.alloc _) (some ⟨wr.heap.size, 0, none⟩) 1 1 (bc [10]) rfl (by rfl) (fun h => by cases h) (fun ad had => by cases had; exact cells_new wr (bc [10]) 5) (bc_one _) (by unfold maxLen; omega) (by omega) (by have := DD.out.2.2.size; simp; omega) ?_); intro v9 w9 hown9 hgrow9; have D9 : Hid (Box w9 v.heap.size 0 0 ⟨#[]⟩ ∧ Box w9 (v.heap.size + 1) n1 n2 ⟨#[]⟩ ∧ Below v.heap.size v w9) := ⟨(DD.out.1.alloc _).grown hgrow9 (own_ne_box HO.out DD.out.1 (by decide)), (DD.out.2.1.alloc _).grown hgrow9 (own_ne_box HO.out DD.out.2.1 (by decide)), (DD.out.2.2.alloc DD.out.2.2.size _).grown hgrow9 (by have := DD.out.2.2.size; simp; omega) (fun g h => (HO.out.lt g h).1)⟩; have O9 : Hid (w9.ownsRow v.heap.size 5 1 v9 (l ++ [10]).length (bc (l ++ [10]))) := (by unfold Hid; rw [bc_append, List.length_append]; exact hown9); clear hown9 hgrow9)
                            go_roundg (s.size - (j + 1))
                            case measure => omega
                            case rel => exact ⟨j + 1, l ++ [10], rfl, by omega, by simp only [List.length_append, List.length_cons, List.length_nil]; omega, by go_num, HN.out, O9.out, D9.out⟩
                          · have s3 : ((y.toNat : Int) != 110) = true := by rw [bne_iff_ne]; intro h; exact y110 (UInt8.toNat_inj.1 (by have : (110 : UInt8).toNat = 110 := rfl; omega))
                            have HE : Hid (Q = j ∧ K = false) := BAD.out (by unfold escC; rw [isAt_of hy, isAt_of hy, isAt_of hy, decide_eq_false y34, decide_eq_false y92, decide_eq_false y110]; rfl)
                            clear HZ2 HQ BAD GOOD hy y34 y92 y110
                            have a0 := DD.out.2.1.c0
                            have a1 := DD.out.2.1.c1
                            have a2 := DD.out.2.1.c2
                            have f0 := DD.out.1.free 0
                            have f1 := (DD.out.1.set0 n1).free 1
                            have f2 := ((DD.out.1.set0 n1).set1 n2).free 2
                            have b0 := DD.out.1.c0
                            have b1 := (DD.out.1.set0 n1).c1
                            have b2 := ((DD.out.1.set0 n1).set1 n2).c2
                            go_wp2
                            clear a0 a1 a2 f0 f1 f2 b0 b1 b2
                            have hbx := ((DD.out.1.set0 n1).set1 n2).set2 ⟨#[]⟩
                            have r0 := hbx.c0
                            have r1 := hbx.c1
                            have r2 := hbx.c2
                            refine bodyPost_ret (v := .tuple #[.agg #[.int .i64 n1, .int .i64 n2, .string ⟨#[]⟩], .int .i64 ((j : Nat) : Int), .bool false]) (by simp [results, Tryd.results32, go_sem, r0, r1, r2]) rfl ?_
                            refine ⟨⟨⟨n1, n2, ⟨#[]⟩⟩, by rw [HE.out.1, HE.out.2], fun h => by rw [HE.out.2] at h; cases h⟩, ((DD.out.2.2.setCell (p := ⟨v.heap.size, 0, none⟩) (Nat.le_refl _) _).setCell (p := ⟨v.heap.size, 1, none⟩) (Nat.le_refl _) _).setCell (p := ⟨v.heap.size, 2, none⟩) (Nat.le_refl _) _⟩
                  · have t5 : ((x.toNat : Int) == 92) = false := by rw [beq_eq_false_iff_ne]; intro h; exact x92 (UInt8.toNat_inj.1 (by have : (92 : UInt8).toNat = 92 := rfl; omega))
                    have HN : Hid ((l ++ [x] ++ (qz (s.data.toList.drop j)).1, j + (qz (s.data.toList.drop j)).2.1, (qz (s.data.toList.drop j)).2.2) = (T, q2 + 1 + N, o3)) := by
                      have h4 := HZ.out
                      rw [drop_at hx, qz_byte _ x34 x10 x92, hj] at h4
                      unfold Hid
                      simp only [Prod.mk.injEq] at h4 ⊢
                      refine ⟨by rw [← h4.1]; simp, by omega, h4.2.2⟩
                    clear HZ hx x10 x34 x92
                    go_wp2_with (at_builtin; (refine wpList_append_own_any _ rfl _ _ 59 rfl v.heap.size 5 i0 (.int .u8 0) 1 1 Tryd.underlying59 hi hz0 hz1 hz2 rfl (by decide) _ _ _ rfl (HO.out.alloc _) (some ⟨wr.heap.size, 0, none⟩) 1 1 (bc [x]) rfl (by rfl) (fun h => by cases h) (fun ad had => by cases had; exact cells_new wr (bc [x]) 5) (bc_one _) (by unfold maxLen; omega) (by omega) (by have := DD.out.2.2.size; simp; omega) ?_); intro v9 w9 hown9 hgrow9; have D9 : Hid (Box w9 v.heap.size 0 0 ⟨#[]⟩ ∧ Box w9 (v.heap.size + 1) n1 n2 ⟨#[]⟩ ∧ Below v.heap.size v w9) := ⟨(DD.out.1.alloc _).grown hgrow9 (own_ne_box HO.out DD.out.1 (by decide)), (DD.out.2.1.alloc _).grown hgrow9 (own_ne_box HO.out DD.out.2.1 (by decide)), (DD.out.2.2.alloc DD.out.2.2.size _).grown hgrow9 (by have := DD.out.2.2.size; simp; omega) (fun g h => (HO.out.lt g h).1)⟩; have O9 : Hid (w9.ownsRow v.heap.size 5 1 v9 (l ++ [x]).length (bc (l ++ [x]))) := (by unfold Hid; rw [bc_append, List.length_append]; exact hown9); clear hown9 hgrow9)
                    go_roundg (s.size - j)
                    case measure => omega
                    case rel => exact ⟨j, l ++ [x], rfl, by omega, by simp only [List.length_append, List.length_cons, List.length_nil]; omega, by go_num, HN.out, O9.out, D9.out⟩
        · have t1 : ((x.toNat : Int) == 34) = false := by rw [beq_eq_false_iff_ne]; intro h; exact x34 (UInt8.toNat_inj.1 (by have : (34 : UInt8).toNat = 34 := rfl; omega))
          have HE : Hid (Q = q2 ∧ K = false) := by
            rw [isAt_of hx, decide_eq_false x34] at hq
            simp only [Bool.false_eq_true, if_false, if_true, Prod.mk.injEq] at hq
            exact ⟨hq.2.1.symm, hq.2.2.symm⟩
          clear hq hx x34
          go_enter Tryd.func32, Tryd.ntmps32
          go_wp2_with (first
            | (go_at_call 62; (with_reducible refine (T1.out _).mono ?_); rintro r w1 ⟨rfl, hb⟩; have HB1 : Hid (Below v.heap.size v w1) := HB0.out.trans (hb.mono HB0.out.size); have Y1 : Hid (Box w1 v.heap.size 0 0 ⟨#[]⟩ ∧ Box w1 (v.heap.size + 1) 0 0 ⟨#[]⟩) := ⟨HX0.out.1.below hb HX0.out.1.lt, HX0.out.2.below hb HX0.out.2.lt⟩; have x0 := Y1.out.2.free 0; have x1 := Y1.out.2.c0; obtain ⟨u1, hu1⟩ : ∃ u, w1.setCell ⟨v.heap.size + 1, 0, none⟩ (.int .i64 n1) = u := ⟨_, rfl⟩; have D1 : Hid (Box u1 v.heap.size 0 0 ⟨#[]⟩ ∧ Box u1 (v.heap.size + 1) n1 0 ⟨#[]⟩ ∧ Below v.heap.size v u1) := (by rw [← hu1]; exact ⟨box_other Y1.out.1 ⟨v.heap.size + 1, 0, none⟩ (by show v.heap.size ≠ v.heap.size + 1; omega) _, Y1.out.2.set0 n1, HB1.out.setCell (p := ⟨v.heap.size + 1, 0, none⟩) (by show v.heap.size ≤ v.heap.size + 1; omega) _⟩); clear hb)
            | (go_at_call 62; (with_reducible refine (T2.out _).mono ?_); rintro r w2 ⟨rfl, hb⟩; have HB2 : Hid (Below v.heap.size v w2) := D1.out.2.2.trans (hb.mono D1.out.2.2.size); have Y2 : Hid (Box w2 v.heap.size 0 0 ⟨#[]⟩ ∧ Box w2 (v.heap.size + 1) n1 0 ⟨#[]⟩) := ⟨D1.out.1.below hb D1.out.1.lt, D1.out.2.1.below hb D1.out.2.1.lt⟩; have z0 := Y2.out.2.free 1; have z1 := Y2.out.2.c1; obtain ⟨u2, hu2⟩ : ∃ u, w2.setCell ⟨v.heap.size + 1, 1, none⟩ (.int .i64 n2) = u := ⟨_, rfl⟩; have D2 : Hid (Box u2 v.heap.size 0 0 ⟨#[]⟩ ∧ Box u2 (v.heap.size + 1) n1 n2 ⟨#[]⟩ ∧ Below v.heap.size v u2) := (by rw [← hu2]; exact ⟨box_other Y2.out.1 ⟨v.heap.size + 1, 1, none⟩ (by show v.heap.size ≠ v.heap.size + 1; omega) _, Y2.out.2.set1 n2, HB2.out.setCell (p := ⟨v.heap.size + 1, 1, none⟩) (by show v.heap.size ≤ v.heap.size + 1; omega) _⟩); clear hb; have a0 := D2.out.2.1.c0; have a1 := D2.out.2.1.c1; have a2 := D2.out.2.1.c2; have f0 := D2.out.1.free 0; have f1 := (D2.out.1.set0 n1).free 1; have f2 := ((D2.out.1.set0 n1).set1 n2).free 2; have b0 := D2.out.1.c0; have b1 := (D2.out.1.set0 n1).c1; have b2 := ((D2.out.1.set0 n1).set1 n2).c2))
          clear a0 a1 a2 f0 f1 f2 b0 b1 b2
          have hbx := ((D2.out.1.set0 n1).set1 n2).set2 ⟨#[]⟩
          have r0 := hbx.c0
          have r1 := hbx.c1
          have r2 := hbx.c2
          refine bodyPost_ret (v := .tuple #[.agg #[.int .i64 n1, .int .i64 n2, .string ⟨#[]⟩], .int .i64 (q2 : Nat), .bool false]) (by simp [results, Tryd.results32, go_sem, r0, r1, r2]) rfl ?_
          refine ⟨⟨⟨n1, n2, ⟨#[]⟩⟩, by rw [HE.out.1, HE.out.2], fun h => by rw [HE.out.2] at h; cases h⟩, ((D2.out.2.2.setCell (p := ⟨v.heap.size, 0, none⟩) (Nat.le_refl _) _).setCell (p := ⟨v.heap.size, 1, none⟩) (Nat.le_refl _) _).setCell (p := ⟨v.heap.size, 2, none⟩) (Nat.le_refl _) _⟩
end Go.Proofs.YteolfolkolpehaaDoor
