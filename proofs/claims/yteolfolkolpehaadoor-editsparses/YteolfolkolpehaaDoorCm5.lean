import Derived.Test.YteolfolkolpehaaDoorCm4
import Derived.Test.YteolfolkolpehaaDoorIv1
import Derived.Test.YteolfolkolpehaaDoorAp2
namespace Go.Proofs.YteolfolkolpehaaDoor
open Go.ChangeShapes Go.WideShapes Go.ChangeAt Go.RowKit
set_option linter.unusedVariables false

/-- a slice of edits with its room -/
def EdsC (w : World) (a : Option Addr) (c : Nat) (xs : List Ed) : Prop := xs = [] ∨ ∃ b o, a = some ⟨b, o, none⟩ ∧ xs.length ≤ c ∧ Eds w b o xs

theorem EdsC.all {w : World} {a : Option Addr} {c : Nat} {xs : List Ed} (h : EdsC w a c xs) : EdsA w a xs := by
  rcases h with h | ⟨b, o, ha, _, h⟩
  · exact .inl h
  · exact .inr ⟨b, o, ha, h⟩
theorem EdsA.room {w : World} {a : Option Addr} {c : Nat} {xs : List Ed} (h : EdsA w a xs) (hc : xs.length ≤ c) : EdsC w a c xs := by
  rcases h with h | ⟨b, o, ha, h⟩
  · exact .inl h
  · exact .inr ⟨b, o, ha, hc, h⟩
theorem EdsC.cap {w : World} {a : Option Addr} {c : Nat} {xs : List Ed} (h : EdsC w a c xs) : xs.length ≤ c := by
  rcases h with h | ⟨b, o, ha, hc, h⟩
  · rw [h]; exact Nat.zero_le _
  · exact hc
theorem EdsC.below {w w' : World} {a : Option Addr} {c : Nat} {xs : List Ed} (h : EdsC w a c xs) (hb : Below w.heap.size w w') : EdsC w' a c xs := by
  rcases h with h | ⟨b, o, ha, hc, h⟩
  · exact .inl h
  · exact .inr ⟨b, o, ha, hc, h.below hb h.1⟩
theorem Eds.front {w : World} {b o : Nat} {xs : List Ed} (h : Eds w b o xs) (i : Nat) : Eds w b o (xs.take i) := by
  have : Eds w b o (xs.take i ++ xs.drop i) := by rw [List.take_append_drop]; exact h
  exact this.pre
theorem Eds.drop {w : World} {b o : Nat} {xs : List Ed} (h : Eds w b o xs) (i : Nat) : Eds w b (o + i * 3) (xs.drop i) := by
  refine ⟨h.1, fun k e he => ?_⟩
  rw [List.getElem?_drop] at he
  have := h.2 (i + k) e he
  rw [show o + i * 3 + k * 3 = o + (i + k) * 3 by omega]
  exact this
theorem EdsA.take {w : World} {a : Option Addr} {xs : List Ed} (h : EdsA w a xs) (i : Nat) : EdsA w a (xs.take i) := by
  rcases h with h | ⟨b, o, ha, h⟩
  · rw [h]; exact .inl (by simp)
  · exact .inr ⟨b, o, ha, h.front i⟩

/-- where a slice lies behind its first elements -/
def cutA (a : Option Addr) (c i : Nat) : Option Addr := if c = i then a else Option.map (fun x => x.add (i * 3)) a

theorem EdsC.drop {w : World} {a : Option Addr} {c : Nat} {xs : List Ed} (h : EdsC w a c xs) (i : Nat) (hi : i ≤ xs.length) : EdsC w (cutA a c i) (c - i) (xs.drop i) := by
  rcases h with h1 | ⟨b, o, ha, hc, h⟩
  · subst h1
    exact .inl (by simp)
  · subst ha
    by_cases h0 : c = i
    · refine .inr ⟨b, o, by simp [cutA, h0], ?_, ?_⟩
      · rw [List.length_drop]; omega
      · rw [List.drop_eq_nil_of_le (by omega)]; exact ⟨h.1, fun k e he => by simp at he⟩
    · refine .inr ⟨b, o + i * 3, ?_, ?_, h.drop i⟩
      · rw [cutA, if_neg h0]
        show some ((⟨b, o, none⟩ : Addr).add (i * 3)) = _
        unfold Addr.add; by_cases hz : i * 3 = 0 <;> simp [hz]
      · rw [List.length_drop]; omega

theorem mem_tots {e : Ed} {xs : List Ed} (h : e ∈ xs) : e.s.size ≤ tots xs := by
  induction xs with
  | nil => cases h
  | cons y z ih =>
    rw [tots]
    rcases List.mem_cons.1 h with rfl | h
    · omega
    · have := ih h; omega
theorem tots_take (xs : List Ed) (i : Nat) : tots (xs.take i) ≤ tots xs := by
  induction xs generalizing i with
  | nil => simp
  | cons e r ih =>
    cases i with
    | zero => simp [tots]
    | succ i => have := ih i; simp only [List.take_succ_cons, tots]; omega
theorem tots_drop (xs : List Ed) (i : Nat) : tots (xs.drop i) ≤ tots xs := by
  induction xs generalizing i with
  | nil => simp
  | cons e r ih =>
    cases i with
    | zero => simp
    | succ i => have := ih i; simp only [List.drop_succ_cons, tots]; omega

theorem EdsA.low {w : World} {a : Option Addr} {xs : List Ed} (h : EdsA w a xs) : EdsL w.heap.size w a xs := by
  rcases h with h | ⟨b, o, ha, h⟩
  · exact .inl h
  · exact .inr ⟨b, o, ha, h.1, h⟩
theorem EdsC.drew {w : World} {a : Option Addr} {c : Nat} {xs : List Ed} (h : EdsC w a c xs) : EdsC w.drew a c xs := h

theorem grw_app2 (xs ys : List Ed) : grw (xs ++ ys) = grw xs + grw ys := by
  induction xs with
  | nil => simp [grw]
  | cons e r ih => simp only [List.cons_append, grw, ih]; omega
theorem grw_cut (xs : List Ed) (k i : Nat) : grw (xs.take k) + grw ((xs.drop k).take i) = grw (xs.take (k + i)) := by
  rw [List.take_add, grw_app2]

theorem growth_all (a : Option Addr) (cap : Nat) (xs : List Ed) (w : World) (h : EdsA w a xs) (hl : xs.length ≤ 65536) (hF : ∀ e ∈ xs, EdFit e) (hK : ∀ e ∈ xs, 0 ≤ e.f ∧ e.f ≤ e.t ∧ e.t ≤ 4611686018427387904) :
    Calls Tryd.prog 34 #[.slice a xs.length cap] w fun e w' => e = .returned (.int .i64 (wrap64 (grw xs))) ∧ Below w.heap.size w w' := by
  rcases h with rfl | ⟨b, o, rfl, h⟩
  · refine (growth_nil a cap w).mono ?_
    rintro e w' ⟨rfl, rfl⟩
    exact ⟨by rw [grw, wrap64_zero], Below.refl _ _⟩
  · exact growth_any b o cap xs w h (by unfold maxLen; omega) hF hK

set_option maxRecDepth 1000000 in
set_option maxHeartbeats 2000000 in
theorem groups_any (M : Int) (a1 a2 a3 : Option Addr) (c1 c2 c3 : Nat) (put a b : List Ed) (w : World) (h1 : EdsC w a1 c1 put) (h2 : EdsC w a2 c2 a) (h3 : EdsC w a3 c3 b) (hl1 : put.length = a.length) (hl2 : a.length ≤ 65536) (hl3 : b.length ≤ 65536)
    (hM : 0 ≤ M ∧ M ≤ 4611686018428436480) (hP : ∀ e ∈ put, Pt e) (hPN : ∀ e ∈ put, Nm M e) (hBt : ∀ e ∈ b, Bt e) (hBN : ∀ e ∈ b, Nm M e) (hF : ∀ e ∈ a, EdFit e) (hK : ∀ e ∈ a, 0 ≤ e.f ∧ e.f ≤ e.t ∧ e.t ≤ 4611686018427387904) (hT : tots put ≤ 1048576)
    (hG : ∀ k, -4611686018427387904 ≤ grw (a.take k) ∧ grw (a.take k) ≤ 1048576 ∧ M - grw (a.take k) ≤ 4611686018428436480) :
    Calls Tryd.prog 40 #[.slice a1 put.length c1, .slice a2 a.length c2, .slice a3 b.length c3] w fun e w' => ∃ v, e = .returned v ∧ w'.ownsRow w.heap.size 45 3 v (gr (put.length + b.length) put a b 0).length (flat (gr (put.length + b.length) put a b 0)) ∧ Below w.heap.size w w' := by
  obtain ⟨i0, hi0, hz0, hz1, hz2⟩ := info_parts infoEd
  have H1 : Hid (EdsC w a1 c1 put) := h1
  have H2 : Hid (EdsC w a2 c2 a) := h2
  have H3 : Hid (EdsC w a3 c3 b) := h3
  have HP : Hid (∀ e ∈ put, Pt e) := hP
  have HPN : Hid (∀ e ∈ put, Nm M e) := hPN
  have HBt : Hid (∀ e ∈ b, Bt e) := hBt
  have HBN : Hid (∀ e ∈ b, Nm M e) := hBN
  have HF : Hid (∀ e ∈ a, EdFit e) := hF
  have HK : Hid (∀ e ∈ a, 0 ≤ e.f ∧ e.f ≤ e.t ∧ e.t ≤ 4611686018427387904) := hK
  have HG : Hid (∀ k, -4611686018427387904 ≤ grw (a.take k) ∧ grw (a.take k) ≤ 1048576 ∧ M - grw (a.take k) ≤ 4611686018428436480) := hG
  have HL1 : Hid (put.length = a.length) := hl1
  have hl1a : put.length ≤ 65536 := by omega
  obtain ⟨hM0, hM1⟩ := hM
  clear h1 h2 h3 hP hPN hBt hBN hF hK hG hl1
  go_enter Tryd.func40, Tryd.ntmps40
  go_wp2
  go_loopg [0, 1, 2, 7, 8] (put.length + b.length) (fun gk sp sa sb sv sm wr => ∃ (k l : Nat) (ax ay az : Option Addr) (cx cy cz : Nat) (p : List Ed), gk = (put.drop k).length + (b.drop l).length ∧ sp = .slice ax (put.drop k).length cx ∧ sa = .slice ay (a.drop k).length cy ∧ sb = .slice az (b.drop l).length cz ∧ sm = .int .i64 (grw (a.take k)) ∧ k ≤ put.length ∧ l ≤ b.length ∧ EdsC w ax cx (put.drop k) ∧ EdsC w ay cy (a.drop k) ∧ EdsC w az cz (b.drop l) ∧ Below w.heap.size w wr ∧ wr.ownsRow w.heap.size 45 3 sv p.length (flat p) ∧ p.length ≤ k + l ∧ p ++ gr ((put.drop k).length + (b.drop l).length) (put.drop k) (a.drop k) (b.drop l) (grw (a.take k)) = gr (put.length + b.length) put a b 0)
  case atStart => exact ⟨0, 0, a1, a2, a3, c1, c2, c3, [], by simp, by simp, by simp, by simp, by simp [grw], Nat.zero_le _, Nat.zero_le _, by simpa using H1.out, by simpa using H2.out, by simpa using H3.out, Below.refl _ _, World.ownsRow_nil _ _ _ _, Nat.zero_le _, by simp [grw]⟩
  case round =>
    obtain ⟨k, l, ax, ay, az, cx, cy, cz, p, rfl, rfl, rfl, rfl, rfl, hk, hl, hX, hY, hZ, hbel, hown, hpl, hgr⟩ := hrel
    have hsz := hbel.size
    have hlt1 : Hid (∀ k, u7.ownBlock = some k → w.heap.size ≤ k ∧ k < wr.heap.size) := hown.lt
    have HO : Hid (wr.ownsRow w.heap.size 45 3 u7 p.length (flat p)) := hown
    have e1 : (put.drop k).length = put.length - k := List.length_drop
    have e2 : (a.drop k).length = put.length - k := by rw [List.length_drop, HL1.out]
    have e3 : (b.drop l).length = b.length - l := List.length_drop
    obtain ⟨x, hxe⟩ : ∃ x, put.drop k = x := ⟨_, rfl⟩
    obtain ⟨y, hye⟩ : ∃ y, a.drop k = y := ⟨_, rfl⟩
    obtain ⟨z, hze⟩ : ∃ z, b.drop l = z := ⟨_, rfl⟩
    obtain ⟨m, hme⟩ : ∃ m, grw (a.take k) = m := ⟨_, rfl⟩
    rw [hxe] at hX hgr e1
    rw [hye] at hY hgr e2
    rw [hze] at hZ hgr e3
    rw [hme] at hgr
    rw [hxe, hye, hze, hme]
    have HX : Hid (EdsC w ax cx x) := hX
    have HY : Hid (EdsC w ay cy y) := hY
    have HZ : Hid (EdsC w az cz z) := hZ
    have HXE : Hid (put.drop k = x) := hxe
    have HYE : Hid (a.drop k = y) := hye
    have HZE : Hid (b.drop l = z) := hze
    have HME : Hid (grw (a.take k) = m) := hme
    have HGR : Hid (p ++ gr (x.length + z.length) x y z m = gr (put.length + b.length) put a b 0) := hgr
    have HB : Hid (Below w.heap.size w wr) := hbel
    have hxy : x.length ≤ y.length := by omega
    have hyx : y.length ≤ x.length := by omega
    have hx : x.length ≤ 65536 := by omega
    have hz : z.length ≤ 65536 := by omega
    have xP : Hid (∀ e ∈ x, Pt e) := fun e he => HP.out e (List.mem_of_mem_drop (hxe ▸ he))
    have xN : Hid (∀ e ∈ x, Nm M e) := fun e he => HPN.out e (List.mem_of_mem_drop (hxe ▸ he))
    have zT : Hid (∀ e ∈ z, Bt e) := fun e he => HBt.out e (List.mem_of_mem_drop (hze ▸ he))
    have zN : Hid (∀ e ∈ z, Nm M e) := fun e he => HBN.out e (List.mem_of_mem_drop (hze ▸ he))
    have yF : Hid (∀ e ∈ y, EdFit e) := fun e he => HF.out e (List.mem_of_mem_drop (hye ▸ he))
    have yK : Hid (∀ e ∈ y, 0 ≤ e.f ∧ e.f ≤ e.t ∧ e.t ≤ 4611686018427387904) := fun e he => HK.out e (List.mem_of_mem_drop (hye ▸ he))
    have xT : tots x ≤ 1048576 := by have := tots_drop put k; rw [hxe] at this; omega
    have HE : Hid (x.length = put.length - k ∧ y.length = put.length - k ∧ z.length = b.length - l) := ⟨e1, e2, e3⟩
    obtain ⟨g1, g2, g3⟩ := HG.out k
    rw [hme] at g1 g2 g3
    clear hX hY hZ hxe hye hze hme hgr hown e1 e2 e3
    by_cases hne : 0 < x.length + z.length
    · obtain ⟨lo, hlo⟩ : ∃ lo, low x z = lo := ⟨_, rfl⟩
      obtain ⟨i, j, hi, hr⟩ : ∃ i j hi, rch x z (x.length + z.length) 0 0 lo = (i, j, hi) := ⟨_, _, _, rfl⟩
      obtain ⟨f3, f4, f1, f2, fp, f5, f6⟩ := rch_all x z M hM0 xN.out zN.out hne
      rw [hlo] at f1 f2 f3 f4 fp f5 f6
      rw [hr] at f1 f2 fp f5 f6
      simp only at f1 f2 fp f5 f6
      have HLO : Hid (low x z = lo) := hlo
      have HR : Hid (rch x z (x.length + z.length) 0 0 lo = (i, j, hi)) := hr
      obtain ⟨tx, htx⟩ : ∃ tx : ByteArray, tx = ⟨(wv (x.take i) (z.take j) lo hi).toArray⟩ := ⟨_, rfl⟩
      have HTX : Hid (tx = ⟨(wv (x.take i) (z.take j) lo hi).toArray⟩) := htx
      have HS : Hid (gr (x.length + z.length) x y z m = ⟨lo - m, hi - (m + grw (y.take i)), tx⟩ :: gr ((x.drop i).length + (z.drop j).length) (x.drop i) (y.drop i) (z.drop j) (m + grw (y.take i))) := gr_step hM0 xN.out zN.out hne hlo hr htx
      obtain ⟨gi, hgi⟩ : ∃ gi, grw (y.take i) = gi := ⟨_, rfl⟩
      have hcut := grw_cut a k i
      rw [HYE.out, HME.out, hgi] at hcut
      obtain ⟨g4, g5, g6⟩ := HG.out (k + i)
      rw [← hcut] at g4 g5 g6
      have HCUT : Hid (m + gi = grw (a.take (k + i))) := hcut
      rw [hgi] at HS
      have HGI : Hid (grw (y.take i) = gi) := hgi
      have hwgi : Hid (wrap64 gi = gi) := IntWalk.wrap64_in _ ⟨by omega, by omega⟩
      clear hlo hr htx hgi hcut
      have f7 : y.length ≤ cy := HY.out.cap
      have f8 : x.length ≤ cx := HX.out.cap
      have f9 : z.length ≤ cz := HZ.out.cap
      have l1 : (x.take i).length = i := by rw [List.length_take]; omega
      have l2 : (y.take i).length = i := by rw [List.length_take]; omega
      have l3 : (z.take j).length = j := by rw [List.length_take]; omega
      have L1 : Hid ((x.take i).length = i) := l1
      have L2 : Hid ((y.take i).length = i) := l2
      have L3 : Hid ((z.take j).length = j) := l3
      clear l1 l2 l3
      have hx0 : 0 < x.length ∨ (decide (0 < x.length) = false ∧ 0 < z.length) := by
        by_cases h : 0 < x.length
        · exact .inl h
        · exact .inr ⟨by rw [decide_eq_false_iff_not]; exact h, by omega⟩
      have n1 : (0 : Int) ≤ (i : Int) := by omega
      have n2 : (0 : Int) ≤ (j : Int) := by omega
      have n3 : (i : Int) ≤ (cx : Int) := by omega
      have n4 : (i : Int) ≤ (cy : Int) := by omega
      have n5 : (j : Int) ≤ (cz : Int) := by omega
      have n6 : (i : Int) ≤ (x.length : Int) := by omega
      have n7 : (i : Int) ≤ (y.length : Int) := by omega
      have n8 : (j : Int) ≤ (z.length : Int) := by omega
      rcases hx0 with hx0 | ⟨hx0, hze0⟩
      all_goals
        go_wp2_with fail
        refine (lowest_any ax az cx cz x z _ (HX.out.below HB.out).all (HZ.out.below HB.out).all hne hx hz).mono ?_
        rintro e w1 ⟨rfl, hb1⟩
        rw [HLO.out]
        have HB1 : Hid (Below w.heap.size w w1) := HB.out.trans (hb1.mono hsz)
        have HO1 : Hid (w1.ownsRow w.heap.size 45 3 u7 p.length (flat p)) := ownsRow_below HO.out hb1 (Nat.le_refl _)
        clear hb1
        go_wp2_with fail
        refine (reach_any ax az cx cz x z lo _ (HX.out.below HB1.out).all (HZ.out.below HB1.out).all hx hz (fun e he => by have := xN.out e he; unfold Nm at this; omega)).mono ?_
        rintro e w2 ⟨rfl, hb2⟩
        rw [HR.out]
        have HB2 : Hid (Below w.heap.size w w2) := HB1.out.trans (hb2.mono HB1.out.size)
        have HO2 : Hid (w2.ownsRow w.heap.size 45 3 u7 p.length (flat p)) := ownsRow_below HO1.out hb2 (Nat.le_refl _)
        clear hb2
        go_wp2_with fail
        have hgc := growth_all ay cy (y.take i) w2 ((HY.out.below HB2.out).all.take i) (by rw [L2.out]; omega) (fun e he => yF.out e (List.mem_of_mem_take he)) (fun e he => yK.out e (List.mem_of_mem_take he))
        rw [L2.out, HGI.out, hwgi.out] at hgc
        refine hgc.mono ?_
        clear hgc
        rintro e w3 ⟨rfl, hb3⟩
        have HB3 : Hid (Below w.heap.size w w3) := HB2.out.trans (hb3.mono HB2.out.size)
        have HO3 : Hid (w3.ownsRow w.heap.size 45 3 u7 p.length (flat p)) := ownsRow_below HO2.out hb3 (Nat.le_refl _)
        clear hb3
        go_upto_region 8 with fail
        have hw1 : IntKind.i64.wrap (hi - (m + gi)) = hi - (m + gi) := IntWalk.i64_in _ ⟨by omega, by omega⟩
        have hwc : Hid (∀ w', Below w.heap.size w w' → Calls Tryd.prog 67 #[.slice ax i cx, .slice az j cz, .int .i64 lo, .int .i64 hi] w' fun e w'' => e = .returned (.string tx) ∧ Below w'.heap.size w' w'') := by
          intro w' hb
          have := weave_any ax az cx cz (x.take i) (z.take j) lo hi w' ((HX.out.below hb).all.take i).low ((HZ.out.below hb).all.take j) (by rw [L1.out]; omega) (by rw [L1.out]; omega) (by rw [L3.out]; omega) (fun e he => xP.out e (List.mem_of_mem_take he)) (fun e he => zT.out e (List.mem_of_mem_take he)) ⟨by omega, by omega⟩ ⟨by omega, by omega⟩ (Nat.le_trans (tots_take x i) xT)
          rw [L1.out, L3.out, ← HTX.out] at this
          exact this
        go_region_held3 (fun w' => True)
          (first
            | go_keep
            | trivial)
          ((first
            | (go_at_call 67; refine (hwc.out _ HB3.out.drew).mono ?_; rintro e w4 ⟨rfl, hb4⟩; have HO4 : Hid (w4.ownsRow w.heap.size 45 3 u7 p.length (flat p)) := ownsRow_below (HO3.out.drew) hb4 (Nat.le_refl _); have HB4 : Hid (Below w.heap.size w w4) := (HB3.out.drew).trans (hb4.mono HB3.out.size); clear hb4)
            | (refine step_append_lies _ (by rfl) _ _ _ (by rfl) w.heap.size 45 i0 (.agg #[.int .i64 0, .int .i64 0, .string ⟨#[]⟩]) 3 32 Tryd.underlying22 hi0 hz0 hz1 hz2 rfl (by omega) u7 p.length (flat p) (by rfl) (HO4.out.alloc _) ⟨w4.heap.size, 0, none⟩ 1 1 (flat [⟨lo - m, hi - (m + gi), tx⟩]) (by rfl) (by rfl) (cells_new w4 (flat [⟨lo - m, hi - (m + gi), tx⟩]) 45) (flat_oneCell _) (by omega) (by unfold maxLen; omega) (by omega) (by have := HB4.out.size; simp; omega) (w4.heap.size + 1) (by simp) ?_; intro gg cp w5 hown5 hgrow5 hat hlt5)))
        have hbel5 : Below w.heap.size w w5 := (HB4.out.alloc (HB4.out.size) _).grown hgrow5 (by have := HB4.out.size; simp; omega) (fun k h => (hlt1.out k h).1)
        have HO5 : Hid (w5.ownsRow w.heap.size 45 3 (.slice (some ⟨gg, 0, none⟩) (p.length + 1) cp) (p ++ ([⟨lo - m, hi - (m + gi), tx⟩] : List Ed)).length (flat (p ++ [⟨lo - m, hi - (m + gi), tx⟩]))) := by
          unfold Hid; rw [flat_append, List.length_append]; exact hown5
        have HB5 : Hid (Below w.heap.size w w5) := hbel5
        clear hown5 hgrow5 hbel5 hat hlt5 HO4 HB4 hwc HO1 HO2 HO3 HB1 HB2 HB3
        go_upto_region 9 with fail
        go_quiet (fail)
        obtain ⟨bx, hbx⟩ : ∃ v, (if cx = i then ax else Option.map (fun x => x.add (i * 3)) ax) = v := ⟨_, rfl⟩
        obtain ⟨bY, hby⟩ : ∃ v, (if cy = i then ay else Option.map (fun x => x.add (i * 3)) ay) = v := ⟨_, rfl⟩
        obtain ⟨bz, hbz⟩ : ∃ v, (if cz = j then az else Option.map (fun x => x.add (j * 3)) az) = v := ⟨_, rfl⟩
        rw [hbx, hby, hbz]
        have HX5 : Hid (EdsC w bx (cx - i) (x.drop i)) := by unfold Hid; rw [← hbx]; exact HX.out.drop i f1
        have HY5 : Hid (EdsC w bY (cy - i) (y.drop i)) := by unfold Hid; rw [← hby]; exact HY.out.drop i (by omega)
        have HZ5 : Hid (EdsC w bz (cz - j) (z.drop j)) := by unfold Hid; rw [← hbz]; exact HZ.out.drop j f2
        obtain ⟨E1, E2, E3⟩ := HE.out
        have Q1 : Hid ((put.drop (k + i)).length = x.length - i) := by unfold Hid; rw [List.length_drop]; omega
        have Q2 : Hid ((a.drop (k + i)).length = y.length - i) := by unfold Hid; rw [List.length_drop, ← HL1.out]; omega
        have Q3 : Hid ((b.drop (l + j)).length = z.length - j) := by unfold Hid; rw [List.length_drop]; omega
        have D1 : Hid (put.drop (k + i) = x.drop i) := by unfold Hid; rw [← HXE.out, List.drop_drop]
        have D2 : Hid (a.drop (k + i) = y.drop i) := by unfold Hid; rw [← HYE.out, List.drop_drop]
        have D3 : Hid (b.drop (l + j) = z.drop j) := by unfold Hid; rw [← HZE.out, List.drop_drop]
        have q1 := Q1.out
        have q3 := Q3.out
        have hk2 : k + i ≤ put.length := by omega
        have hl2' : l + j ≤ b.length := by omega
        have hms : (put.drop (k + i)).length + (b.drop (l + j)).length < x.length + z.length := by omega
        clear hbx hby hbz E1 E2 E3 q1 q3
        go_wp2
        go_roundg ((put.drop (k + i)).length + (b.drop (l + j)).length)
        case measure => rw [HXE.out, HZE.out]; exact hms
        case rel =>
          refine ⟨k + i, l + j, bx, bY, bz, cx - i, cy - i, cz - j, p ++ [⟨lo - m, hi - (m + gi), tx⟩], rfl, by rw [Q1.out], by rw [Q2.out], by rw [Q3.out], by rw [HCUT.out], hk2, hl2', ?_, ?_, ?_, ?_, ?_, ?_, ?_⟩
          · rw [D1.out]; exact HX5.out
          · rw [D2.out]; exact HY5.out
          · rw [D3.out]; exact HZ5.out
          · exact below_drewN HB5.out _
          · exact HO5.out
          · rw [List.length_append, List.length_singleton]; omega
          · rw [D1.out, D2.out, D3.out, ← HCUT.out, ← HGR.out, HS.out]; simp
    · have hx0 : decide (0 < x.length) = false := by rw [decide_eq_false_iff_not]; omega
      have hz00 : decide (0 < z.length) = false := by rw [decide_eq_false_iff_not]; omega
      have HEE : Hid (p = gr (put.length + b.length) put a b 0) := by
        unfold Hid
        rw [← HGR.out, List.eq_nil_of_length_eq_zero (show x.length = 0 by omega), List.eq_nil_of_length_eq_zero (show z.length = 0 by omega), gr_nil, List.append_nil]
      go_wp2
      go_ret
      exact ⟨_, rfl, by rw [← HEE.out]; exact HO.out, HB.out⟩
end Go.Proofs.YteolfolkolpehaaDoor
