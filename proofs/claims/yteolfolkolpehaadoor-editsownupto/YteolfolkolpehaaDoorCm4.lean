import Derived.Test.YteolfolkolpehaaDoorNm
import Derived.Test.YteolfolkolpehaaDoorCk
import Derived.Test.YteolfolkolpehaaDoorAp1
import Derived.Test.YteolfolkolpehaaDoorCm3
namespace Go.Proofs.YteolfolkolpehaaDoor
open Go.ChangeShapes Go.WideShapes Go.ChangeAt Go.RowKit
set_option linter.unusedVariables false

set_option maxRecDepth 1000000 in
set_option maxHeartbeats 1000000 in
theorem rkept_any (n x y : Nat) (a : Option Addr) (c : Nat) (w : World) (hn : n ≤ 140737488351232) (hxy : x ≤ y) (hyn : y ≤ n) (h : RnA w a (wh n)) :
    Calls Tryd.prog 63 #[.slice a (wh n).length c, .int .i64 x, .int .i64 y] w fun e w' => ∃ v, e = .returned v ∧ w'.ownsRow w.heap.size 94 4 v (kp x y).length (flatR (kp x y)) ∧ Below w.heap.size w w' := by
  obtain ⟨i0, hi, hz0, hz1, hz2⟩ := info_parts infoRn
  by_cases h0 : n = 0
  · subst h0
    have hk : kp x y = [] := by unfold kp; rw [if_neg (by omega)]
    rw [hk, show (wh 0).length = 0 from rfl]
    go_enter Tryd.func63, Tryd.ntmps63
    go_wp2
    refine wp_loop_rounds 1 ?_
    rw [rounds_succ]
    go_wp2
    go_ret
    exact ⟨_, rfl, World.ownsRow_nil _ _ _ _, Below.refl _ _⟩
  · have hw : wh n = [⟨true, 0, n, ⟨#[]⟩⟩] := by unfold wh; rw [if_neg h0]
    rw [hw] at h ⊢
    rw [List.length_singleton]
    rcases h with h | ⟨b, o, rfl, h⟩
    · cases h
    have hbw := h.1
    have HH : Hid (Rns w b o [⟨true, 0, n, ⟨#[]⟩⟩]) := h
    obtain ⟨c0, c1, c2, c3⟩ := h.2 0 _ rfl
    simp only [Nat.zero_mul, Nat.add_zero] at c0 c1 c2 c3
    clear h hw
    have hne : (((n : Nat) : Int) == 0) = false := by simp; omega
    have hx0 : (0 : Int) ≤ (x : Int) := by omega
    by_cases hlt : x < y
    · have HK : Hid (kp x y = [⟨true, x, y, ⟨#[]⟩⟩]) := by unfold Hid kp; rw [if_pos hlt]
      have hlt' : (x : Int) < (y : Int) := by omega
      go_enter Tryd.func63, Tryd.ntmps63
      go_wp2
      refine wp_loop_rounds 2 ?_
      rw [rounds_succ]
      go_wp2_with fail
      refine (rsize_old 0 n ⟨#[]⟩ _ (by omega) (by omega) (by omega)).mono ?_
      rintro e w1 ⟨rfl, hb1⟩
      obtain ⟨d0, d1, d2, d3⟩ := (HH.out.below hb1 hbw).2 0 _ rfl
      simp only [Nat.zero_mul, Nat.add_zero] at d0 d1 d2 d3
      have e0 : (n : Int) - 0 = n := by omega
      rw [e0]
      go_wp2_with fail
      refine (rpart_old 0 n x y ⟨#[]⟩ _ (by omega) (by omega) (by omega) (by omega) (by omega) (by omega)).mono ?_
      rintro e w2 ⟨rfl, hb2⟩
      rw [Int.zero_add, Int.zero_add]
      have hb12 : Below w.heap.size w w2 := hb1.trans (hb2.mono hb1.size)
      have HB : Hid (Below w.heap.size w w2) := hb12
      have hsz := hb12.size
      have HNW : Hid (∀ j u, (flatR [⟨true, x, y, ⟨#[]⟩⟩])[j]? = some u → (w2.alloc (.cells #[.bool true, .int .i64 x, .int .i64 y, .string ⟨#[]⟩] 94)).cell? ((⟨w2.heap.size, 0, none⟩ : Addr).add j) = some u) := cells_new w2 (flatR [⟨true, x, y, ⟨#[]⟩⟩]) 94
      clear hb1 hb2 hb12 d0 d1 d2 d3 c0 c1 c2 c3
      go_wp2_with (at_builtin; (refine wpList_append_own _ rfl (.tmp 55) (.tmp 63) 74 rfl w.heap.size 94 i0 (.agg #[.bool false, .int .i64 0, .int .i64 0, .string ⟨#[]⟩]) 4 40 Tryd.underlying74 hi hz0 hz1 hz2 rfl (by decide) _ _ _ rfl (World.ownsRow_nil _ _ _ _) ⟨w2.heap.size, 0, none⟩ 1 1 (flatR [⟨true, x, y, ⟨#[]⟩⟩]) rfl rfl HNW.out (flatR_oneCell _) ?_ ?_ ?_ ?_))
      case refine_1 => unfold maxLen; omega
      case refine_2 => omega
      case refine_3 => simp; omega
      intro v4 w4 hown4 hgrow4 _
      have hbel4 : Below w.heap.size w w4 := (HB.out.alloc hsz _).grown hgrow4 (by simp; omega) (fun k h => by cases h)
      have HO4 : Hid (w4.ownsRow w.heap.size 94 4 v4 (kp x y).length (flatR (kp x y))) := by
        unfold Hid; rw [HK.out]; simpa using hown4
      clear hown4 hgrow4 HNW
      go_wp2
      rw [rounds_succ]
      go_wp2
      go_ret
      exact ⟨_, rfl, HO4.out, hbel4⟩
    · have HK : Hid (kp x y = []) := by unfold Hid kp; rw [if_neg hlt]
      have hge : (y : Int) ≤ (x : Int) := by omega
      go_enter Tryd.func63, Tryd.ntmps63
      go_wp2
      refine wp_loop_rounds 2 ?_
      rw [rounds_succ]
      go_wp2_with fail
      refine (rsize_old 0 n ⟨#[]⟩ _ (by omega) (by omega) (by omega)).mono ?_
      rintro e w1 ⟨rfl, hb1⟩
      have e0 : (n : Int) - 0 = n := by omega
      rw [e0]
      go_wp2
      rw [rounds_succ]
      go_wp2
      go_ret
      exact ⟨_, rfl, by rw [HK.out]; exact World.ownsRow_nil _ _ _ _, hb1⟩

set_option maxRecDepth 1000000 in
set_option maxHeartbeats 2000000 in
theorem rdone_any (n b o cap : Nat) (xs : List Ed) (a0 : Option Addr) (c0 : Nat) (w : World) (hn : n ≤ 140737488351232) (hw : RnA w a0 (wh n)) (h : Eds w b o xs) (hl : xs.length ≤ 65536) (hck : chk n 0 xs = 0) :
    Calls Tryd.prog 37 #[.slice a0 (wh n).length c0, .slice (some ⟨b, o, none⟩) xs.length cap] w fun e w' => ∃ v, e = .returned v ∧ w'.ownsRow w.heap.size 94 4 v (dn n 0 xs).length (flatR (dn n 0 xs)) ∧ Below w.heap.size w w' := by
  obtain ⟨i0, hi, hz0, hz1, hz2⟩ := info_parts infoRn
  have HX : Hid (Eds w b o xs) := h
  have HW : Hid (RnA w a0 (wh n)) := hw
  have hbw : b < w.heap.size := h.1
  have HK : Hid (∀ e ∈ xs, 0 ≤ e.f ∧ e.f ≤ e.t ∧ e.t ≤ (n : Int)) := chk_ok hck
  have HCK : Hid (chk n 0 xs = 0) := hck
  obtain ⟨N, hN⟩ : ∃ N, N = (dn n 0 xs).length := ⟨_, rfl⟩
  have hNb : N ≤ 131073 := by have := dn_len n 0 xs; omega
  have HN : Hid (N = (dn n 0 xs).length) := hN
  clear h hw hck hN
  go_enter Tryd.func37, Tryd.ntmps37
  go_wp2
  go_loopg [5, 6, 7] xs.length (fun gk v sa i wr => ∃ (k a : Nat) (p : List Rn) (L : Int), gk = xs.length - k ∧ k ≤ xs.length ∧ i = .int .i64 k ∧ sa = .int .i64 a ∧ a ≤ n ∧ (a : Int) ≤ L ∧ chk n L (xs.drop k) = 0 ∧ Below w.heap.size w wr ∧ wr.ownsRow w.heap.size 94 4 v p.length (flatR p) ∧ p ++ dn n a (xs.drop k) = dn n 0 xs)
  case atStart => exact ⟨0, 0, [], 0, by omega, Nat.zero_le _, rfl, rfl, Nat.zero_le _, by omega, by simpa using HCK.out, Below.refl _ _, World.ownsRow_nil _ _ _ _, by simp⟩
  case round =>
    obtain ⟨k, a, p, L, rfl, hk, rfl, rfl, ha, haL, hck, hbel, hown, hp⟩ := hrel
    have hsz := hbel.size
    have hlt1 : Hid (∀ k, u5.ownBlock = some k → w.heap.size ≤ k ∧ k < wr.heap.size) := hown.lt
    have HO : Hid (wr.ownsRow w.heap.size 94 4 u5 p.length (flatR p)) := hown
    have HP : Hid (p ++ dn n a (xs.drop k) = dn n 0 xs) := hp
    have HC : Hid (chk n L (xs.drop k) = 0) := hck
    clear hown hp hck
    by_cases hlt : k < xs.length
    · obtain ⟨e, he⟩ : ∃ e, xs[k]? = some e := ⟨_, List.getElem?_eq_getElem hlt⟩
      obtain ⟨c0, c1, c2⟩ := HX.out.cells hbel he
      have hmem : e ∈ xs := List.mem_of_getElem? he
      obtain ⟨_, _, _, hLe, hnext⟩ := chk_cons (by rw [← drop_get he]; exact HC.out)
      obtain ⟨f, t, hee, hft, ht⟩ := nat_ed2 (HK.out e hmem)
      generalize e.s = s at *
      subst hee
      simp only at c0 c1 c2 hLe hnext
      have HE : Hid (xs[k]? = some ⟨f, t, s⟩) := he
      have haf : a ≤ f := by omega
      have HS : Hid ((p ++ kp a f ++ [⟨false, 0, 0, s⟩]) ++ dn n t (xs.drop (k + 1)) = dn n 0 xs) := by
        unfold Hid
        rw [← HP.out, drop_get he, dn]
        simp
      have hbd : p.length + (kp a f).length + 1 ≤ N := by
        have h1 := congrArg List.length HS.out
        rw [← HN.out] at h1
        simp only [List.length_append, List.length_singleton] at h1
        omega
      have HNX : Hid (chk n ((t : Int) + 1) (xs.drop (k + 1)) = 0) := hnext
      clear he hmem hnext
      go_wp2_with fail
      refine (rkept_any n a f a0 _ _ hn haf (by omega) (HW.out.below hbel)).mono ?_
      rintro e w1 ⟨v1, rfl, hown1, hb1⟩
      obtain ⟨a1, cap1, rfl, hR1, _, hn1⟩ := own_formR hown1
      have HR1 : Hid (RnA w1 a1 (kp a f)) := hR1
      have HN1 : Hid (a1 = none → (kp a f).length = 0 ∧ cap1 = 0) := hn1
      have hbel1 : Below w.heap.size w w1 := hbel.trans (hb1.mono hsz)
      have HO1 : Hid (w1.ownsRow w.heap.size 94 4 u5 p.length (flatR p)) := ownsRow_below HO.out hb1 (Nat.le_refl _)
      have HB1 : Hid (Below w.heap.size w w1) := hbel1
      have hsz1 := hbel1.size
      clear hown1 hR1 hn1 hb1 hbel1 c0 c1 c2
      go_wp2_with (at_builtin; (refine wpList_append_own_any _ rfl (.tmp 14) (.tmp 22) 74 rfl w.heap.size 94 i0 (.agg #[.bool false, .int .i64 0, .int .i64 0, .string ⟨#[]⟩]) 4 40 Tryd.underlying74 hi hz0 hz1 hz2 rfl (by decide) _ _ _ rfl HO1.out a1 (kp a f).length cap1 (flatR (kp a f)) rfl (flatR_length _) HN1.out HR1.out.news (flatR_oneCell _) ?_ ?_ ?_ ?_))
      case refine_1 => unfold maxLen; omega
      case refine_2 => omega
      case refine_3 => omega
      intro v2 w2 hown2 hgrow2
      rw [← flatR_append] at hown2
      have hbel2 : Below w.heap.size w w2 := HB1.out.grown hgrow2 hsz1 (fun k h => (hlt1.out k h).1)
      obtain ⟨c0, c1, c2⟩ := HX.out.cells hbel2 HE.out
      simp only at c0 c1 c2
      have hlt2 : Hid (∀ k, v2.ownBlock = some k → w.heap.size ≤ k ∧ k < w2.heap.size) := hown2.lt
      have HO2 : Hid (w2.ownsRow w.heap.size 94 4 v2 (p.length + (kp a f).length) (flatR (p ++ kp a f))) := hown2
      have HB2 : Hid (Below w.heap.size w w2) := hbel2
      have hsz2 := hbel2.size
      have HNW : Hid (∀ j u, (flatR [⟨false, 0, 0, s⟩])[j]? = some u → (w2.alloc (.cells #[.bool false, .int .i64 0, .int .i64 0, .string s] 94)).cell? ((⟨w2.heap.size, 0, none⟩ : Addr).add j) = some u) := cells_new w2 (flatR [⟨false, 0, 0, s⟩]) 94
      clear hown2 hgrow2 hbel2 HO1 HB1 HR1 HN1
      go_wp2_with (at_builtin; (refine wpList_append_own _ rfl (.tmp 24) (.tmp 31) 74 rfl w.heap.size 94 i0 (.agg #[.bool false, .int .i64 0, .int .i64 0, .string ⟨#[]⟩]) 4 40 Tryd.underlying74 hi hz0 hz1 hz2 rfl (by decide) _ _ _ rfl (HO2.out.alloc _) ⟨w2.heap.size, 0, none⟩ 1 1 (flatR [⟨false, 0, 0, s⟩]) rfl rfl HNW.out (flatR_oneCell _) ?_ ?_ ?_ ?_))
      case refine_1 => unfold maxLen; omega
      case refine_2 => omega
      case refine_3 => simp; omega
      intro v3 w3 hown3 hgrow3 _
      rw [← flatR_append] at hown3
      have hbel3 : Below w.heap.size w w3 := (HB2.out.alloc hsz2 _).grown hgrow3 (by simp; omega) (fun k h => (hlt2.out k h).1)
      clear c0 c1 c2
      obtain ⟨c0, c1, c2⟩ := HX.out.cells hbel3 HE.out
      simp only at c0 c1 c2
      have HO3 : Hid (w3.ownsRow w.heap.size 94 4 v3 (p ++ kp a f ++ ([⟨false, 0, 0, s⟩] : List Rn)).length (flatR (p ++ kp a f ++ [⟨false, 0, 0, s⟩]))) := by
        unfold Hid; simpa [List.length_append, Nat.add_assoc] using hown3
      have HB3 : Hid (Below w.heap.size w w3) := hbel3
      clear hown3 hgrow3 hbel3 HO2 HB2 HNW
      go_wp2
      go_roundg (xs.length - (k + 1))
      case measure => omega
      case rel => exact ⟨k + 1, t, _, (t : Int) + 1, rfl, by omega, by go_num, rfl, ht, by omega, HNX.out, HB3.out, HO3.out, HS.out⟩
    · have HE : Hid (p ++ kp a n = dn n 0 xs) := by
        unfold Hid; rw [← HP.out, List.drop_eq_nil_of_le (by omega), dn]
      have hbd : p.length + (kp a n).length ≤ N := by
        have h1 := congrArg List.length HE.out
        rw [← HN.out, List.length_append] at h1
        omega
      go_wp2_with fail
      refine (wsize_any n a0 c0 _ hn (HW.out.below hbel)).mono ?_
      rintro e w1 ⟨rfl, hb1⟩
      have hbel1 : Below w.heap.size w w1 := hbel.trans (hb1.mono hsz)
      have HO1 : Hid (w1.ownsRow w.heap.size 94 4 u5 p.length (flatR p)) := ownsRow_below HO.out hb1 (Nat.le_refl _)
      have HB1 : Hid (Below w.heap.size w w1) := hbel1
      have hsz1 := hbel1.size
      clear hb1 hbel1
      go_wp2_with fail
      refine (rkept_any n a n a0 c0 _ hn ha (Nat.le_refl _) (HW.out.below HB1.out)).mono ?_
      rintro e w2 ⟨v1, rfl, hown1, hb2⟩
      obtain ⟨a1, cap1, rfl, hR1, _, hn1⟩ := own_formR hown1
      have HR1 : Hid (RnA w2 a1 (kp a n)) := hR1
      have HN1 : Hid (a1 = none → (kp a n).length = 0 ∧ cap1 = 0) := hn1
      have HO2 : Hid (w2.ownsRow w.heap.size 94 4 u5 p.length (flatR p)) := ownsRow_below HO1.out hb2 (Nat.le_refl _)
      have HB2 : Hid (Below w.heap.size w w2) := HB1.out.trans (hb2.mono hsz1)
      have hsz2 : w.heap.size ≤ w2.heap.size := HB2.out.size
      clear hown1 hR1 hn1 hb2 HO1
      go_wp2_with (at_builtin; (refine wpList_append_own_any _ rfl (.tmp 38) (.tmp 43) 74 rfl w.heap.size 94 i0 (.agg #[.bool false, .int .i64 0, .int .i64 0, .string ⟨#[]⟩]) 4 40 Tryd.underlying74 hi hz0 hz1 hz2 rfl (by decide) _ _ _ rfl HO2.out a1 (kp a n).length cap1 (flatR (kp a n)) rfl (flatR_length _) HN1.out HR1.out.news (flatR_oneCell _) ?_ ?_ ?_ ?_))
      case refine_1 => unfold maxLen; omega
      case refine_2 => omega
      case refine_3 => omega
      intro v2 w3 hown3 hgrow3
      rw [← flatR_append, ← List.length_append, HE.out] at hown3
      have hbel3 : Below w.heap.size w w3 := HB2.out.grown hgrow3 hsz2 (fun k h => (hlt1.out k h).1)
      have HO3 : Hid (w3.ownsRow w.heap.size 94 4 v2 (dn n 0 xs).length (flatR (dn n 0 xs))) := hown3
      clear hown3 hgrow3 HO2
      go_wp2
      go_ret
      exact ⟨_, rfl, HO3.out, hbel3⟩
end Go.Proofs.YteolfolkolpehaaDoor

namespace Go.Proofs.YteolfolkolpehaaDoor
open Go.ChangeShapes Go.WideShapes Go.ChangeAt Go.RowKit
set_option linter.unusedVariables false

/-- what Apply answers: the text, the number -/
def appA (tx : ByteArray) (xs : List Ed) : ByteArray := if vld tx.size xs = 0 then ⟨(appF tx.data.toList 0 xs).toArray⟩ else ⟨#[]⟩

theorem appF_nil (tx : ByteArray) : (⟨(appF tx.data.toList 0 []).toArray⟩ : ByteArray) = tx := by
  apply bytes_ext; simp [appF]

/-- 'said' at any slice -/
theorem said_all (tx : ByteArray) (a : Option Addr) (cap : Nat) (rs : List Rn) (w : World) (hx : tx.size ≤ 140737488351232) (h : RnA w a rs) (hl : rs.length ≤ 140737488351232) (hin : ∀ r ∈ rs, RnIn tx.size r) (hB : (sd tx.data.toList rs).length ≤ 140737488351232) :
    Calls Tryd.prog 36 #[.string tx, .slice a rs.length cap] w fun e w' => e = .returned (.string ⟨(sd tx.data.toList rs).toArray⟩) ∧ Below w.heap.size w w' := by
  rcases h with rfl | ⟨b, o, rfl, h⟩
  · rw [List.length_nil]
    go_enter Tryd.func36, Tryd.ntmps36
    go_wp2
    refine wp_loop_rounds 1 ?_
    rw [rounds_succ]
    go_wp2
    go_ret
    exact ⟨rfl, Below.refl _ _⟩
  · exact said_any tx b o cap rs w hx h hl hin hB

set_option maxRecDepth 1000000 in
set_option maxHeartbeats 800000 in
theorem rdone_all (n : Nat) (a : Option Addr) (cap : Nat) (xs : List Ed) (a0 : Option Addr) (c0 : Nat) (w : World) (hn : n ≤ 140737488351232) (hw : RnA w a0 (wh n)) (h : EdsA w a xs) (hl : xs.length ≤ 65536) (hck : chk n 0 xs = 0) :
    Calls Tryd.prog 37 #[.slice a0 (wh n).length c0, .slice a xs.length cap] w fun e w' => ∃ v, e = .returned v ∧ w'.ownsRow w.heap.size 94 4 v (dn n 0 xs).length (flatR (dn n 0 xs)) ∧ Below w.heap.size w w' := by
  rcases h with rfl | ⟨b, o, rfl, h⟩
  · obtain ⟨i0, hi, hz0, hz1, hz2⟩ := info_parts infoRn
    rw [List.length_nil]
    have HW : Hid (RnA w a0 (wh n)) := hw
    have hk1 := kp_len 0 n
    clear hw
    go_enter Tryd.func37, Tryd.ntmps37
    go_wp2
    refine wp_loop_rounds 1 ?_
    rw [rounds_succ]
    go_wp2_with fail
    refine (wsize_any n a0 c0 _ hn HW.out).mono ?_
    rintro e w1 ⟨rfl, hb1⟩
    go_wp2_with fail
    refine (rkept_any n 0 n a0 c0 _ hn (Nat.zero_le _) (Nat.le_refl _) (HW.out.below hb1)).mono ?_
    rintro e w2 ⟨v1, rfl, hown1, hb2⟩
    obtain ⟨a1, cap1, rfl, hR1, _, hn1⟩ := own_formR hown1
    have HR1 : Hid (RnA w2 a1 (kp 0 n)) := hR1
    have HN1 : Hid (a1 = none → (kp 0 n).length = 0 ∧ cap1 = 0) := hn1
    have HB2 : Hid (Below w.heap.size w w2) := hb1.trans (hb2.mono hb1.size)
    have hsz2 : w.heap.size ≤ w2.heap.size := HB2.out.size
    clear hown1 hR1 hn1 hb2 hb1
    go_wp2_with (at_builtin; (refine wpList_append_own_any _ rfl (.tmp 38) (.tmp 43) 74 rfl w.heap.size 94 i0 (.agg #[.bool false, .int .i64 0, .int .i64 0, .string ⟨#[]⟩]) 4 40 Tryd.underlying74 hi hz0 hz1 hz2 rfl (by decide) _ _ _ rfl (World.ownsRow_nil _ _ _ _) a1 (kp 0 n).length cap1 (flatR (kp 0 n)) rfl (flatR_length _) HN1.out HR1.out.news (flatR_oneCell _) ?_ ?_ ?_ ?_))
    case refine_1 => unfold maxLen; omega
    case refine_2 => omega
    case refine_3 => omega
    intro v2 w3 hown3 hgrow3
    have hbel3 : Below w.heap.size w w3 := HB2.out.grown hgrow3 hsz2 (fun k h => by cases h)
    have HO3 : Hid (w3.ownsRow w.heap.size 94 4 v2 (dn n 0 []).length (flatR (dn n 0 []))) := by unfold Hid; rw [dn]; simpa using hown3
    clear hown3 hgrow3
    go_wp2
    go_ret
    exact ⟨_, rfl, HO3.out, hbel3⟩
  · exact rdone_any n b o cap xs a0 c0 w hn hw h hl hck

set_option maxHeartbeats 800000 in
theorem rapply_all (tx : ByteArray) (a : Option Addr) (cap : Nat) (xs : List Ed) (w : World) (hx : tx.size ≤ 140737488351232) (h : EdsA w a xs) (hl : xs.length ≤ maxLen) (hB : tx.size + tots xs ≤ 70368744177664) :
    Calls Tryd.prog 16 #[.string tx, .slice a xs.length cap] w fun e w' => e = .returned (.tuple #[.string (appA tx xs), .int .i64 (vld tx.size xs)]) ∧ Below w.heap.size w w' := by
  have H : Hid (EdsA w a xs) := h
  have HL : Hid (xs.length ≤ maxLen) := hl
  clear h hl
  by_cases hv : vld tx.size xs = 0
  · have hA : appA tx xs = ⟨(appF tx.data.toList 0 xs).toArray⟩ := by unfold appA; rw [if_pos hv]
    have hck := (vld_chk hv).1
    have hl2 := (vld_chk hv).2
    obtain ⟨hb1, hb2⟩ := app_bound hck
    have hsd := sd_dn (tx := tx.data.toList) tx.size 0 xs (by rw [bytes_len]; exact Nat.le_refl _)
    have HSD : Hid (sd tx.data.toList (dn tx.size 0 xs) = appF tx.data.toList 0 xs) := hsd
    have hlen : (sd tx.data.toList (dn tx.size 0 xs)).length ≤ 140737488351232 := by rw [hsd]; omega
    have HIN : Hid (∀ r ∈ dn tx.size 0 xs, RnIn tx.size r) := dn_in (fun e he => by have := chk_ok hck e he; omega)
    have hdl := dn_len tx.size 0 xs
    have HLEN : Hid ((sd tx.data.toList (dn tx.size 0 xs)).length ≤ 140737488351232) := hlen
    have HCK : Hid (chk tx.size 0 xs = 0) := hck
    have HV : Hid (vld tx.size xs = 0) := hv
    rw [hA, hv]
    clear hA hck hb1 hb2 hsd hlen hv hB
    go_enter Tryd.func16, Tryd.ntmps16
    go_wp2_with fail
    refine (rvalid_all tx.size a cap xs _ (by omega) (by omega) H.out HL.out).mono ?_
    rintro e w1 ⟨rfl, hb1⟩
    rw [HV.out]
    go_wp2_with fail
    refine (whole_any tx.size _ hx).mono ?_
    rintro e w2 ⟨a2, c2, rfl, hR2, _, hb2⟩
    have HR2 : Hid (RnA w2 a2 (wh tx.size)) := hR2
    clear hR2
    go_wp2_with fail
    refine (rdone_all tx.size a cap xs a2 c2 _ hx HR2.out ((H.out.below hb1).below hb2) hl2 HCK.out).mono ?_
    rintro e w3 ⟨v3, rfl, hown3, hb3⟩
    obtain ⟨a3, c3, rfl, hR3, _, _⟩ := own_formR hown3
    have HR3 : Hid (RnA w3 a3 (dn tx.size 0 xs)) := hR3
    clear hR3 hown3
    go_wp2_with fail
    refine (said_all tx a3 c3 (dn tx.size 0 xs) _ hx HR3.out (by omega) HIN.out HLEN.out).mono ?_
    rintro e w4 ⟨rfl, hb4⟩
    rw [HSD.out]
    go_wp2
    go_ret2
    have s2 : w.heap.size ≤ w2.heap.size := Nat.le_trans hb1.size hb2.size
    exact ⟨rfl, ((hb1.trans (hb2.mono hb1.size)).trans (hb3.mono s2)).trans (hb4.mono (Nat.le_trans s2 hb3.size))⟩
  · have hA : appA tx xs = ⟨#[]⟩ := by unfold appA; rw [if_neg hv]
    have HW : Hid ((vld tx.size xs != 0) = true) := by unfold Hid; simpa using hv
    rw [hA]
    clear hv hA
    go_enter Tryd.func16, Tryd.ntmps16
    go_wp2_with fail
    refine (rvalid_all tx.size a cap xs _ (by omega) (by omega) H.out HL.out).mono ?_
    rintro e w1 ⟨rfl, hb1⟩
    have hne := HW.out
    go_wp2
    go_ret2
    exact ⟨rfl, hb1⟩
end Go.Proofs.YteolfolkolpehaaDoor

namespace Go.Proofs.YteolfolkolpehaaDoor
open Go.ChangeShapes Go.WideShapes Go.ChangeAt Go.RowKit
set_option linter.unusedVariables false

theorem rch_facts (put b : List Ed) (M : Int) (hp : ∀ e ∈ put, e.t ≤ M) (hb : ∀ e ∈ b, e.t ≤ M) (n i j : Nat) (h : Int) (hi : i ≤ put.length) (hj : j ≤ b.length) (hM : h ≤ M) :
    i ≤ (rch put b n i j h).1 ∧ (rch put b n i j h).1 ≤ put.length ∧ j ≤ (rch put b n i j h).2.1 ∧ (rch put b n i j h).2.1 ≤ b.length ∧ h ≤ (rch put b n i j h).2.2 ∧ (rch put b n i j h).2.2 ≤ M := by
  induction n generalizing i j h with
  | zero => simp only [rch]; omega
  | succ n ih =>
    rw [rch]
    split
    · rename_i hc
      obtain ⟨e, he⟩ : ∃ e, put[i]? = some e := ⟨_, List.getElem?_eq_getElem hc.1⟩
      rw [getD_of he] at hc ⊢
      have h1 := hp e (List.mem_of_getElem? he)
      have := ih (i + 1) j (max h e.t) (by omega) hj (by omega)
      omega
    · split
      · rename_i hc
        obtain ⟨e, he⟩ : ∃ e, b[j]? = some e := ⟨_, List.getElem?_eq_getElem hc.1⟩
        rw [getD_of he] at hc ⊢
        have h1 := hb e (List.mem_of_getElem? he)
        have := ih i (j + 1) (max h e.t) hi (by omega) (by omega)
        omega
      · simp only; omega

theorem rch_some (put b : List Ed) (M : Int) (hp : ∀ e ∈ put, e.t ≤ M) (hb : ∀ e ∈ b, e.t ≤ M) (hM : low put b ≤ M) (hn : 0 < put.length + b.length) :
    0 < (rch put b (put.length + b.length) 0 0 (low put b)).1 + (rch put b (put.length + b.length) 0 0 (low put b)).2.1 := by
  obtain ⟨n, hn'⟩ : ∃ n, put.length + b.length = n + 1 := ⟨put.length + b.length - 1, by omega⟩
  rw [hn', rch]
  split
  · rename_i hc
    obtain ⟨e, he⟩ : ∃ e, put[0]? = some e := ⟨_, List.getElem?_eq_getElem hc.1⟩
    rw [getD_of he] at hc ⊢
    have h1 := hp e (List.mem_of_getElem? he)
    have := rch_facts put b M hp hb n 1 0 (max (low put b) e.t) hc.1 (Nat.zero_le _) (by omega)
    simp only [Nat.zero_add]
    omega
  · rename_i hc
    split
    · rename_i hd
      obtain ⟨e, he⟩ : ∃ e, b[0]? = some e := ⟨_, List.getElem?_eq_getElem hd.1⟩
      rw [getD_of he] at hd ⊢
      have h1 := hb e (List.mem_of_getElem? he)
      have := rch_facts put b M hp hb n 0 1 (max (low put b) e.t) (Nat.zero_le _) hd.1 (by omega)
      simp only [Nat.zero_add]
      omega
    · rename_i hd
      exfalso
      cases put with
      | nil =>
        cases b with
        | nil => simp at hn
        | cons e r => apply hd; simp [low, List.getD]
      | cons p q =>
        cases b with
        | nil => apply hc; simp [low, List.getD]
        | cons e r =>
          simp [low, List.getD] at hc hd
          omega

/-- the groups, one by one -/
def gr : Nat → List Ed → List Ed → List Ed → Int → List Ed
  | 0, _, _, _, _ => []
  | n + 1, put, a, b, m =>
    if put.length + b.length = 0 then [] else
    ⟨low put b - m, (rch put b (put.length + b.length) 0 0 (low put b)).2.2 - (m + grw (a.take (rch put b (put.length + b.length) 0 0 (low put b)).1)), ⟨(wv (put.take (rch put b (put.length + b.length) 0 0 (low put b)).1) (b.take (rch put b (put.length + b.length) 0 0 (low put b)).2.1) (low put b) (rch put b (put.length + b.length) 0 0 (low put b)).2.2).toArray⟩⟩ ::
      gr n (put.drop (rch put b (put.length + b.length) 0 0 (low put b)).1) (a.drop (rch put b (put.length + b.length) 0 0 (low put b)).1) (b.drop (rch put b (put.length + b.length) 0 0 (low put b)).2.1) (m + grw (a.take (rch put b (put.length + b.length) 0 0 (low put b)).1))

theorem gr_nil (n : Nat) (a : List Ed) (m : Int) : gr n [] a [] m = [] := by cases n <;> simp [gr]

theorem low_le (put b : List Ed) (M : Int) (hp : ∀ e ∈ put, e.f ≤ M) (hb : ∀ e ∈ b, e.f ≤ M) (hM : 0 ≤ M) : low put b ≤ M := by
  cases put with
  | nil =>
    cases b with
    | nil => exact hM
    | cons e r => exact hb e (List.mem_cons_self ..)
  | cons p q =>
    cases b with
    | nil => exact hp p (List.mem_cons_self ..)
    | cons e r => have := hp p (List.mem_cons_self ..); simp only [low]; omega

theorem low_ge (put b : List Ed) (hp : ∀ e ∈ put, 0 ≤ e.f) (hb : ∀ e ∈ b, 0 ≤ e.f) : 0 ≤ low put b := by
  cases put with
  | nil =>
    cases b with
    | nil => exact Int.le_refl _
    | cons e r => exact hb e (List.mem_cons_self ..)
  | cons p q =>
    cases b with
    | nil => exact hp p (List.mem_cons_self ..)
    | cons e r => have := hp p (List.mem_cons_self ..); have := hb e (List.mem_cons_self ..); simp only [low]; omega

/-- edits in order, none beyond a mark -/
def Nm (M : Int) (e : Ed) : Prop := 0 ≤ e.f ∧ e.f ≤ e.t ∧ e.t ≤ M

theorem rch_all (put b : List Ed) (M : Int) (hM : 0 ≤ M) (hp : ∀ e ∈ put, Nm M e) (hb : ∀ e ∈ b, Nm M e) (hn : 0 < put.length + b.length) :
    0 ≤ low put b ∧ low put b ≤ M ∧ (rch put b (put.length + b.length) 0 0 (low put b)).1 ≤ put.length ∧ (rch put b (put.length + b.length) 0 0 (low put b)).2.1 ≤ b.length ∧ 0 < (rch put b (put.length + b.length) 0 0 (low put b)).1 + (rch put b (put.length + b.length) 0 0 (low put b)).2.1 ∧ low put b ≤ (rch put b (put.length + b.length) 0 0 (low put b)).2.2 ∧ (rch put b (put.length + b.length) 0 0 (low put b)).2.2 ≤ M := by
  have h1 := low_le put b M (fun e he => Int.le_trans (hp e he).2.1 (hp e he).2.2) (fun e he => Int.le_trans (hb e he).2.1 (hb e he).2.2) hM
  have h2 := low_ge put b (fun e he => (hp e he).1) (fun e he => (hb e he).1)
  have h3 := rch_some put b M (fun e he => (hp e he).2.2) (fun e he => (hb e he).2.2) h1 hn
  have h4 := rch_facts put b M (fun e he => (hp e he).2.2) (fun e he => (hb e he).2.2) (put.length + b.length) 0 0 (low put b) (Nat.zero_le _) (Nat.zero_le _) h1
  exact ⟨h2, h1, h4.2.1, h4.2.2.2.1, h3, h4.2.2.2.2.1, h4.2.2.2.2.2⟩

theorem gr_fuel (M : Int) (hM : 0 ≤ M) (n1 : Nat) : ∀ (n2 : Nat) (put a b : List Ed) (m : Int), (∀ e ∈ put, Nm M e) → (∀ e ∈ b, Nm M e) → put.length + b.length ≤ n1 → put.length + b.length ≤ n2 → gr n1 put a b m = gr n2 put a b m := by
  induction n1 with
  | zero =>
    intro n2 put a b m _ _ h _
    have e1 : put = [] := List.eq_nil_of_length_eq_zero (by omega)
    have e2 : b = [] := List.eq_nil_of_length_eq_zero (by omega)
    subst e1; subst e2
    rw [gr_nil, gr_nil]
  | succ n ih =>
    intro n2 put a b m hp hb h h2
    by_cases h0 : put.length + b.length = 0
    · have e1 : put = [] := List.eq_nil_of_length_eq_zero (by omega)
      have e2 : b = [] := List.eq_nil_of_length_eq_zero (by omega)
      subst e1; subst e2
      rw [gr_nil, gr_nil]
    · obtain ⟨k, rfl⟩ : ∃ k, n2 = k + 1 := ⟨n2 - 1, by omega⟩
      obtain ⟨_, _, r1, r2, r3, _, _⟩ := rch_all put b M hM hp hb (by omega)
      rw [gr, gr, if_neg h0, if_neg h0]
      congr 1
      exact ih k _ _ _ _ (fun e he => hp e (List.mem_of_mem_drop he)) (fun e he => hb e (List.mem_of_mem_drop he)) (by simp only [List.length_drop]; omega) (by simp only [List.length_drop]; omega)

/-- one round of groups -/
theorem gr_step {M : Int} (hM : 0 ≤ M) {put a b : List Ed} {m lo hi : Int} {i j : Nat} {x : ByteArray} (hp : ∀ e ∈ put, Nm M e) (hb : ∀ e ∈ b, Nm M e) (hn : 0 < put.length + b.length) (hlo : low put b = lo) (hr : rch put b (put.length + b.length) 0 0 lo = (i, j, hi)) (hx : x = ⟨(wv (put.take i) (b.take j) lo hi).toArray⟩) :
    gr (put.length + b.length) put a b m = ⟨lo - m, hi - (m + grw (a.take i)), x⟩ :: gr ((put.drop i).length + (b.drop j).length) (put.drop i) (a.drop i) (b.drop j) (m + grw (a.take i)) := by
  obtain ⟨k, hk⟩ : ∃ k, put.length + b.length = k + 1 := ⟨put.length + b.length - 1, by omega⟩
  obtain ⟨_, _, r1, r2, r3, _, _⟩ := rch_all put b M hM hp hb hn
  conv => lhs; rw [hk]
  rw [gr, if_neg (by omega)]
  rw [hlo, hr] at r1 r2 r3
  rw [hlo, hr]
  subst hx
  simp only at r1 r2 r3
  congr 1
  exact gr_fuel M hM _ _ _ _ _ _ (fun e he => hp e (List.mem_of_mem_drop he)) (fun e he => hb e (List.mem_of_mem_drop he)) (by simp only [List.length_drop]; omega) (by simp only [List.length_drop]; omega)
end Go.Proofs.YteolfolkolpehaaDoor
