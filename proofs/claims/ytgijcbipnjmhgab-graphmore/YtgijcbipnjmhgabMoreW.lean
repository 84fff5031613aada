import Derived.Test.YtgijcbipnjmhgabFa4
import Derived.Test.YtgijcbipnjmhgabWo0
namespace Go.Proofs.Ytgijcbipnjmhgab
open Go.ChangeShapes Go.WideShapes Go.ChangeAt Go.RowKit
set_option linter.unusedVariables false
set_option linter.unusedSimpArgs false

/-- a list without a thing -/
def wo (x : Int) (l : List Int) : List Int := l.filter fun z => decide (z ≠ x)
theorem wo_take {l : List Int} {x : Int} {k : Nat} {y : Int} (h : l[k]? = some y) : wo x (l.take (k + 1)) = wo x (l.take k) ++ if y = x then [] else [y] := by
  unfold wo
  obtain ⟨h1, e1⟩ := List.getElem?_eq_some_iff.1 h
  rw [List.take_succ_eq_append_getElem h1, e1, List.filter_append]
  congr 1
  by_cases e : y = x
  · rw [if_pos e, List.filter_cons_of_neg (by simpa using e)]; rfl
  · rw [if_neg e, List.filter_cons_of_pos (by simpa using e)]; rfl
set_option maxRecDepth 1000000 in
set_option maxHeartbeats 2000000 in
theorem without_any (a : Option Addr) (c : Nat) (l : List Int) (x : Int) (w : World) (hR : Rd1 w.heap.size w a l) (hl : l.length ≤ 131072) :
    Calls Try.prog 9 #[.slice a l.length c, .int .i64 x] w fun e w' => ∃ v, e = .returned v ∧ Below w.heap.size w w' ∧ w'.ownsRow w.heap.size 3 1 v (wo x l).length (flat (wo x l)) := by
  obtain ⟨i0, hi0, hz0, hz1, hz2⟩ := info_parts infoIntH
  have HR := hidH hR
  obtain ⟨B, hB⟩ : ∃ B, w.heap.size = B := ⟨_, rfl⟩
  rw [hB] at HR
  clear hR
  go_enter Try.func9, Try.ntmps9
  go_wp2
  go_loopg [5, 10] l.length (fun gk s5 si wr => ∃ (k : Nat) (V : Value), gk = l.length - k ∧ s5 = V ∧ si = .int .i64 (k : Int) ∧ k ≤ l.length ∧ wr.ownsRow B 3 1 V (wo x (l.take k)).length (flat (wo x (l.take k))) ∧ Below B w wr)
  case atStart => exact ⟨0, _, rfl, rfl, rfl, Nat.zero_le _, World.ownsRow_nil _ _ _ _, Below.refl _ _⟩
  case round =>
    obtain ⟨k, V, hgk, rfl, rfl, hk, hO, hE⟩ := hrel
    have OO := hidH hO
    have EE := hidH hE
    clear hO hE
    by_cases hkl : k < l.length
    · have hkl' : (k : Int) < (l.length : Int) := by omega
      have kk : IntKind.i64.wrap ((k : Int) + 1) = ((k + 1 : Nat) : Int) := by rw [IntWalk.i64_in _ ⟨by omega, by omega⟩]; omega
      obtain ⟨y, hy⟩ : ∃ y, l[k]? = some y := ⟨_, List.getElem?_eq_getElem hkl⟩
      obtain ⟨g, rfl, hg, hc⟩ := (HR.out.below EE.out) (by omega)
      have cy := hc k y hy
      have WT := hidH (wo_take (x := x) hy)
      clear hc hy
      by_cases hyx : y = x
      · subst hyx
        go_wp2
        go_roundg (l.length - (k + 1))
        case measure => omega
        case rel => exact ⟨k + 1, _, rfl, rfl, rfl, by omega, by rw [WT.out, if_pos trivial, List.append_nil]; exact OO.out, EE.out⟩
      · have h1 : (y == x) = false := by rw [beq_eq_false_iff_ne]; exact hyx
        obtain ⟨aV, cV, hV, -, -⟩ := own_slice OO.out
        subst hV
        obtain ⟨q, hq⟩ : ∃ q, (wo x (l.take k)).length = q := ⟨_, rfl⟩
        have hqk : q ≤ k := by rw [← hq]; unfold wo; exact Nat.le_trans (List.length_filter_le _ _) (by rw [List.length_take]; omega)
        have HQ := hidH hq
        have OQ : Hid (wr.ownsRow B 3 1 (.slice aV q cV) q (flat (wo x (l.take k)))) := by have h9 := OO.out; rw [hq] at h9; exact h9
        obtain ⟨zA, eA, hbA, hsA, BA⟩ := bx1 wr #[.int .i64 y] 3
        have OA := hidH (own_belowR OQ.out hbA (Nat.le_refl _))
        have hBw : B ≤ wr.heap.size := by have := EE.out.size; omega
        have EA := hidH (EE.out.trans (hbA.mono hBw))
        have NA : Hid (∀ j u, [Value.int .i64 y][j]? = some u → zA.cell? ((⟨wr.heap.size, 0, none⟩ : Addr).add j) = some u) := by unfold Hid; rw [← eA]; exact cells_newH wr [Value.int .i64 y] 3
        have HEA := hidH eA
        have HSA := hidH hsA
        have hBA : B ≤ zA.heap.size := by omega
        rw [hq]
        clear eA hbA hsA BA hq OO
        go_wp2_with (at_builtin; rw [HEA.out]; refine wpList_append_lies _ rfl _ _ 24 rfl B 3 i0 (.int .i64 0) 1 8 Try.underlying24 hi0 hz0 hz1 hz2 rfl (by decide) (.slice aV q cV) q (flat (wo x (l.take k))) rfl OA.out ⟨wr.heap.size, 0, none⟩ 1 1 [Value.int .i64 y] rfl rfl NA.out (by intro u hu; simp at hu; subst hu; rfl) (by decide) (by unfold maxLen; omega) (by omega) hBA (wr.heap.size + 1) HSA.out ?_; intro gg cp w9 hown9 hgrow9 hat9 hlt9; have O9 : Hid (w9.ownsRow B 3 1 (.slice (some ⟨gg, 0, none⟩) (q + 1) cp) (wo x (l.take (k + 1))).length (flat (wo x (l.take (k + 1))))) := (by unfold Hid; rw [WT.out, if_neg hyx, flat_append, List.length_append, List.length_singleton, HQ.out]; exact hown9); have E9 := hidH (EA.out.grown hgrow9 hBA (fun g e => (OA.out.lt g e).1)); clear hown9 hgrow9 hat9 hlt9)
        go_roundg (l.length - (k + 1))
        case measure => omega
        case rel => exact ⟨k + 1, _, rfl, rfl, rfl, by omega, O9.out, E9.out⟩
    · have hkl' : ¬ (k : Int) < (l.length : Int) := by omega
      have hk2 : k = l.length := by omega
      go_wp2
      go_ret
      exact ⟨_, rfl, EE.out, by have h9 := OO.out; rw [hk2, List.take_length] at h9; exact h9⟩
theorem things_up {n : Nat} {ps : List Pr} (h : things (n : Int) ps = true) (hn : n < 131072) : things ((n + 1 : Nat) : Int) ps = true := by
  unfold things at *
  simp only [Bool.and_eq_true, decide_eq_true_eq, List.all_eq_true] at h ⊢
  refine ⟨by omega, fun p hp => ?_⟩
  have := h.2 p hp
  unfold thp thg at *
  simp only [Bool.and_eq_true, decide_eq_true_eq] at this ⊢
  omega
set_option maxRecDepth 1000000 in
set_option maxHeartbeats 2000000 in
theorem more_bad (n : Int) (s : Option Addr) (cap : Nat) (ps : List Pr) (w : World) (hL : LiesA w s ps) (hm : ps.length ≤ 8796093022208) (h : things n ps = false) :
    Calls Try.prog 3 #[.int .i64 n, .slice s ps.length cap] w fun e w' => e = .returned (.bool true) ∧ Below w.heap.size w w' := by
  have QT := hidH (right_any n s cap ps w hL hm)
  rw [h] at QT
  clear hL h
  go_enter Try.func3, Try.ntmps3
  go_wp2_with (go_at_call 6; (with_reducible refine QT.out.mono ?_); clear QT; rintro e w1 ⟨rfl, hb1⟩; have HB1 := hidH hb1; clear hb1)
  go_ret
  exact ⟨rfl, HB1.out⟩
set_option maxRecDepth 1000000 in
set_option maxHeartbeats 2000000 in
theorem more_end (s : Option Addr) (cap : Nat) (ps : List Pr) (w : World) (hL : LiesA w s ps) (hm : ps.length ≤ 8796093022208) (h : things 131072 ps = true) :
    Calls Try.prog 3 #[.int .i64 131072, .slice s ps.length cap] w fun e w' => e = .returned (.bool true) ∧ Below w.heap.size w w' := by
  have QT := hidH (right_any 131072 s cap ps w hL hm)
  rw [h] at QT
  clear hL h
  go_enter Try.func3, Try.ntmps3
  go_wp2_with (go_at_call 6; (with_reducible refine QT.out.mono ?_); clear QT; rintro e w1 ⟨rfl, hb1⟩; have HB1 := hidH hb1; clear hb1)
  go_ret
  exact ⟨rfl, HB1.out⟩
theorem lies_nil (w : World) (a : Option Addr) : LiesA w a ([] : List Int) := .inl rfl
set_option maxRecDepth 1000000 in
set_option maxHeartbeats 4000000 in
theorem more_ok (n cap : Nat) (s : Option Addr) (ps : List Pr) (w : World) (hL : LiesA w s ps) (hs0 : s = none → ps.length = 0 ∧ cap = 0) (hm : ps.length ≤ 8796093022208) (ht : things (n : Int) ps = true) (hn2 : n < 131072) :
    Calls Try.prog 3 #[.int .i64 (n : Int), .slice s ps.length cap] w fun e w' => e = .returned (.bool true) ∧ Below w.heap.size w w' := by
  obtain ⟨hn, hps⟩ := things_spec ht
  have ht2 := things_up ht hn2
  have HL := hidH hL
  have HT := hidH ht
  have HT2 := hidH ht2
  have HPS := hidH hps
  have HS0 := hidH hs0
  have QT := hidH (right_any (n : Int) s cap ps w hL hm)
  rw [ht] at QT
  have hne1 : ((n : Int) == 131072) = false := by rw [beq_eq_false_iff_ne]; omega
  have hne2 : ¬ (n : Int) = 131072 := by omega
  have kn : IntKind.i64.wrap ((n : Int) + 1) = (n : Int) + 1 := by rw [IntWalk.i64_in _ ⟨by omega, by omega⟩]
  clear hL ht ht2 hps hs0
  go_enter Try.func3, Try.ntmps3
  go_upto_region 5 with (first
    | (go_at_call 6; (with_reducible refine QT.out.mono ?_); clear QT; rintro e w1 ⟨rfl, hb1⟩; have HB1 := hidH hb1; have QA := hidH (order_any n cap s ps w1 (HL.out.below hb1) hm HT.out); clear hb1)
    | (go_at_call 7; (with_reducible refine QA.out.mono ?_); clear QA; rintro e w2 ⟨v5, v6, E7, rfl, hb2, hor⟩; have HB2 := hidH (HB1.out.trans (hb2.mono HB1.out.size)); have OR1 := hidH hor; have QB : Hid (Calls Try.prog 7 #[.int .i64 ((n : Int) + 1), .slice s ps.length cap] w2 fun e w' => ∃ v u E, e = .returned (.tuple #[v, u, .int .i64 E]) ∧ Below w2.heap.size w2 w' ∧ OrE w2.heap.size (n + 1) ps w' v u E) := (order_any (n + 1) cap s ps w2 (HL.out.below HB2.out) hm HT2.out); clear hb2 hor)
    | (go_at_call 7; (with_reducible refine QB.out.mono ?_); clear QB; rintro e w3 ⟨v8, v9, E10, rfl, hb3, hor⟩; have HB3 := hidH (HB2.out.trans (hb3.mono HB2.out.size)); have B23 := hidH hb3; have OR2 := hidH hor; clear hb3 hor))
  go_cut [57] (fun sl wc => sl = .bool false ∧ Below w3.heap.size w3 wc)
  case first =>
    rcases OR1.out with ⟨rfl, rfl, N1, o1, hN1, hl1, hf1, ho1⟩ | ⟨rfl, rfl, f1, l1, ho1, hF1, hC1⟩
    · rcases OR2.out with ⟨rfl, rfl, N2, o2, hN2, hl2, hf2, ho2⟩ | ⟨rfl, rfl, f2, l2, -, hF2, -⟩
      · obtain ⟨a1, c1, hv1, -, -⟩ := own_slice ho1
        subst hv1
        obtain ⟨a2, c2, hv2, -, -⟩ := own_slice ho2
        subst hv2
        have R1 : Rd1 w3.heap.size w3 a1 o1 := ((Rd1.of (B := w1.heap.size) (c := c1) ho1 (Nat.le_refl _)).below B23.out).up B23.out.size
        have R2 : Rd1 w3.heap.size w3 a2 o2 := Rd1.of (B := w2.heap.size) (c := c2) ho2 (Nat.le_refl _)
        have hol : wo (n : Int) o2 = o1 := more_line HPS.out hN1 hl1 hN2 hl2
        have S0 : Hid (Calls Try.prog 8 #[.slice none 0 0, .slice none 0 0] w3 fun e w' => e = .returned (.bool true) ∧ Below w3.heap.size w3 w') := same_ints none none 0 0 [] w3 (lies_nil _ _) (lies_nil _ _) (Nat.zero_le _)
        have HR1 := hidH R1
        have HR2 := hidH R2
        have HOL := hidH hol
        have HF2 := hidH hf2
        have HF1 := hidH hf1
        have WO : Hid (∀ wq, Below w3.heap.size w3 wq → Calls Try.prog 9 #[.slice a2 o2.length c2, .int .i64 (n : Int)] wq fun e w' => ∃ v, e = .returned v ∧ Below wq.heap.size wq w' ∧ w'.ownsRow wq.heap.size 3 1 v o1.length (flat o1)) := fun wq hq => by
          have h9 := without_any a2 c2 o2 (n : Int) wq ((HR2.out.below hq).up hq.size) (by have := HF2.out; omega)
          rw [HOL.out] at h9
          exact h9
        have SM1 : Hid (∀ wq a3 c3, Below w3.heap.size w3 wq → Rd1 wq.heap.size wq a3 o1 → Calls Try.prog 8 #[.slice a1 o1.length c1, .slice a3 o1.length c3] wq fun e w' => e = .returned (.bool true) ∧ Below wq.heap.size wq w') := fun wq a3 c3 hq h3 => by
          exact same_ints a1 a3 c1 c3 o1 wq ((HR1.out.below hq).lies hq.size) (h3.lies (Nat.le_refl _)) (by unfold maxLen; have := HF1.out; omega)
        clear ho1 ho2 hN1 hN2 hl1 hl2 R1 R2 hol hf1 hf2
        go_wp2_with (first
          | (go_at_call 8; (with_reducible refine S0.out.mono ?_); clear S0; rintro e w4 ⟨rfl, hb4⟩; have B4 := hidH hb4; have W4 := hidH (WO.out w4 hb4); clear hb4 WO)
          | (go_at_call 9; (with_reducible refine W4.out.mono ?_); clear W4; rintro e w5 ⟨v, rfl, hb5, ho5⟩; have B5 := hidH (B4.out.trans (hb5.mono B4.out.size)); obtain ⟨a3, c3, hv3, -, -⟩ := own_slice ho5; subst hv3; have S5 := hidH (SM1.out w5 a3 c3 B5.out (Rd1.of (B := w4.heap.size) (c := c3) ho5 (Nat.le_refl _))); clear hb5 ho5 B4 SM1)
          | (go_at_call 8; (with_reducible refine S5.out.mono ?_); clear S5; rintro e w6 ⟨rfl, hb6⟩; have B6 := hidH (B5.out.trans (hb6.mono B5.out.size)); clear hb6 B5))
        go_meet
        exact ⟨rfl, B6.out⟩
      · exact absurd hF2.1 (hl1.noc HPS.out hN1 hf1 f2)
    · rcases OR2.out with ⟨rfl, rfl, N2, o2, hN2, hl2, hf2, -⟩ | ⟨rfl, rfl, f2, l2, ho2, hF2, hC2⟩
      · exact absurd hF1.1 (hl2.noc (fun p hp => by have := HPS.out p hp; omega) hN2 hf2 f1)
      · obtain rfl : f1 = f2 := hF1.uniq hF2
        obtain rfl : l1 = l2 := hC1.uniq hC2
        obtain ⟨a1, c1, hv1, -, -⟩ := own_slice ho1
        subst hv1
        obtain ⟨a2, c2, hv2, -, -⟩ := own_slice ho2
        subst hv2
        have R1 : Rd1 w3.heap.size w3 a1 ((f1 : Int) :: l1) := ((Rd1.of (B := w1.heap.size) (c := c1) ho1 (Nat.le_refl _)).below B23.out).up B23.out.size
        have R2 : Rd1 w3.heap.size w3 a2 ((f1 : Int) :: l1) := Rd1.of (B := w2.heap.size) (c := c2) ho2 (Nat.le_refl _)
        have hlm : ((f1 : Int) :: l1).length ≤ maxLen := by rcases ho1.2 with ⟨-, h0⟩ | ⟨g, cap2, cur, -, -, -, h1, h2, -⟩; (rw [h0]; exact Nat.zero_le _); (omega)
        have SM : Hid (Calls Try.prog 8 #[.slice a1 (l1.length + 1) c1, .slice a2 (l1.length + 1) c2] w3 fun e w' => e = .returned (.bool true) ∧ Below w3.heap.size w3 w') := (same_ints a1 a2 c1 c2 ((f1 : Int) :: l1) w3 (R1.lies (Nat.le_refl _)) (R2.lies (Nat.le_refl _)) hlm)
        have WO : Hid (∀ wq, Calls Try.prog 9 #[.slice none 0 0, .int .i64 (n : Int)] wq fun e w' => ∃ v, e = .returned v ∧ Below wq.heap.size wq w' ∧ w'.ownsRow wq.heap.size 3 1 v 0 []) := fun wq => without_any none 0 [] (n : Int) wq (fun h => absurd h (Nat.lt_irrefl _)) (Nat.zero_le _)
        clear ho1 ho2 R1 R2 hF1 hF2 hC1 hC2 hlm
        go_wp2_with (first
          | (go_at_call 8; (with_reducible refine SM.out.mono ?_); clear SM; rintro e w4 ⟨rfl, hb4⟩; have B4 := hidH hb4; clear hb4)
          | (go_at_call 9; (with_reducible refine (WO.out _).mono ?_); clear WO; rintro e w5 ⟨v, rfl, hb5, ho5⟩; have B5 := hidH (B4.out.trans (hb5.mono B4.out.size)); obtain ⟨a3, c3, hv3, -, -⟩ := own_slice ho5; subst hv3; have S5 : Hid (Calls Try.prog 8 #[.slice none 0 0, .slice a3 0 c3] w5 fun e w' => e = .returned (.bool true) ∧ Below w5.heap.size w5 w') := (same_ints none a3 0 c3 [] w5 (lies_nil _ _) (lies_nil _ _) (Nat.zero_le _)); clear hb5 ho5 B4)
          | (go_at_call 8; (with_reducible refine S5.out.mono ?_); clear S5; rintro e w6 ⟨rfl, hb6⟩; have B6 := hidH (B5.out.trans (hb6.mono B5.out.size)); clear hb6 B5))
        go_meet
        exact ⟨rfl, B6.out⟩
  case rest =>
    obtain ⟨rfl, hb4⟩ := hcut
    obtain ⟨w4, hw4⟩ : ∃ w4, w4 = wc := ⟨wc, rfl⟩
    subst hw4
    have HB4 : Hid (Below w.heap.size w w4) := HB3.out.trans (hb4.mono HB3.out.size)
    have QP := hidH (parts_ok n cap s ps w4 (HL.out.below HB4.out) hm HT.out)
    clear hb4 OR1 OR2 HB1 HB2 HB3 B23
    go_upto_region 9 with (first
      | (go_at_call 10; (with_reducible refine QP.out.mono ?_); clear QP; rintro e w5 ⟨v11, rfl, hb5, lw, N, os, hlw, hN, hln, hrv⟩; have HB5 := hidH (HB4.out.trans (hb5.mono HB4.out.size)); have LW1 := hidH hlw; have LN1 := hidH hN; have LL1 := hidH hln; have RV1 := hidH hrv; have QQ : Hid (Calls Try.prog 10 #[.int .i64 ((n : Int) + 1), .slice s ps.length cap] w5 fun e w' => ∃ v, e = .returned (.tuple #[v, .int .i64 0]) ∧ Below w5.heap.size w5 w' ∧ ∃ lw N os, Lws ps (n + 1) lw ∧ LstR (n + 1) (btw lw ps) N ∧ Ln N (n + 1) os ∧ Rv w5.heap.size w' v (pts (n + 1) lw os)) := (parts_ok (n + 1) cap s ps w5 (HL.out.below HB5.out) hm HT2.out); clear hb5 hlw hN hln hrv)
      | (go_at_call 10; (with_reducible refine QQ.out.mono ?_); clear QQ; rintro e w6 ⟨v12, rfl, hb6, lw2, N2, os2, hlw2, hN2, hln2, hrv2⟩; have HB6 := hidH (HB5.out.trans (hb6.mono HB5.out.size)); have B56 := hidH hb6; have LW2 := hidH hlw2; have LN2 := hidH hN2; have LL2 := hidH hln2; have RV2 := hidH hrv2; clear hb6 hlw2 hN2 hln2 hrv2))
    obtain ⟨hmf, hml⟩ := more_parts HPS.out LW1.out LN1.out LL1.out LW2.out LN2.out LL2.out
    have HP1 := hidH (Nat.le_trans (pts_len n lw os) (nodup_le LL1.out.nod LL1.out.rng))
    have PR2 := hidH (pts_prt LW2.out LN2.out LL2.out)
    obtain ⟨pss, hpss⟩ : ∃ pss, pts n lw os = pss := ⟨_, rfl⟩
    obtain ⟨qss, hqss⟩ : ∃ qss, pts (n + 1) lw2 os2 = qss := ⟨_, rfl⟩
    rw [hpss] at RV1 hmf hml HP1
    rw [hqss] at RV2 hmf hml PR2
    obtain ⟨aP, cP, hv11, hrd1⟩ := RV1.out.read B56.out
    subst hv11
    obtain ⟨aQ, cQ, hv12, hrd2⟩ := RV2.out.read (Below.refl _ _)
    subst hv12
    obtain ⟨G, hG⟩ : ∃ G, w6.heap.size = G := ⟨_, rfl⟩
    have HG := hidH hG
    have hsz56 := B56.out.size
    have RP : Hid (∀ (i : Nat) p, pss[i]? = some p → ∃ gP, aP = some ⟨gP, 0, none⟩ ∧ gP < G ∧ ∃ a' c', w6.cell? ⟨gP, i, none⟩ = some (.slice a' p.length c') ∧ Rd1 G w6 a' p) := fun i p hp => by
      obtain ⟨gP, e, h1, a', c', h2, h3⟩ := hrd1 i p hp
      refine ⟨gP, e, by omega, a', c', h2, fun h0 => ?_⟩
      obtain ⟨g', e', h4, h5⟩ := h3 h0
      exact ⟨g', e', by omega, h5⟩
    have RQ : Hid (∀ (i : Nat) p, qss[i]? = some p → ∃ gP, aQ = some ⟨gP, 0, none⟩ ∧ gP < G ∧ ∃ a' c', w6.cell? ⟨gP, i, none⟩ = some (.slice a' p.length c') ∧ Rd1 G w6 a' p) := fun i p hp => by
      obtain ⟨gP, e, h1, a', c', h2, h3⟩ := hrd2 i p hp
      refine ⟨gP, e, by omega, a', c', h2, fun h0 => ?_⟩
      obtain ⟨g', e', h4, h5⟩ := h3 h0
      exact ⟨g', e', by omega, h5⟩
    have HMF := hidH hmf
    have HML := hidH hml
    have hpn : pss.length ≤ n := HP1.out
    have kp : IntKind.i64.wrap ((pss.length : Int) + 1) = (pss.length : Int) + 1 := by rw [IntWalk.i64_in _ ⟨by omega, by omega⟩]
    rw [hml]
    clear hrd1 hrd2 RV1 RV2 LW1 LN1 LL1 LW2 LN2 LL2 HP1 hmf hpss hqss hml B56 hsz56
    obtain ⟨pl, hpl⟩ : ∃ pl, pss.length = pl := ⟨_, rfl⟩
    have HPL := hidH hpl
    rw [hpl] at hpn kp ⊢
    clear hpl
    go_wp2
    go_loopg [13, 87] (pl + 1) (fun gk s13 si wq => ∃ (i k : Nat), gk = pl + 1 - i ∧ s13 = .int .i64 (k : Int) ∧ si = .int .i64 (i : Int) ∧ i ≤ pl + 1 ∧ k = ((qss.take i).filter fun p => decide (p ≠ [(n : Int)])).length ∧ Below G w6 wq)
    case atStart => exact ⟨0, 0, rfl, rfl, rfl, Nat.zero_le _, rfl, Below.refl _ _⟩
    case round =>
      obtain ⟨i, k, hgk, rfl, rfl, hi, hk, hE⟩ := hrel
      have EE := hidH hE
      have HK := hidH hk
      clear hE hk
      by_cases hip : i < pl + 1
      · have hip' : (i : Int) < (pl : Int) + 1 := by omega
        have ki : IntKind.i64.wrap ((i : Int) + 1) = ((i + 1 : Nat) : Int) := by rw [IntWalk.i64_in _ ⟨by omega, by omega⟩]; omega
        obtain ⟨p, hp⟩ : ∃ p, qss[i]? = some p := ⟨_, List.getElem?_eq_getElem (by have := HML.out; have := HPL.out; omega)⟩
        have HTK : Hid (((qss.take (i + 1)).filter fun p => decide (p ≠ [(n : Int)])).length = k + if p = [(n : Int)] then 0 else 1) := by
          obtain ⟨h1, e1⟩ := List.getElem?_eq_some_iff.1 hp
          unfold Hid
          rw [List.take_succ_eq_append_getElem h1, e1, List.filter_append, List.length_append, ← HK.out]
          congr 1
          by_cases e : p = [(n : Int)]
          · rw [if_pos e, List.filter_cons_of_neg (by simpa using e)]; rfl
          · rw [if_neg e, List.filter_cons_of_pos (by simpa using e)]; rfl
        obtain ⟨gQ, rfl, hgQ, a', c', cQ0, hrQ⟩ := RQ.out i p hp
        have cQ' := (EE.out.cell (p := ⟨gQ, i, none⟩) hgQ).trans cQ0
        have RQi := hidH (hrQ.below EE.out)
        by_cases hpe : p = [(n : Int)]
        · subst hpe
          obtain ⟨g', rfl, -, hcl⟩ := RQi.out (by simp)
          have c0 := hcl 0 (n : Int) rfl
          have cQ1 : wr.cell? ⟨gQ, i, none⟩ = some (.slice (some ⟨g', 0, none⟩) 1 c') := cQ'
          clear hp cQ0 hrQ hcl cQ'
          go_wp2
          go_roundg (pl + 1 - (i + 1))
          case measure => omega
          case rel => exact ⟨i + 1, k, rfl, rfl, rfl, by omega, by have h9 := HTK.out; rw [if_pos trivial] at h9; omega, EE.out⟩
        · have hat := filter_at (fun p => decide (p ≠ [(n : Int)])) qss i p hp (by simpa using hpe)
          rw [← HK.out, HMF.out] at hat
          have hkl : k < pl := by have := (List.getElem?_eq_some_iff.1 hat).1; have := HPL.out; omega
          obtain ⟨gP, rfl, hgP, b', d', cP0, hrP⟩ := RP.out k p hat
          have cP' := (EE.out.cell (p := ⟨gP, k, none⟩) hgP).trans cP0
          have hGw : G ≤ wr.heap.size := by have := EE.out.size; have := HG.out; omega
          have hpl2 : p.length ≤ n + 1 := nodup_le (pw_nodup (PR2.out.up i p hp).1) (PR2.out.up i p hp).2.2
          have SM := hidH (same_ints a' b' c' d' p wr (RQi.out.lies hGw) ((hrP.below EE.out).lies hGw) (by unfold maxLen; omega))
          have hk1 : ((k : Int) == (pl : Int)) = false := by rw [beq_eq_false_iff_ne]; omega
          have hk2 : ¬ (k : Int) = (pl : Int) := by omega
          have hk3 : (k : Int) < (pl : Int) := by omega
          have kk : IntKind.i64.wrap ((k : Int) + 1) = ((k + 1 : Nat) : Int) := by rw [IntWalk.i64_in _ ⟨by omega, by omega⟩]; omega
          have HTK2 : Hid (k + 1 = ((qss.take (i + 1)).filter fun p => decide (p ≠ [(n : Int)])).length) := by have h9 := HTK.out; rw [if_neg hpe] at h9; exact h9.symm
          obtain ⟨m, hm2⟩ : ∃ m, p.length = m := ⟨_, rfl⟩
          have HM2 := hidH hm2
          rw [hm2] at cQ' cP' SM
          clear hp cQ0 hrQ hat cP0 hrP hm2 HTK
          by_cases hm1 : m = 1
          · obtain ⟨z, hz⟩ := List.length_eq_one_iff.1 (HM2.out.trans hm1)
            subst hz
            have hzn : z ≠ (n : Int) := fun e => hpe (by rw [e])
            have hz1 : (z == (n : Int)) = false := by rw [beq_eq_false_iff_ne]; exact hzn
            obtain ⟨g', rfl, -, hcl⟩ := RQi.out (by simp)
            have c0 := hcl 0 z rfl
            subst hm1
            clear hcl
            go_wp2_with (go_at_call 8; (with_reducible refine SM.out.mono ?_); clear SM; rintro e w8 ⟨rfl, hb8⟩; have E8 := hidH (EE.out.trans (hb8.mono hGw)); clear hb8)
            go_roundg (pl + 1 - (i + 1))
            case measure => omega
            case rel => exact ⟨i + 1, k + 1, rfl, rfl, rfl, by omega, HTK2.out, E8.out⟩
          · have hm3 : ((m : Int) == 1) = false := by rw [beq_eq_false_iff_ne]; omega
            have hm4 : ¬ (m : Int) = 1 := by omega
            go_wp2_with (go_at_call 8; (with_reducible refine SM.out.mono ?_); clear SM; rintro e w8 ⟨rfl, hb8⟩; have E8 := hidH (EE.out.trans (hb8.mono hGw)); clear hb8)
            go_roundg (pl + 1 - (i + 1))
            case measure => omega
            case rel => exact ⟨i + 1, k + 1, rfl, rfl, rfl, by omega, HTK2.out, E8.out⟩
      · have hip' : ¬ (i : Int) < (pl : Int) + 1 := by omega
        obtain ⟨w7, hw7⟩ : ∃ w7, w7 = wr := ⟨wr, rfl⟩
        subst hw7
        have HB7 : Hid (Below w.heap.size w w7) := HB6.out.trans (EE.out.mono (by have := HB6.out.size; have := HG.out; omega))
        have QC := hidH (classes_ok n cap s ps w7 (HL.out.below HB7.out) HS0.out hm HT.out)
        go_upto_region 22 with (first
          | (go_at_call 11; (with_reducible refine QC.out.mono ?_); clear QC; rintro e w8 ⟨v16, rfl, hb8, c, ho8, hc8⟩; have HB8 := hidH (HB7.out.trans (hb8.mono HB7.out.size)); have OC := hidH ho8; have CC := hidH hc8; have QD : Hid (Calls Try.prog 11 #[.int .i64 ((n : Int) + 1), .slice s ps.length cap] w8 fun e w' => ∃ v, e = .returned (.tuple #[v, .int .i64 0]) ∧ Below w8.heap.size w8 w' ∧ ∃ l, w'.ownsRow w8.heap.size 3 1 v l.length (ivs l) ∧ CL (both ps) (n + 1) l) := (classes_ok (n + 1) cap s ps w8 (HL.out.below HB8.out) HS0.out hm HT2.out); clear hb8 ho8 hc8)
          | (go_at_call 11; (with_reducible refine QD.out.mono ?_); clear QD; rintro e w9 ⟨v17, rfl, hb9, d, ho9, hc9⟩; have HB9 := hidH (HB8.out.trans (hb9.mono HB8.out.size)); have OC9 := hidH (own_belowR OC.out hb9 (Nat.le_refl _)); have OD := hidH ho9; have CD := hidH hc9; clear hb9 ho9 hc9 OC))
        obtain ⟨htk, hdn⟩ := more_class HPS.out CC.out CD.out
        have hcl : c.length = n := CC.out.1
        have hdl : d.length = n + 1 := CD.out.1
        obtain ⟨aC, cC, hv16, -, -⟩ := own_slice OC9.out
        subst hv16
        obtain ⟨aD, cD, hv17, haD, hDc⟩ := own_slice OD.out
        subst hv17
        obtain ⟨gD, rfl⟩ := haD (by omega)
        have hdc : d.length ≤ cD := by
          rcases OD.out.2 with ⟨hv, h0⟩ | ⟨g, cap2, cur, hv, -, -, hle, -⟩
          · omega
          · injection hv with e1 e2 e3
            omega
        have RD : Rd1 w9.heap.size w9 (some ⟨gD, 0, none⟩) d := Rd1.of (B := w8.heap.size) (c := cD) (by have h9 := OD.out; rw [show ivs d = flat d from (flat_ints d).symm] at h9; exact h9) (Nat.le_refl _)
        have RCc : Rd1 w9.heap.size w9 aC c := Rd1.of (B := w7.heap.size) (c := cC) (by have h9 := OC9.out; rw [show ivs c = flat c from (flat_ints c).symm] at h9; exact h9) (Nat.le_refl _)
        have RDn : Rd1 w9.heap.size w9 (some ⟨gD, 0, none⟩) c := fun h0 => by
          obtain ⟨g, e, hg, hc⟩ := RD (by omega)
          refine ⟨g, e, hg, fun j y hj => hc j y ?_⟩
          rw [← htk, List.getElem?_take] at hj
          split at hj
          · exact hj
          · cases hj
        obtain ⟨g9, e9, -, hcd⟩ := RD (by omega)
        cases e9
        have cdn := hcd n _ hdn
        have SM := hidH (fun c2 => same_ints aC (some ⟨gD, 0, none⟩) cC c2 c w9 (RCc.lies (Nat.le_refl _)) (RDn.lies (Nat.le_refl _)) (by unfold maxLen; omega))
        rw [hcl] at SM
        rw [hcl, hdl]
        have hnn : (n : Int) < (n : Int) + 1 := by omega
        have hDc2 : (n : Int) ≤ (cD : Int) := by omega
        have hDc3 : n ≤ cD := by omega
        clear RD RCc RDn hcd htk hdn OC9 OD
        go_wp2_with (go_at_call 8; (with_reducible refine (SM.out _).mono ?_); clear SM; rintro e w10 ⟨rfl, hb10⟩; have HB10 := hidH (HB9.out.trans (hb10.mono HB9.out.size)); clear hb10)
        go_ret
        exact ⟨rfl, HB10.out⟩
end Go.Proofs.Ytgijcbipnjmhgab

namespace Go.Proofs.Ytgijcbipnjmhgab
open Go.ChangeShapes Go.WideShapes Go.ChangeAt Go.RowKit
set_option linter.unusedVariables false
set_option linter.unusedSimpArgs false

theorem graphMore_walk (n : Int) (s : Option Addr) (cap : Nat) (ps : List Pr) (w : World) (bn0 : -9223372036854775808 ≤ n) (bn1 : n ≤ 9223372036854775807) (hL : LiesA w s ps) (hn : s = none → ps.length = 0 ∧ cap = 0) (hl : ps.length * 16 ≤ 140737488351232) :
    Calls Try.prog 3 #[.int .i64 n, .slice s ps.length cap] w fun e w' => e = .returned (.bool true) ∧ Below w.heap.size w w' := by
  cases ht : things n ps with
  | false => exact more_bad n s cap ps w hL (by omega) ht
  | true =>
    by_cases he : n = 131072
    · subst he
      exact more_end s cap ps w hL (by omega) ht
    · have hn0 : 0 ≤ n := by
        have h9 := ht
        unfold things at h9
        simp only [Bool.and_eq_true, decide_eq_true_eq] at h9
        exact h9.1.1
      obtain ⟨n, rfl⟩ : ∃ m : Nat, n = (m : Int) := ⟨n.toNat, by omega⟩
      exact more_ok n cap s ps w hL hn (by omega) ht (by have := (things_spec ht).1; omega)
end Go.Proofs.Ytgijcbipnjmhgab
