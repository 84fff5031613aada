import Derived.Test.YtgijcbipnjmhgaaGq2
import Derived.Test.YtgijcbipnjmhgaaTg2
import Derived.Test.YtgijcbipnjmhgaaGc5
import Derived.Test.YtgijcbipnjmhgaaTg0
import Derived.Test.YtgijcbipnjmhgaaSmD
import Derived.Deep.RegionHeld3
import Derived.BigQuiet
import Derived.Test.YtgijcbipnjmhgaaOpp
namespace Go.Proofs.Ytgijcbipnjmhgaa
open Go.ChangeShapes Go.WideShapes Go.ChangeAt Go.RowKit
set_option linter.unusedVariables false
set_option linter.unusedSimpArgs false

theorem tvd_drop {ps : List Pr} {k : Nat} {p : Pr} (h : ps[k]? = some p) : tvd (ps.drop k) = tvd (ps.drop (k + 1)) ++ [swapP p] := by
  obtain ⟨h1, e1⟩ := List.getElem?_eq_some_iff.1 h
  unfold tvd
  rw [List.drop_eq_getElem_cons h1, e1, List.map_cons, List.reverse_cons]
theorem tvd_len (ps : List Pr) : (tvd ps).length = ps.length := by unfold tvd; rw [List.length_reverse, List.length_map]
theorem things_tvd {n : Int} {ps : List Pr} (h : things n ps = true) : things n (tvd ps) = true := by
  unfold things tvd at *
  simp only [Bool.and_eq_true, List.all_eq_true] at h ⊢
  refine ⟨h.1, fun p hp => ?_⟩
  rw [List.mem_reverse, List.mem_map] at hp
  obtain ⟨q, hq, rfl⟩ := hp
  have := h.2 q hq
  unfold thp swapP at *
  simp only [Bool.and_eq_true] at this ⊢
  exact ⟨this.2, this.1⟩
theorem things_app {n a b : Int} {ps : List Pr} (h : things n ps = true) (ha : 0 ≤ a ∧ a < n) (hb : 0 ≤ b ∧ b < n) : things n (ps ++ [⟨a, b⟩]) = true := by
  unfold things at *
  simp only [Bool.and_eq_true, List.all_append] at h ⊢
  refine ⟨h.1, h.2, ?_⟩
  simp [thp, thg]
  omega
set_option maxRecDepth 1000000 in
set_option maxHeartbeats 2000000 in
theorem tied_bad (n : Int) (s : Option Addr) (cap : Nat) (ps : List Pr) (a b : Int) (w : World) (hL : LiesA w s ps) (hm : ps.length ≤ 8796093022208) (h : things n ps = false) :
    Calls Try.prog 6 #[.int .i64 n, .slice s ps.length cap, .int .i64 a, .int .i64 b] w fun e w' => e = .returned (.bool true) ∧ Below w.heap.size w w' := by
  have HL := hidH hL
  have QC := hidH (classes_bad n s cap ps w hL hm h)
  have HT := hidH h
  clear hL h
  go_enter Try.func6, Try.ntmps6
  go_wp2_with (first
    | (go_at_call 14; (with_reducible refine QC.out.mono ?_); clear QC; rintro e w1 ⟨rfl, hb1⟩; have HB1 := hidH hb1; have QT := hidH (right_any n s cap ps w1 (HL.out.below hb1) hm); rw [HT.out] at QT; clear hb1)
    | (go_at_call 17; (with_reducible refine QT.out.mono ?_); clear QT; rintro e w2 ⟨rfl, hb2⟩; have HB2 := hidH (HB1.out.trans (hb2.mono HB1.out.size)); clear hb2 HB1))
  go_ret
  exact ⟨rfl, HB2.out⟩
/-- a row of numbers that is read, below C -/
def Rd1 (C : Nat) (w : World) (a : Option Addr) (ls : List Int) : Prop := 0 < ls.length → ∃ g, a = some ⟨g, 0, none⟩ ∧ g < C ∧ ∀ (j : Nat) y, ls[j]? = some y → w.cell? ⟨g, j, none⟩ = some (.int .i64 y)
theorem Rd1.of {C B c : Nat} {w : World} {a : Option Addr} {ls : List Int} (h : w.ownsRow B 3 1 (.slice a ls.length c) ls.length (flat ls)) (hC : w.heap.size ≤ C) : Rd1 C w a ls := fun h0 => by
  obtain ⟨a', c', hv, ha, -⟩ := own_slice h
  injection hv with e1 e2 e3
  subst e1
  obtain ⟨g, rfl⟩ := ha h0
  exact ⟨g, rfl, Nat.lt_of_lt_of_le (h.lt g rfl).2 hC, fun j y hj => (row_cell h hj).1⟩
theorem Rd1.below {C : Nat} {w w' : World} {a : Option Addr} {ls : List Int} (h : Rd1 C w a ls) (hb : Below C w w') : Rd1 C w' a ls := fun h0 => by
  obtain ⟨g, e, hg, hc⟩ := h h0
  exact ⟨g, e, hg, fun j y hj => (hb.cell (p := ⟨g, j, none⟩) hg).trans (hc j y hj)⟩
theorem Rd1.up {C C' : Nat} {w : World} {a : Option Addr} {ls : List Int} (h : Rd1 C w a ls) (hb : C ≤ C') : Rd1 C' w a ls := fun h0 => by
  obtain ⟨g, e, hg, hc⟩ := h h0
  exact ⟨g, e, Nat.lt_of_lt_of_le hg hb, hc⟩
theorem Rd1.lies {C : Nat} {w : World} {a : Option Addr} {ls : List Int} (h : Rd1 C w a ls) (hC : C ≤ w.heap.size) : LiesA w a ls := by
  by_cases h0 : ls = []
  · exact .inl h0
  · obtain ⟨g, rfl, hg, hc⟩ := h (List.length_pos_iff.2 h0)
    refine .inr ⟨g, 0, rfl, Nat.lt_of_lt_of_le hg hC, fun j u hj => ?_⟩
    rw [flat_ints, List.getElem?_map] at hj
    obtain ⟨y, hy, rfl⟩ := Option.map_eq_some_iff.1 hj
    rw [Nat.zero_add]
    exact hc j y hy
theorem own_liesI' {w : World} {B : Nat} {a : Option Addr} {c : Nat} {L : List Int} (h : w.ownsRow B 3 1 (.slice a L.length c) L.length (ivs L)) : LiesA w a L :=
  (Rd1.of (B := B) (c := c) (by rw [flat_ints]; exact h) (Nat.le_refl _)).lies (Nat.le_refl _)
set_option maxRecDepth 1000000 in
set_option maxHeartbeats 4000000 in
theorem tied_ok (n cap : Nat) (s : Option Addr) (ps : List Pr) (a b : Int) (w : World) (hL : LiesA w s ps) (hs0 : s = none → ps.length = 0 ∧ cap = 0) (hm : ps.length * 16 ≤ 140737488351232) (ht : things (n : Int) ps = true) :
    Calls Try.prog 6 #[.int .i64 (n : Int), .slice s ps.length cap, .int .i64 a, .int .i64 b] w fun e w' => e = .returned (.bool true) ∧ Below w.heap.size w w' := by
  obtain ⟨hn, hps⟩ := things_spec ht
  obtain ⟨i0, hi0, hz0, hz1, hz2⟩ := info_parts infoPr
  have HL := hidH hL
  have HT := hidH ht
  have HPS := hidH hps
  have QC := hidH (classes_ok n cap s ps w hL hs0 (by omega) ht)
  clear hL hs0 ht hps
  go_enter Try.func6, Try.ntmps6
  go_upto_region 4 with (first
    | (go_at_call 14; (with_reducible refine QC.out.mono ?_); clear QC; rintro e w1 ⟨v1, rfl, hb1, ls, ho1, hc1⟩; have HB1 := hidH hb1; have OL := hidH ho1; have CLS := hidH hc1; have QT := hidH (right_any (n : Int) s cap ps w1 (HL.out.below hb1) (by omega)); rw [HT.out] at QT; clear hb1 ho1 hc1)
    | (go_at_call 17; (with_reducible refine QT.out.mono ?_); clear QT; rintro e w2 ⟨rfl, hb2⟩; have HB2 := hidH (HB1.out.trans (hb2.mono HB1.out.size)); have OL2 := hidH (own_belowR OL.out hb2 (Nat.le_refl _)); clear hb2 HB1 OL))
  have hll : ls.length = n := CLS.out.1
  obtain ⟨aL, cL, hv1, -, -⟩ := own_slice OL2.out
  subst hv1
  have RL : Hid (Rd1 w2.heap.size w2 aL ls) := Rd1.of (B := w.heap.size) (c := cL) (by have h9 := OL2.out; rw [show ivs ls = flat ls from (flat_ints ls).symm] at h9; exact h9) (Nat.le_refl _)
  have HLL := hidH hll
  obtain ⟨C, hC⟩ : ∃ C, w2.heap.size = C := ⟨_, rfl⟩
  have HCE := hidH hC
  have hBC : w.heap.size ≤ C := by have := HB2.out.size; omega
  rw [hC] at RL
  rw [hll]
  clear OL2 hll
  have kp : IntKind.i64.wrap ((ps.length : Int) - 1) = (ps.length : Int) - 1 := by rw [IntWalk.i64_in _ ⟨by omega, by omega⟩]
  go_wp2
  go_loopg [11, 12] ps.length (fun gk s11 s12 wr => ∃ (k : Nat) (d : Int) (V : Value), gk = k ∧ s11 = V ∧ s12 = .int .i64 d ∧ d = (k : Int) - 1 ∧ k ≤ ps.length ∧ wr.ownsRow C 40 2 V (tvd (ps.drop k)).length (flat (tvd (ps.drop k))) ∧ Below C w2 wr)
  case atStart => exact ⟨ps.length, _, _, rfl, rfl, rfl, rfl, Nat.le_refl _, by rw [List.drop_length]; exact World.ownsRow_nil _ _ _ _, by rw [← hC]; exact Below.refl _ _⟩
  case round =>
    obtain ⟨k, d, V, hgk, rfl, rfl, hd, hk, hO, hE⟩ := hrel
    have OT := hidH hO
    have EE := hidH hE
    clear hO hE
    obtain ⟨aT, cT, hV, haT, -⟩ := own_slice OT.out
    subst hV
    have hCw : C ≤ wr.heap.size := by have := EE.out.size; omega
    by_cases hk0 : 0 < k
    · obtain ⟨i, rfl⟩ : ∃ i, k = i + 1 := ⟨k - 1, by omega⟩
      obtain rfl : d = (i : Int) := by omega
      have hip : i < ps.length := by omega
      have hip' : (i : Int) < (ps.length : Int) := by omega
      have hi00 : (0 : Int) ≤ (i : Int) := by omega
      obtain ⟨p, hp⟩ : ∃ p, ps[i]? = some p := ⟨_, List.getElem?_eq_getElem hip⟩
      obtain ⟨gs, o, hs, hLi⟩ : ∃ b o, s = some ⟨b, o, none⟩ ∧ Lies w b o ps := by
        rcases HL.out with h | h
        · rw [h] at hip; exact absurd hip (Nat.not_lt_zero _)
        · exact h
      subst hs
      obtain ⟨pa, pb⟩ := p
      have hrp := HPS.out _ (List.mem_of_getElem? hp)
      simp only at hrp
      obtain ⟨x, rfl⟩ : ∃ x : Nat, pa = (x : Int) := ⟨pa.toNat, by omega⟩
      obtain ⟨y, rfl⟩ : ∃ y : Nat, pb = (y : Int) := ⟨pb.toNat, by omega⟩
      have hxn : x < n := by omega
      have hyn : y < n := by omega
      have hbw : Below w.heap.size w wr := HB2.out.trans (EE.out.mono hBC)
      obtain ⟨d0, d1⟩ := (hLi.below hbw hLi.1).pr hp
      simp only at d0 d1
      have hgs : gs < w.heap.size := hLi.1
      have HTD := hidH (tvd_drop hp)
      have HEG := hidH (List.mem_of_getElem? hp)
      obtain ⟨q, hq⟩ : ∃ q, (tvd (ps.drop (i + 1))).length = q := ⟨_, rfl⟩
      have hqp : q ≤ ps.length := by rw [← hq, tvd_len, List.length_drop]; omega
      have HQ := hidH hq
      have OQ : Hid (wr.ownsRow C 40 2 (.slice aT q cT) q (flat (tvd (ps.drop (i + 1))))) := by have h9 := OT.out; rw [hq] at h9; exact h9
      have hne : Hid (some gs ≠ (Value.slice aT q cT).ownBlock) := fun e => by have := (OQ.out.lt gs e.symm).1; omega
      have ki : IntKind.i64.wrap ((i : Int) - 1) = (i : Int) - 1 := by rw [IntWalk.i64_in _ ⟨by omega, by omega⟩]
      rw [hq]
      clear hq hp hrp hLi hd OT
      go_upto_region 10 with fail
      go_region_held3 (fun z => z.cell? ⟨gs, o + i * 2, none⟩ = some (.int .i64 (x : Int)) ∧ z.cell? ⟨gs, o + i * 2 + 1, none⟩ = some (.int .i64 (y : Int)))
        (first
          | go_keep
          | (refine ⟨?_, ?_⟩ <;> assumption))
        ((first
          | (refine step_append_lies _ (by rfl) _ _ _ (by rfl) C 40 i0 (.agg #[.int .i64 0, .int .i64 0]) 2 16 Try.underlying22 hi0 hz0 hz1 hz2 rfl (by omega) (.slice aT q cT) q (flat (tvd (ps.drop (i + 1)))) (by rfl) (OQ.out.drew.alloc _) ⟨wr.heap.size, 0, none⟩ 1 1 (flat [(⟨(y : Int), (x : Int)⟩ : Pr)]) (by rfl) (by rfl) (cells_new wr.drew (flat [(⟨(y : Int), (x : Int)⟩ : Pr)]) 40) (flat_oneCell _) (by omega) (by unfold maxLen; omega) (by omega) (by simp; omega) (wr.heap.size + 1) (by simp) ?_; intro gg cp w4 hown4 hgrow4 hat hlt4; have x0 : w4.cell? ⟨gs, o + i * 2, none⟩ = some (.int .i64 (x : Int)) := hgrow4.cell ((World.cell?_alloc_past _ _ _ (by show gs < wr.heap.size; omega)).trans d0) hne.out; have x1 : w4.cell? ⟨gs, o + i * 2 + 1, none⟩ = some (.int .i64 (y : Int)) := hgrow4.cell ((World.cell?_alloc_past _ _ _ (by show gs < wr.heap.size; omega)).trans d1) hne.out)))
      have E4 : Hid (Below C w2 w4) := (EE.out.drew.alloc (by show C ≤ wr.heap.size; omega) _).grown hgrow4 (by simp; omega) (fun k h => (OQ.out.lt k h).1)
      have O4 : Hid (w4.ownsRow C 40 2 (.slice (some ⟨gg, 0, none⟩) (q + 1) cp) (tvd (ps.drop i)).length (flat (tvd (ps.drop i)))) := by unfold Hid; rw [HTD.out, flat_append, List.length_append, HQ.out]; exact hown4
      obtain ⟨gL, rfl, hgL, hcL⟩ := (RL.out.below E4.out) (by have := HLL.out; omega)
      obtain ⟨r, hr, -, -⟩ := CLS.out.2 x hxn
      have hr2 := CLS.out.same hxn hyn (.step (both_mem.2 (.inl HEG.out)) (.refl _))
      rw [hr] at hr2
      have cx := hcL x _ hr
      have cy := hcL y _ hr2.symm
      have hx0 : (0 : Int) ≤ (x : Int) := by omega
      have hy0 : (0 : Int) ≤ (y : Int) := by omega
      have hx1 : (x : Int) < (n : Int) := by omega
      have hy1 : (y : Int) < (n : Int) := by omega
      clear hown4 hgrow4 hat hlt4 d0 d1 EE OQ hcL hr hr2 hbw
      go_upto_region 11 with fail
      go_quiet (fail)
      obtain ⟨w7, hw7⟩ : ∃ w7, w4.drewN nq = w7 := ⟨_, rfl⟩
      have hdr : Below w4.heap.size w4 w7 := by rw [← hw7]; exact ⟨rfl, rfl, rfl, Nat.le_refl _, fun _ _ => rfl⟩
      have E7 := hidH (E4.out.trans (hdr.mono (by have := E4.out.size; omega)))
      have O7 := hidH (own_belowR O4.out hdr (Nat.le_refl _))
      rw [hw7]
      clear hw7 hdr x0 x1 cx cy E4 O4
      go_wp2
      go_roundg i
      case measure => omega
      case rel => exact ⟨i, _, _, rfl, rfl, rfl, rfl, by omega, O7.out, E7.out⟩
    · have hk2 : k = 0 := by omega
      subst hk2
      have hd2 : d = -1 := by omega
      subst hd2
      have hw8 : C ≤ wr.heap.size := hCw
      obtain ⟨w3, hw3⟩ : ∃ w3, w3 = wr := ⟨wr, rfl⟩
      subst hw3
      have OT2 : Hid (w3.ownsRow C 40 2 (.slice aT ps.length cT) ps.length (flat (tvd ps))) := by have h9 := OT.out; rw [List.drop_zero, tvd_len] at h9; exact h9
      have LT : Hid (LiesA w3 aT (tvd ps)) := own_liesP (B := C) (c := cT) (by rw [tvd_len]; exact OT2.out)
      have NT : Hid (aT = none → (tvd ps).length = 0 ∧ cT = 0) := fun e => by
        subst e
        rcases OT2.out.2 with ⟨hv, h0⟩ | ⟨g, cc, cur, hv, -⟩
        · injection hv with e1 e2 e3
          exact ⟨by rw [tvd_len]; exact h0, e3⟩
        · injection hv with e1
          cases e1
      have hTL : (tvd ps).length = ps.length := tvd_len ps
      have Q2 := hidH (classes_ok n cT aT (tvd ps) w3 LT.out NT.out (by omega) (things_tvd HT.out))
      rw [hTL] at Q2
      rw [show (tvd (ps.drop 0)).length = ps.length by rw [List.drop_zero, tvd_len]]
      clear hTL OT hk0 hk hgk hd
      go_upto_region 16 with (first
        | (go_at_call 14; (with_reducible refine Q2.out.mono ?_); clear Q2; rintro e w4 ⟨v4, rfl, hb4, ms, ho4, hc4⟩; have E4 := hidH (EE.out.trans (hb4.mono hCw)); have hms : ms = ls := (hc4.congr (both_tvd ps)).one CLS.out; rw [hms] at ho4; obtain ⟨a4, c4, hv4, -, -⟩ := own_slice ho4; subst hv4; have SM := hidH (same_ints aL a4 cL c4 ls w4 ((RL.out.below E4.out).lies (by have := E4.out.size; omega)) (own_liesI' ho4) (by unfold maxLen; have := HLL.out; omega)); rw [HLL.out] at SM; have OT4 := hidH (own_belowR OT2.out hb4 (Nat.le_refl _)); rw [HLL.out]; clear hb4 ho4 hc4 hms OT2)
        | (go_at_call 12; (with_reducible refine SM.out.mono ?_); clear SM; rintro e w5 ⟨rfl, hb5⟩; have E5 := hidH (E4.out.trans (hb5.mono (by have := E4.out.size; omega))); have OT5 := hidH (own_belowR OT4.out hb5 (Nat.le_refl _)); clear hb5 E4 OT4))
      have hC5 : C ≤ w5.heap.size := by have := E5.out.size; omega
      have RL5 := hidH (RL.out.below E5.out)
      go_wp2
      go_loopg [104] n (fun gk si wq => ∃ k : Nat, gk = n - k ∧ si = .int .i64 (k : Int) ∧ k ≤ n ∧ wq = w5)
      case atStart => exact ⟨0, rfl, rfl, Nat.zero_le _, rfl⟩
      case round =>
        obtain ⟨k, hgk, rfl, hk, rfl⟩ := hrel
        by_cases hkn : k < n
        · have hkn' : (k : Int) < (n : Int) := by omega
          obtain ⟨gL, rfl, hgL, hcL⟩ := RL5.out (by have := HLL.out; omega)
          obtain ⟨r, hr, -, -⟩ := CLS.out.2 k hkn
          have hlo := CLS.out.low hkn hr
          have ck := hcL k _ hr
          have cr := hcL r _ hlo.2
          have hrk := hlo.1
          have hr1 : ¬ (r : Int) < 0 := by omega
          have hr2 : ¬ (k : Int) < (r : Int) := by omega
          have hr3 : (r : Int) < (n : Int) := by omega
          have hr4 : (0 : Int) ≤ (r : Int) := by omega
          have kk : IntKind.i64.wrap ((k : Int) + 1) = ((k + 1 : Nat) : Int) := by rw [IntWalk.i64_in _ ⟨by omega, by omega⟩]; omega
          clear hcL hr hlo
          go_wp2
          go_roundg (n - (k + 1))
          case measure => omega
          case rel => exact ⟨k + 1, rfl, rfl, by omega, rfl⟩
        · have hkn' : ¬ (k : Int) < (n : Int) := by omega
          have hk2 : k = n := by omega
          subst hk2
          obtain ⟨w6, hw6⟩ : ∃ w6, w6 = wr := ⟨wr, rfl⟩
          subst hw6
          have HBw6 : Hid (Below w.heap.size w w6) := HB2.out.trans (E5.out.mono hBC)
          have QP := hidH (parts_ok k cap s ps w6 (HL.out.below HBw6.out) (by omega) HT.out)
          go_upto_region 23 with (first
            | (go_at_call 16; (with_reducible refine QP.out.mono ?_); clear QP; rintro e w7 ⟨v7, rfl, hb7, lw, N, os, hlw, hN, hln, hrv⟩; have E7 := hidH (E5.out.trans (hb7.mono hC5)); have PR := hidH (pts_prt hlw hN hln); have HPL := hidH (Nat.le_trans (pts_len k lw os) (nodup_le hln.nod hln.rng)); have RV := hidH hrv; have OT7 := hidH (own_belowR OT5.out hb7 (Nat.le_refl _)); clear hb7 hlw hN hln hrv E5 OT5))
          obtain ⟨pss, hpss⟩ : ∃ pss, pts k lw os = pss := ⟨_, rfl⟩
          rw [hpss] at PR RV HPL
          obtain ⟨aP, cP, hv7, hrd⟩ := RV.out.read (Below.refl _ _)
          subst hv7
          obtain ⟨G, hG⟩ : ∃ G, w7.heap.size = G := ⟨_, rfl⟩
          have hCG : C ≤ G := by have := E7.out.size; omega
          rw [hG] at hrd
          have HG := hidH hG
          have HRD := hidH hrd
          have RL7 := hidH ((RL.out.below E7.out).up hCG)
          have hpl : pss.length ≤ k := HPL.out
          clear hrd RV hpss RL5
          go_wp2
          go_loopg [135] pss.length (fun gk si wq => ∃ i : Nat, gk = pss.length - i ∧ si = .int .i64 (i : Int) ∧ i ≤ pss.length ∧ Below G w7 wq)
          case atStart => exact ⟨0, rfl, rfl, Nat.zero_le _, Below.refl _ _⟩
          case round =>
            obtain ⟨i, hgk3, rfl, hi, hE⟩ := hrel
            have EE3 := hidH hE
            clear hE
            by_cases hip : i < pss.length
            · have hip' : (i : Int) < (pss.length : Int) := by omega
              obtain ⟨p, hp⟩ : ∃ p, pss[i]? = some p := ⟨_, List.getElem?_eq_getElem hip⟩
              obtain ⟨gP, rfl, hgP, a', c', cP0, hrow⟩ := HRD.out i p hp
              have cP' := (EE3.out.cell (p := ⟨gP, i, none⟩) hgP).trans cP0
              have HP := hidH hp
              have HROW := hidH hrow
              obtain ⟨hup, hne, hrg⟩ := PR.out.up i p hp
              have hpn : p.length ≤ k := nodup_le (pw_nodup hup) hrg
              have HRG := hidH hrg
              have HNE := hidH hne
              have kk : IntKind.i64.wrap ((i : Int) + 1) = ((i + 1 : Nat) : Int) := by rw [IntWalk.i64_in _ ⟨by omega, by omega⟩]; omega
              obtain ⟨m, hmq⟩ : ∃ m, p.length = m := ⟨_, rfl⟩
              have HMQ := hidH hmq
              rw [hmq] at cP' hpn
              clear hp hrow hup hrg hmq cP0 hne
              go_wp2
              go_loopg [141] m (fun g2 sj wq => ∃ j : Nat, g2 = m - j ∧ sj = .int .i64 (j : Int) ∧ j ≤ m ∧ Below G w7 wq)
              case atStart => exact ⟨0, rfl, rfl, Nat.zero_le _, EE3.out⟩
              case round =>
                clear EE3 cP'
                obtain ⟨j, hg2, rfl, hj, hE⟩ := hrel
                have EE3 := hidH hE
                clear hE
                by_cases hjm : j < m
                · have hjm' : (j : Int) < (m : Int) := by omega
                  have h0m : (0 : Int) < (m : Int) := by omega
                  obtain ⟨g', rfl, hg', hcl⟩ := HROW.out (by have := HMQ.out; omega)
                  obtain ⟨x0, hx0⟩ : ∃ y, p[j]? = some y := ⟨_, List.getElem?_eq_getElem (by have := HMQ.out; omega)⟩
                  obtain ⟨z0, hz00⟩ : ∃ y, p[0]? = some y := ⟨_, List.getElem?_eq_getElem (by have := HMQ.out; omega)⟩
                  have hxr := HRG.out x0 (List.mem_of_getElem? hx0)
                  have hzr := HRG.out z0 (List.mem_of_getElem? hz00)
                  obtain ⟨x, rfl⟩ : ∃ y : Nat, x0 = (y : Int) := ⟨x0.toNat, by omega⟩
                  obtain ⟨z, rfl⟩ : ∃ y : Nat, z0 = (y : Int) := ⟨z0.toNat, by omega⟩
                  have hxk : x < k := by omega
                  have hzk : z < k := by omega
                  have hsm := ((PR.out.sam i p x z HP.out (List.mem_of_getElem? hx0)).1 (List.mem_of_getElem? hz00)).2
                  have cx0 := (EE3.out.cell (p := ⟨g', j, none⟩) hg').trans (hcl j _ hx0)
                  have cz0 := (EE3.out.cell (p := ⟨g', 0, none⟩) hg').trans (hcl 0 _ hz00)
                  obtain ⟨gL, rfl, hgL, hcL⟩ := (RL7.out.below EE3.out) (by have := HLL.out; omega)
                  obtain ⟨r, hr, -, -⟩ := CLS.out.2 x hxk
                  have hr2 := CLS.out.same hxk hzk hsm.both
                  rw [hr] at hr2
                  have cx := hcL x _ hr
                  have cz := hcL z _ hr2.symm
                  have hx1 : ¬ (x : Int) < 0 := by omega
                  have hx2 : (x : Int) < (k : Int) := by omega
                  have hx3 : ¬ (k : Int) ≤ (x : Int) := by omega
                  have hx4 : (0 : Int) ≤ (x : Int) := by omega
                  have hz1' : (z : Int) < (k : Int) := by omega
                  have hz2' : (0 : Int) ≤ (z : Int) := by omega
                  have hd1 : decide ((x : Int) < 0) = false := decide_eq_false hx1
                  have hd2 : decide ((k : Int) ≤ (x : Int)) = false := decide_eq_false hx3
                  have kj : IntKind.i64.wrap ((j : Int) + 1) = ((j + 1 : Nat) : Int) := by rw [IntWalk.i64_in _ ⟨by omega, by omega⟩]; omega
                  clear hcl hx0 hz00 hxr hzr hsm hcL hr hr2
                  go_upto_region 31 with fail
                  go_quiet (fail)
                  obtain ⟨w9, hw9⟩ : ∃ w9, wr.drewN nq = w9 := ⟨_, rfl⟩
                  have hdr : Below wr.heap.size wr w9 := by rw [← hw9]; exact ⟨rfl, rfl, rfl, Nat.le_refl _, fun _ _ => rfl⟩
                  have E9 := hidH (EE3.out.trans (hdr.mono (by have := EE3.out.size; have := HG.out; omega)))
                  rw [hw9]
                  clear hw9 hdr cx cz cx0 cz0
                  go_wp2
                  go_roundg (m - (j + 1))
                  case measure => omega
                  case rel => exact ⟨j + 1, rfl, rfl, by omega, E9.out⟩
                · have hjm' : ¬ (j : Int) < (m : Int) := by omega
                  go_wp2
                  go_roundg (pss.length - (i + 1))
                  case measure => omega
                  case rel => exact ⟨i + 1, rfl, rfl, by omega, EE3.out⟩
            · have hip' : ¬ (i : Int) < (pss.length : Int) := by omega
              obtain ⟨w8, hw8'⟩ : ∃ w8, w8 = wr := ⟨wr, rfl⟩
              subst hw8'
              have HB8 : Hid (Below w.heap.size w w8) := HB2.out.trans ((E7.out.trans (EE3.out.mono hCG)).mono hBC)
              by_cases hab : (0 ≤ a ∧ a < (k : Int)) ∧ (0 ≤ b ∧ b < (k : Int))
              · obtain ⟨⟨ha0, ha1⟩, hb0, hb1⟩ := hab
                obtain ⟨a, rfl⟩ : ∃ y : Nat, a = (y : Int) := ⟨a.toNat, by omega⟩
                obtain ⟨b, rfl⟩ : ∃ y : Nat, b = (y : Int) := ⟨b.toNat, by omega⟩
                have ha2 : ¬ (a : Int) < 0 := by omega
                have ha3 : ¬ (k : Int) ≤ (a : Int) := by omega
                have hb2 : ¬ (b : Int) < 0 := by omega
                have hb3 : ¬ (k : Int) ≤ (b : Int) := by omega
                have hw8C : C ≤ w8.heap.size := by have := EE3.out.size; have := HG.out; omega
                obtain ⟨w9, e9, hb9, hs9, X9⟩ := bx1 w8 #[.int .i64 (a : Int), .int .i64 (b : Int)] 40
                have NA : Hid (∀ j z, [Value.int .i64 (a : Int), .int .i64 (b : Int)][j]? = some z → w9.cell? ((⟨w8.heap.size, 0, none⟩ : Addr).add j) = some z) := by unfold Hid; rw [← e9]; exact cells_newR w8 [Value.int .i64 (a : Int), .int .i64 (b : Int)] 40
                have HEA := hidH e9
                have HSA := hidH hs9
                have OA := hidH (own_belowR (own_belowR OT7.out EE3.out (by have := HG.out; omega)) hb9 (Nat.le_refl _))
                have EA : Hid (Below G w7 w9) := EE3.out.trans (hb9.mono (by have := EE3.out.size; have := HG.out; omega))
                have hw9C : C ≤ w9.heap.size := by omega
                have HB9 : Hid (Below w.heap.size w w9) := HB8.out.trans (hb9.mono HB8.out.size)
                clear e9 hb9 hs9 X9 OT7
                go_upto_region 38 with (first
                  | (at_builtin; rw [HEA.out]; refine wpList_append_lies _ rfl _ _ 22 rfl C 40 i0 (.agg #[.int .i64 0, .int .i64 0]) 2 16 Try.underlying22 hi0 hz0 hz1 hz2 rfl (by decide) _ ps.length (flat (tvd ps)) rfl OA.out ⟨w8.heap.size, 0, none⟩ 1 1 [Value.int .i64 (a : Int), .int .i64 (b : Int)] rfl rfl NA.out (by intro z hz; simp at hz; rcases hz with rfl | rfl <;> rfl) (by decide) (by unfold maxLen; omega) (by omega) hw9C (w8.heap.size + 1) HSA.out ?_; intro gg cp w10 hown9 hgrow9 hat9 hlt9; have O10 : Hid (w10.ownsRow C 40 2 (.slice (some ⟨gg, 0, none⟩) (tvd ps ++ [(⟨(a : Int), (b : Int)⟩ : Pr)]).length cp) (tvd ps ++ [(⟨(a : Int), (b : Int)⟩ : Pr)]).length (flat (tvd ps ++ [(⟨(a : Int), (b : Int)⟩ : Pr)]))) := (by unfold Hid; rw [flat_append, List.length_append, tvd_len]; exact hown9); have E10 : Hid (Below C w7 w10) := (EA.out.mono hCG).grown hgrow9 hw9C (fun g e => (OA.out.lt g e).1); have HB10 : Hid (Below w.heap.size w w10) := HB9.out.grown hgrow9 (by omega) (fun g e => Nat.le_trans hBC (OA.out.lt g e).1); have Q3 := hidH (classes_ok k cp (some ⟨gg, 0, none⟩) (tvd ps ++ [(⟨(a : Int), (b : Int)⟩ : Pr)]) w10 (own_liesP O10.out) (fun e => by cases e) (by rw [List.length_append, tvd_len, List.length_singleton]; omega) (things_app (things_tvd HT.out) ⟨ha0, ha1⟩ ⟨hb0, hb1⟩)); rw [show (tvd ps ++ [(⟨(a : Int), (b : Int)⟩ : Pr)]).length = ps.length + 1 by rw [List.length_append, tvd_len, List.length_singleton]] at Q3; clear hown9 hgrow9 hat9 hlt9)
                  | (go_at_call 14; (with_reducible refine Q3.out.mono ?_); clear Q3; rintro e w11 ⟨v11, rfl, hb11, ms, ho11, hc11⟩; have E11 := hidH (E10.out.trans (hb11.mono (by have := E10.out.size; omega))); have HB11 := hidH (HB10.out.trans (hb11.mono HB10.out.size)); have CMS := hidH hc11; have OM := hidH ho11; clear hb11 ho11 hc11))
                obtain ⟨aM, cM, hvM, -, -⟩ := own_slice OM.out
                subst hvM
                have hml : ms.length = k := CMS.out.1
                obtain ⟨H, hH⟩ : ∃ H, w11.heap.size = H := ⟨_, rfl⟩
                have hCH : C ≤ H := by have := E11.out.size; omega
                have RM : Hid (Rd1 H w11 aM ms) := Rd1.of (B := w10.heap.size) (c := cM) (by have h9 := OM.out; rw [show ivs ms = flat ms from (flat_ints ms).symm] at h9; exact h9) (by omega)
                have RLH : Hid (Rd1 H w11 aL ls) := ((RL.out.below E7.out).below E11.out).up hCH
                obtain ⟨la, hla, -, -⟩ := CLS.out.2 a (by omega)
                obtain ⟨lb, hlb, -, -⟩ := CLS.out.2 b (by omega)
                have hlak := (CLS.out.low (by omega) hla).1
                have hlbk := (CLS.out.low (by omega) hlb).1
                have MOR : Hid (∀ i x : Nat, i < k → ls[i]? = some (x : Int) → ms[i]? = some (if x = la ∨ x = lb then ((min la lb : Nat) : Int) else (x : Int))) := fun i x hi hx => (CLS.out.congr (fun p => (both_tvd ps p).symm)).more CMS.out (by omega) (by omega) hla hlb hi hx
                have HLA := hidH hla
                have HLB := hidH hlb
                have HML := hidH hml
                have HH := hidH hH
                rw [hml]
                clear hml hla hlb OM
                go_wp2
                go_loopg [204] k (fun gk si wq => ∃ i : Nat, gk = k - i ∧ si = .int .i64 (i : Int) ∧ i ≤ k ∧ Below H w11 wq)
                case atStart => exact ⟨0, rfl, rfl, Nat.zero_le _, Below.refl _ _⟩
                case round =>
                  obtain ⟨i, hgk5, rfl, hi5, hE⟩ := hrel
                  have EE5 := hidH hE
                  clear hE
                  by_cases hik : i < k
                  · have hik' : (i : Int) < (k : Int) := by omega
                    have kk : IntKind.i64.wrap ((i : Int) + 1) = ((i + 1 : Nat) : Int) := by rw [IntWalk.i64_in _ ⟨by omega, by omega⟩]; omega
                    obtain ⟨gL, rfl, hgL, hcL⟩ := (RLH.out.below EE5.out) (by have := HLL.out; omega)
                    obtain ⟨gM, rfl, hgM, hcM⟩ := (RM.out.below EE5.out) (by have := HML.out; omega)
                    obtain ⟨x, hx, -, -⟩ := CLS.out.2 i hik
                    have cx := hcL i _ hx
                    have ca := hcL a _ HLA.out
                    have cb := hcL b _ HLB.out
                    have hm1 := MOR.out i x hik hx
                    have cm := hcM i _ hm1
                    clear hcL hcM hx hm1
                    by_cases hxab : x = la ∨ x = lb
                    · rw [if_pos hxab] at cm
                      by_cases hlt : lb < la
                      · by_cases hxa : x = la
                        · have hlt' : (lb : Int) < (la : Int) := by omega
                          rw [show min la lb = lb by omega] at cm
                          subst hxa
                          go_upto_region 45 with fail
                          go_quiet (fail)
                          obtain ⟨w12, hw12⟩ : ∃ w12, wr.drewN nq = w12 := ⟨_, rfl⟩
                          have hdr : Below wr.heap.size wr w12 := by rw [← hw12]; exact ⟨rfl, rfl, rfl, Nat.le_refl _, fun _ _ => rfl⟩
                          have E12 := hidH (EE5.out.trans (hdr.mono (by have := EE5.out.size; have := HH.out; omega)))
                          have cm12 := (hdr.cell (p := ⟨gM, i, none⟩) (by show gM < _; have := EE5.out.size; have := HH.out; omega)).trans cm
                          rw [hw12]
                          clear hw12 hdr cx ca cb cm
                          go_wp2
                          go_roundg (k - (i + 1))
                          case measure => omega
                          case rel => exact ⟨i + 1, rfl, rfl, by omega, E12.out⟩
                        · have hlt' : (lb : Int) < (la : Int) := by omega
                          rw [show min la lb = lb by omega] at cm
                          have hxb : x = lb := hxab.resolve_left hxa
                          subst hxb
                          have h1 : ((x : Int) == (la : Int)) = false := by rw [beq_eq_false_iff_ne]; omega
                          have h2 : ¬ (x : Int) = (la : Int) := by omega
                          go_upto_region 45 with fail
                          go_quiet (fail)
                          obtain ⟨w12, hw12⟩ : ∃ w12, wr.drewN nq = w12 := ⟨_, rfl⟩
                          have hdr : Below wr.heap.size wr w12 := by rw [← hw12]; exact ⟨rfl, rfl, rfl, Nat.le_refl _, fun _ _ => rfl⟩
                          have E12 := hidH (EE5.out.trans (hdr.mono (by have := EE5.out.size; have := HH.out; omega)))
                          have cm12 := (hdr.cell (p := ⟨gM, i, none⟩) (by show gM < _; have := EE5.out.size; have := HH.out; omega)).trans cm
                          rw [hw12]
                          clear hw12 hdr cx ca cb cm
                          go_wp2
                          go_roundg (k - (i + 1))
                          case measure => omega
                          case rel => exact ⟨i + 1, rfl, rfl, by omega, E12.out⟩
                      · by_cases hxa : x = la
                        · have hlt' : ¬ (lb : Int) < (la : Int) := by omega
                          rw [show min la lb = la by omega] at cm
                          subst hxa
                          go_upto_region 45 with fail
                          go_quiet (fail)
                          obtain ⟨w12, hw12⟩ : ∃ w12, wr.drewN nq = w12 := ⟨_, rfl⟩
                          have hdr : Below wr.heap.size wr w12 := by rw [← hw12]; exact ⟨rfl, rfl, rfl, Nat.le_refl _, fun _ _ => rfl⟩
                          have E12 := hidH (EE5.out.trans (hdr.mono (by have := EE5.out.size; have := HH.out; omega)))
                          have cm12 := (hdr.cell (p := ⟨gM, i, none⟩) (by show gM < _; have := EE5.out.size; have := HH.out; omega)).trans cm
                          rw [hw12]
                          clear hw12 hdr cx ca cb cm
                          go_wp2
                          go_roundg (k - (i + 1))
                          case measure => omega
                          case rel => exact ⟨i + 1, rfl, rfl, by omega, E12.out⟩
                        · have hlt' : ¬ (lb : Int) < (la : Int) := by omega
                          rw [show min la lb = la by omega] at cm
                          have hxb : x = lb := hxab.resolve_left hxa
                          subst hxb
                          have h1 : ((x : Int) == (la : Int)) = false := by rw [beq_eq_false_iff_ne]; omega
                          have h2 : ¬ (x : Int) = (la : Int) := by omega
                          go_upto_region 45 with fail
                          go_quiet (fail)
                          obtain ⟨w12, hw12⟩ : ∃ w12, wr.drewN nq = w12 := ⟨_, rfl⟩
                          have hdr : Below wr.heap.size wr w12 := by rw [← hw12]; exact ⟨rfl, rfl, rfl, Nat.le_refl _, fun _ _ => rfl⟩
                          have E12 := hidH (EE5.out.trans (hdr.mono (by have := EE5.out.size; have := HH.out; omega)))
                          have cm12 := (hdr.cell (p := ⟨gM, i, none⟩) (by show gM < _; have := EE5.out.size; have := HH.out; omega)).trans cm
                          rw [hw12]
                          clear hw12 hdr cx ca cb cm
                          go_wp2
                          go_roundg (k - (i + 1))
                          case measure => omega
                          case rel => exact ⟨i + 1, rfl, rfl, by omega, E12.out⟩
                    · rw [if_neg hxab] at cm
                      have h1 : ((x : Int) == (la : Int)) = false := by rw [beq_eq_false_iff_ne]; omega
                      have h2 : ¬ (x : Int) = (la : Int) := by omega
                      have h3 : ((x : Int) == (lb : Int)) = false := by rw [beq_eq_false_iff_ne]; omega
                      have h4 : ¬ (x : Int) = (lb : Int) := by omega
                      go_wp2
                      go_roundg (k - (i + 1))
                      case measure => omega
                      case rel => exact ⟨i + 1, rfl, rfl, by omega, EE5.out⟩
                  · have hik' : ¬ (i : Int) < (k : Int) := by omega
                    go_wp2
                    go_ret
                    exact ⟨rfl, HB11.out.trans (EE5.out.mono (by have := HB11.out.size; have := HH.out; omega))⟩
              · by_cases ha1 : a < 0
                · go_wp2
                  go_ret
                  exact ⟨rfl, HB8.out⟩
                · by_cases ha2 : (k : Int) ≤ a
                  · go_wp2
                    go_ret
                    exact ⟨rfl, HB8.out⟩
                  · by_cases hb1 : b < 0
                    · go_wp2
                      go_ret
                      exact ⟨rfl, HB8.out⟩
                    · have hb2 : (k : Int) ≤ b := by omega
                      go_wp2
                      go_ret
                      exact ⟨rfl, HB8.out⟩
end Go.Proofs.Ytgijcbipnjmhgaa

namespace Go.Proofs.Ytgijcbipnjmhgaa
open Go.ChangeShapes Go.WideShapes Go.ChangeAt Go.RowKit
set_option linter.unusedVariables false
set_option linter.unusedSimpArgs false

theorem graphTied_walk (n : Int) (s : Option Addr) (cap : Nat) (ps : List Pr) (a b : Int) (w : World) (bn0 : -9223372036854775808 ≤ n) (bn1 : n ≤ 9223372036854775807) (hL : LiesA w s ps) (hn : s = none → ps.length = 0 ∧ cap = 0) (hl : ps.length * 16 ≤ 140737488351232) (ba0 : -9223372036854775808 ≤ a) (ba1 : a ≤ 9223372036854775807) (bb0 : -9223372036854775808 ≤ b) (bb1 : b ≤ 9223372036854775807) :
    Calls Try.prog 6 #[.int .i64 n, .slice s ps.length cap, .int .i64 a, .int .i64 b] w fun e w' => e = .returned (.bool true) ∧ Below w.heap.size w w' := by
  cases ht : things n ps with
  | false => exact tied_bad n s cap ps a b w hL (by omega) ht
  | true =>
    have hn0 : 0 ≤ n := by
      have h9 := ht
      unfold things at h9
      simp only [Bool.and_eq_true, decide_eq_true_eq] at h9
      exact h9.1.1
    obtain ⟨n, rfl⟩ : ∃ m : Nat, n = (m : Int) := ⟨n.toNat, by omega⟩
    exact tied_ok n cap s ps a b w hL hn hl ht
end Go.Proofs.Ytgijcbipnjmhgaa

namespace Go.Proofs.Ytgijcbipnjmhgaa
open Go.ChangeShapes Go.WideShapes Go.ChangeAt Go.RowKit Go.Deep
open Go.ChangeMaps (open_string shut_string)
set_option linter.unusedVariables false

set_option maxRecDepth 100000 in
theorem graphTied_lifted (os : Os) (started : os.Started) (H : Type) (enc : TypeId × Value → H) :
    ReturnsInHanded {} Try.checked os 6 .any (Rows.graphTiedSpec.pre6 enc Try.prog Try.f6 Rows.graphTiedRow.domain false) (Rows.graphTiedSpec.post enc Try.prog Try.f6 false true false false) := by
  refine returnsInHanded_of_change_sized (C := Try.checked) own started (by kernel_rfl) Try.func6
    (ChangeSpec.witness6 (enc := enc) (C := Try.checked) false ⟨#[], #[.int .i64 0, .slice none 0 0, .int .i64 0, .int .i64 0], []⟩ 8 (by kernel_rfl) (by kernel_rfl) (by kernel_rfl) (by kernel_rfl)) ?_
  intro W base args ds gs before hval0 hW hcnd hsz0 _
  have hval : ∀ (j : Nat) t v, Try.f6.params[j]? = some t → args[j]? = some v → Value.okWide Try.prog W .any base t v := hval0
  have hsz : (DataW.weightsEach Try.prog (Try.f6.params.toList ++ Rows.graphTiedSpec.plain.varTypes Try.prog) (ds ++ gs)).all (· ≤ reachBytes) = true := hsz0
  have hW' := hW
  obtain ⟨p, q, hA0, hV, rfl, hfz, hnd⟩ := hW
  have hA : DataW.TrodAll enc Try.prog W 0 (fun _ => true) true Try.f6.params.toList args.toList ds p := hA0
  rw [Try.params6] at hA hval hsz
  obtain ⟨v0, vs0, d0, ds0, p0, q0, hargs, rfl, rfl, h0, r0⟩ := trodAll_cons hA
  obtain ⟨v1, vs1, d1, ds1, p1, q1, rfl, rfl, rfl, h1, r1⟩ := trodAll_cons r0
  obtain ⟨v2, vs2, d2, ds2, p2, q2, rfl, rfl, rfl, h2, r2⟩ := trodAll_cons r1
  obtain ⟨v3, vs3, d3, ds3, p3, q3, rfl, rfl, rfl, h3, r3⟩ := trodAll_cons r2
  obtain ⟨rfl, rfl, rfl⟩ := trodAll_nil r3
  obtain rfl : args = #[v0, v1, v2, v3] := by cases args; simp_all
  obtain ⟨rfl, rfl⟩ := trodVars_none hV
  obtain ⟨a1, len1, cap1, rfl⟩ := okWide_slice Try.underlying22 (hval 1 22 v1 rfl rfl)
  have k1 := h1
  have lt1 : ∀ x ∈ p1, x.block < W.heap.size := by obtain ⟨m, hm⟩ := k1; exact DataW.trod_lt m _ _ _ hm
  obtain ⟨fuel1, hf1⟩ := h1
  obtain ⟨xs1, rfl, hE1, hG1, hN1, hD1, hC1⟩ := open_rows PrFit prData 22 40 ⟨0, 0⟩ Try.underlying22 cellsPr elem_pr hf1
  simp only at hD1
  have sz1 := pairs_size hD1 hsz (j := 1) rfl rfl
  obtain ⟨n0, rfl, rfl, rfl, ws0⟩ := open_int Try.underlying3 (hval 0 3 v0 rfl rfl) h0
  have bs0 := bounds_i64 ws0
  obtain ⟨n2, rfl, rfl, rfl, ws2⟩ := open_int Try.underlying3 (hval 2 3 v2 rfl rfl) h2
  have bs2 := bounds_i64 ws2
  obtain ⟨n3, rfl, rfl, rfl, ws3⟩ := open_int Try.underlying3 (hval 3 3 v3 rfl rfl) h3
  have bs3 := bounds_i64 ws3
  clear hA0 hval0
  refine (graphTied_walk n0 a1 cap1 xs1 n2 n3 W bs0.1 bs0.2 hE1 hN1 sz1 bs2.1 bs2.2 bs3.1 bs3.2).mono fun e W' ⟨he, bel⟩ => ?_
  subst he
  exact ⟨_, rfl, _, _, _, [], _, [], hW', trodAll_mk1 (shut_bool Try.underlying4 _), (trodAll_cons_mk (shut_int Try.underlying3 ws0) (trodAll_cons_mk (Below.trod laidOut (by kernel_rfl) (of_decide_eq_true (by kernel_rfl)) k1 bel lt1) (trodAll_cons_mk (shut_int Try.underlying3 ws2) (trodAll_cons_mk (shut_int Try.underlying3 ws3) trodAll_mk0)))), rfl, bel.frame _, fun h => by cases h⟩

theorem graphTied_holds : Rows.GraphTiedSaid :=
  OpenClaim.holds_of_wide 6 Try.f6 rfl rfl rfl rfl rfl rfl rfl ⟨rfl, rfl, rfl, rfl, rfl⟩ rfl rfl rfl rfl rfl (by kernel_rfl) Try.func6 (by kernel_rfl)
    (of_decide_eq_true (by kernel_rfl)) (by unfold Func.isWrapper; first | (rw [if_pos (by decide +kernel)]; kernel_rfl) | (rw [if_neg (by decide +kernel)]; exact ⟨rfl, rfl⟩))
    (fun os started H enc _ => graphTied_lifted os started H enc)
end Go.Proofs.Ytgijcbipnjmhgaa
