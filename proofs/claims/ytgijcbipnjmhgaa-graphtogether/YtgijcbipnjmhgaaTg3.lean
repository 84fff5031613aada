import Derived.Test.YtgijcbipnjmhgaaTg2
import Derived.Test.YtgijcbipnjmhgaaSmD
namespace Go.Proofs.Ytgijcbipnjmhgaa
open Go.ChangeShapes Go.WideShapes Go.ChangeAt Go.RowKit
set_option linter.unusedVariables false
set_option linter.unusedSimpArgs false

theorem own_liesI {w : World} {B : Nat} {a : Option Addr} {c : Nat} {L : List Int} (h : w.ownsRow B 3 1 (.slice a L.length c) L.length (flat L)) : LiesA w a L := by
  by_cases h0 : L = []
  · exact .inl h0
  · obtain ⟨a', c', hv, ha, -⟩ := own_slice h
    injection hv with e1 e2 e3
    subst e1
    obtain ⟨g, rfl⟩ := ha (List.length_pos_iff.2 h0)
    exact .inr ⟨g, 0, rfl, (h.lt g rfl).2, fun j u hj => by
      have h1 := h.cells rfl j u hj
      rw [addr_add] at h1
      exact h1⟩
set_option maxRecDepth 1000000 in
set_option maxHeartbeats 4000000 in
theorem tg_ok (n a b cap : Nat) (s : Option Addr) (ps : List Pr) (w : World) (hL : LiesA w s ps) (hm : ps.length ≤ 8796093022208) (ht : things (n : Int) ps = true) (ha : a < n) (hb : b < n) :
    Calls Try.prog 5 #[.int .i64 (n : Int), .slice s ps.length cap, .int .i64 (a : Int), .int .i64 (b : Int)] w fun e w' => e = .returned (.bool true) ∧ Below w.heap.size w w' := by
  obtain ⟨hn, hps⟩ := things_spec ht
  obtain ⟨j1, hj1, hx0, hx1, hx2⟩ := info_parts infoIntH
  have HL := hidH hL
  have HT := hidH ht
  have ha1 : (0 : Int) ≤ (a : Int) := by omega
  have ha2 : (a : Int) < (n : Int) := by omega
  have hb1 : (0 : Int) ≤ (b : Int) := by omega
  have hb2 : (b : Int) < (n : Int) := by omega
  have QA := hidH (reach_ok n a cap s ps w hL (by omega) ht ha)
  clear hL ht hps
  go_enter Try.func5, Try.ntmps5
  go_upto_region 9 with (first
    | (go_at_call 10; (with_reducible refine (QA.out).mono ?_); clear QA; rintro e w1 ⟨v1, rfl, hb1, zx, ho1, hr1⟩; have HB1 := hidH hb1; have OX := hidH ho1; have RX := hidH hr1; have QB := hidH (reach_ok n b cap s ps w1 (HL.out.below hb1) (by omega) HT.out hb); clear hb1 ho1 hr1)
    | (go_at_call 10; (with_reducible refine (QB.out).mono ?_); clear QB; rintro e w2 ⟨v2, rfl, hb2, zy, ho2, hr2⟩; have HB2 := hidH (HB1.out.trans (hb2.mono HB1.out.size)); have OX2 := hidH (own_belowR OX.out hb2 (Nat.le_refl _)); have OY := hidH (own_lower ho2 HB1.out.size); have RY := hidH hr2; have QP := hidH (parts_ok n cap s ps w2 (HL.out.below HB2.out) hm HT.out); clear hb2 ho2 hr2 HB1 OX)
    | (go_at_call 16; (with_reducible refine (QP.out).mono ?_); clear QP; rintro e w3 ⟨v3, rfl, hb3, lw, N, os, hlw, hN, hln, hrv⟩; have HB3 := hidH (HB2.out.trans (hb3.mono HB2.out.size)); have OX3 := hidH (own_belowR OX2.out hb3 (Nat.le_refl _)); have OY3 := hidH (own_belowR OY.out hb3 (Nat.le_refl _)); have PR := hidH (pts_prt hlw hN hln); have HPL := hidH (Nat.le_trans (pts_len n lw os) (nodup_le hln.nod hln.rng)); have RV := hidH hrv; have QT := hidH (right_any (n : Int) s cap ps w3 (HL.out.below HB3.out) hm); rw [HT.out] at QT; clear hb3 hlw hN hln hrv HB2 OX2 OY)
    | (go_at_call 17; (with_reducible refine (QT.out).mono ?_); clear QT; rintro e w4 ⟨rfl, hb4⟩; have HB4 := hidH (HB3.out.trans (hb4.mono HB3.out.size)); have OX4 := hidH (own_belowR OX3.out hb4 (Nat.le_refl _)); have OY4 := hidH (own_belowR OY3.out hb4 (Nat.le_refl _)); have HB34 := hidH hb4; clear hb4 HB3 OX3 OY3))
  obtain ⟨pss, hpss⟩ : ∃ pss, pts n lw os = pss := ⟨_, rfl⟩
  rw [hpss] at PR RV HPL
  obtain ⟨aP, cP, hv3, hrd⟩ := RV.out.read HB34.out
  subst hv3
  obtain ⟨BF, hBF⟩ : ∃ BF, w4.heap.size = BF := ⟨_, rfl⟩
  have H4 := hidH hBF
  have hw34 := HB34.out.size
  have RD : Hid (∀ wq, Below BF w4 wq → ∀ (i : Nat) p, pss[i]? = some p → ∃ gP, aP = some ⟨gP, 0, none⟩ ∧ ∃ a' c', wq.cell? ⟨gP, i, none⟩ = some (.slice a' p.length c') ∧ (0 < p.length → ∃ g', a' = some ⟨g', 0, none⟩ ∧ g' < BF ∧ ∀ (j : Nat) y, p[j]? = some y → w4.cell? ⟨g', j, none⟩ = some (.int .i64 y))) := fun wq hq i p hp => by
    obtain ⟨gP, e, h1, a', c', h2, h3⟩ := hrd i p hp
    refine ⟨gP, e, a', c', (hq.cell (p := ⟨gP, i, none⟩) (by show gP < BF; omega)).trans h2, fun h0 => ?_⟩
    obtain ⟨g', e', h4, h5⟩ := h3 h0
    exact ⟨g', e', by omega, h5⟩
  have hpl : pss.length ≤ n := HPL.out
  clear hrd RV hpss hw34
  go_wp2_with (at_make; refine wpList_make_full _ rfl _ _ 24 rfl BF 3 j1 (.int .i64 0) 1 Try.underlying24 hj1 hx0 hx1 _ _ _ _ n rfl rfl rfl rfl (by rw [hx2]; omega) (by unfold maxLen; omega) (by omega) ?_; intro w5 hown5 hgr5; rw [hBF] at hown5 ⊢; have O5 : Hid (w5.ownsRow BF 3 1 (.slice (some ⟨BF, 0, none⟩) n n) n (flat (List.replicate n (0 : Int)))) := (by rw [show (Value.int .i64 0).cells = #[.int .i64 0] by rfl, rep_made] at hown5; unfold Hid; rw [show flat (List.replicate n (0 : Int)) = List.replicate n (Value.int .i64 0) by rw [flat_ints, List.map_replicate]]; exact hown5); have E5 : Hid (Below BF w4 w5) := ((Below.refl _ _).grown hgr5 (by omega) (fun k h => by cases h)); clear hown5 hgr5)
  go_loopg [94] pss.length (fun gk si wq => ∃ (i : Nat) (fs : List Int), gk = pss.length - i ∧ si = .int .i64 (i : Int) ∧ i ≤ pss.length ∧ wq.ownsRow BF 3 1 (.slice (some ⟨BF, 0, none⟩) n n) n (flat fs) ∧ Ofp pss n i 0 fs ∧ Below BF w4 wq)
  case atStart => exact ⟨0, _, rfl, rfl, Nat.zero_le _, O5.out, Ofp.start _ _, E5.out⟩
  case round =>
    clear O5 E5
    obtain ⟨i, fs, hgk, rfl, hi, hO, hF, hE⟩ := hrel
    have OF := hidH hO
    have FF := hidH hF
    have EF := hidH hE
    clear hO hF hE
    by_cases hip : i < pss.length
    · have hip' : (i : Int) < (pss.length : Int) := by omega
      obtain ⟨p, hp⟩ : ∃ p, pss[i]? = some p := ⟨_, List.getElem?_eq_getElem hip⟩
      obtain ⟨gP, rfl, a', c', cP', hrow⟩ := RD.out _ EF.out i p hp
      have HP := hidH hp
      have HROW := hidH hrow
      obtain ⟨hup, -, hrg⟩ := PR.out.up i p hp
      have hpn : p.length ≤ n := nodup_le (pw_nodup hup) hrg
      have HRG := hidH hrg
      have kk : IntKind.i64.wrap ((i : Int) + 1) = ((i + 1 : Nat) : Int) := by rw [IntWalk.i64_in _ ⟨by omega, by omega⟩]; omega
      obtain ⟨m, hmq⟩ : ∃ m, p.length = m := ⟨_, rfl⟩
      have HMQ := hidH hmq
      rw [hmq] at cP' hpn
      clear hp hrow hup hrg hmq
      go_wp2
      go_loopg [101] m (fun g2 sj wq => ∃ (j : Nat) (fs : List Int), g2 = m - j ∧ sj = .int .i64 (j : Int) ∧ j ≤ m ∧ wq.ownsRow BF 3 1 (.slice (some ⟨BF, 0, none⟩) n n) n (flat fs) ∧ Ofp pss n i j fs ∧ Below BF w4 wq)
      case atStart => exact ⟨0, fs, rfl, rfl, Nat.zero_le _, OF.out, FF.out, EF.out⟩
      case round =>
        clear OF FF EF cP'
        obtain ⟨j, fs, hg2, rfl, hj, hO, hF, hE⟩ := hrel
        have OF := hidH hO
        have FF := hidH hF
        have EF := hidH hE
        clear hO hF hE
        by_cases hjm : j < m
        · have hjm' : (j : Int) < (m : Int) := by omega
          obtain ⟨g', rfl, hg', hcl⟩ := HROW.out (by have := HMQ.out; omega)
          obtain ⟨y0, hy0⟩ : ∃ y, p[j]? = some y := ⟨_, List.getElem?_eq_getElem (by have := HMQ.out; omega)⟩
          have hyr := HRG.out y0 (List.mem_of_getElem? hy0)
          obtain ⟨y, rfl⟩ : ∃ y : Nat, y0 = (y : Int) := ⟨y0.toNat, by omega⟩
          have hy1 : ¬ (y : Int) < 0 := by omega
          have hy2 : (y : Int) < (n : Int) := hyr.2
          have hyn : y < n := by omega
          have cy := (EF.out.cell (p := ⟨g', j, none⟩) hg').trans (hcl j _ hy0)
          have hfl := FF.out.len
          obtain ⟨z0, hz0⟩ : ∃ z, fs[y]? = some z := ⟨_, List.getElem?_eq_getElem (by omega)⟩
          obtain ⟨cf, ff⟩ := row_cell OF.out hz0
          have O6 := hidH (World.ownsRow.stored OF.out y (.int .i64 (i : Int))).1
          have F6 := hidH (FF.out.step PR.out HP.out hy0 hyn)
          have E6 : Hid (Below BF w4 (wr.setCell ⟨BF, y, none⟩ (.int .i64 (i : Int)))) := EF.out.setCell (p := ⟨BF, y, none⟩) (Nat.le_refl _) _
          have kj : IntKind.i64.wrap ((j : Int) + 1) = ((j + 1 : Nat) : Int) := by rw [IntWalk.i64_in _ ⟨by omega, by omega⟩]; omega
          clear hcl hy0 hyr hfl hz0
          go_wp2
          go_roundg (m - (j + 1))
          case measure => omega
          case rel => exact ⟨j + 1, _, rfl, rfl, by omega, by rw [← flat_setI]; exact O6.out, F6.out, E6.out⟩
        · have hjm' : ¬ (j : Int) < (m : Int) := by omega
          go_wp2
          go_roundg (pss.length - (i + 1))
          case measure => omega
          case rel => exact ⟨i + 1, fs, rfl, rfl, by omega, OF.out, Ofp.next (p := p) (by have h8 := FF.out; rw [show j = p.length by have := HMQ.out; omega] at h8; exact h8) HP.out, EF.out⟩
    · have hip' : ¬ (i : Int) < (pss.length : Int) := by omega
      have hi2 : i = pss.length := by omega
      subst hi2
      obtain ⟨wF, hwF⟩ : ∃ wF, wF = wr := ⟨wr, rfl⟩
      subst hwF
      have hwF4 : BF ≤ wF.heap.size := by have := EF.out.size; omega
      obtain ⟨ax, cx, hv1, hax, -⟩ := own_slice OX4.out
      obtain ⟨ay, cy, hv2, hay, -⟩ := own_slice OY4.out
      subst hv1 hv2
      have OX5 : Hid (wF.ownsRow w.heap.size 3 1 (.slice ax zx.length cx) zx.length (flat zx)) := by have h9 := own_belowR OX4.out EF.out (by omega); rw [show ivs zx = flat zx from (flat_ints zx).symm] at h9; exact h9
      have OY5 : Hid (wF.ownsRow w.heap.size 3 1 (.slice ay zy.length cy) zy.length (flat zy)) := by have h9 := own_belowR OY4.out EF.out (by omega); rw [show ivs zy = flat zy from (flat_ints zy).symm] at h9; exact h9
      have hzx : zx.length ≤ n := RX.out.2.1
      have hzy : zy.length ≤ n := RY.out.2.1
      clear OX4 OY4 RD
      go_wp2
      go_loopg [22] zx.length (fun gk si wq => ∃ i : Nat, gk = zx.length - (i - 1) ∧ si = .int .i64 (i : Int) ∧ 1 ≤ i ∧ i ≤ zx.length + 1 ∧ Below wF.heap.size wF wq)
      case atStart => exact ⟨1, by omega, rfl, Nat.le_refl _, by omega, Below.refl _ _⟩
      case round =>
        obtain ⟨i, hgk3, rfl, hi1, hi3, hEq⟩ := hrel
        have EQ := hidH hEq
        clear hEq
        by_cases hix : i < zx.length
        · have hix' : (i : Int) < (zx.length : Int) := by omega
          obtain ⟨gx, rfl⟩ := hax (by omega)
          obtain ⟨i1, hi1'⟩ : ∃ i1, i - 1 = i1 := ⟨_, rfl⟩
          have k1 : IntKind.i64.wrap ((i : Int) - 1) = (i1 : Int) := by rw [IntWalk.i64_in _ ⟨by omega, by omega⟩]; omega
          have kk : IntKind.i64.wrap ((i : Int) + 1) = ((i + 1 : Nat) : Int) := by rw [IntWalk.i64_in _ ⟨by omega, by omega⟩]; omega
          have h5 := own_belowR OX5.out EQ.out (Nat.le_refl _)
          obtain ⟨u, hu⟩ : ∃ u, zx[i]? = some u := ⟨_, List.getElem?_eq_getElem hix⟩
          obtain ⟨v, hv⟩ : ∃ v, zx[i1]? = some v := ⟨_, List.getElem?_eq_getElem (by omega)⟩
          have cu := (row_cell h5 hu).1
          have cv := (row_cell h5 hv).1
          have huv : v < u := by
            obtain ⟨l1, e1⟩ := List.getElem?_eq_some_iff.1 hu
            obtain ⟨l2, e2⟩ := List.getElem?_eq_some_iff.1 hv
            have := List.pairwise_iff_getElem.1 RX.out.1 i1 i l2 l1 (by omega)
            omega
          have huv' : ¬ u ≤ v := by omega
          have hi1n : (i1 : Int) < (zx.length : Int) := by omega
          clear h5 hu hv hi1'
          go_upto_region 25 with fail
          go_quiet (fail)
          obtain ⟨w7, hw7⟩ : ∃ w7, wr.drewN nq = w7 := ⟨_, rfl⟩
          have hdr : Below wr.heap.size wr w7 := by rw [← hw7]; exact ⟨rfl, rfl, rfl, Nat.le_refl _, fun _ _ => rfl⟩
          have EQ7 := hidH (EQ.out.trans (hdr.mono EQ.out.size))
          rw [hw7]
          clear hw7 hdr cu cv
          go_wp2
          go_roundg (zx.length - i)
          case measure => omega
          case rel => exact ⟨i + 1, by omega, rfl, by omega, by omega, EQ7.out⟩
        · have hix' : ¬ (i : Int) < (zx.length : Int) := by omega
          obtain ⟨wG, hwG⟩ : ∃ wG, wG = wr := ⟨wr, rfl⟩
          subst hwG
          obtain ⟨ia, ib, hia, hib, hiff⟩ := of_eq PR.out (by have h9 := FF.out; exact h9) ha hb
          have o6 := own_belowR OF.out EQ.out (Nat.le_refl _)
          have cA := (row_cell o6 hia).1
          have cB := (row_cell o6 hib).1
          have HIF := hidH hiff
          have CH : Hid (∀ (zs : List Int) (az : Option Addr) (cz : Nat) (k : Nat) (t : Bool) (m : Nat), wG.ownsRow w.heap.size 3 1 (.slice az zs.length cz) zs.length (flat zs) → zs.Pairwise (· < ·) → zs.length ≤ 131072 → decide ((k : Int) ∈ zs) = t → Calls Try.prog 18 #[.slice az zs.length cz, .int .i64 (k : Int)] (wG.drewN m) fun e w' => e = .returned (.bool t) ∧ w' = wG.drewN m) := fun zs az cz k t m h1 h2 h3 h4 => by
            rw [← h4]
            exact has_any w.heap.size cz az zs k _ (own_belowR h1 (B := wG.heap.size) ⟨rfl, rfl, rfl, Nat.le_refl _, fun _ _ => rfl⟩ (Nat.le_refl _)) h2 h3
          have OX6 := hidH (own_belowR OX5.out EQ.out (Nat.le_refl _))
          have OY6 := hidH (own_belowR OY5.out EQ.out (Nat.le_refl _))
          have haa : decide ((a : Int) ∈ zx) = true := decide_eq_true ((RX.out.2.2 _).2 ⟨a, rfl, .refl _⟩)
          have hbb : decide ((b : Int) ∈ zy) = true := decide_eq_true ((RY.out.2.2 _).2 ⟨b, rfl, .refl _⟩)
          have hab : (b : Int) ∈ zx ↔ Rch ps a b := by rw [RX.out.2.2]; exact ⟨fun ⟨k, e, h⟩ => by rw [show b = k by omega]; exact h, fun h => ⟨b, rfl, h⟩⟩
          have hba : (a : Int) ∈ zy ↔ Rch ps b a := by rw [RY.out.2.2]; exact ⟨fun ⟨k, e, h⟩ => by rw [show a = k by omega]; exact h, fun h => ⟨a, rfl, h⟩⟩
          have CXA := hidH (fun m => CH.out zx ax cx a true m OX6.out RX.out.1 (by omega) haa)
          have CYB := hidH (fun m => CH.out zy ay cy b true m OY6.out RY.out.1 (by omega) hbb)
          have HAB := hidH hab
          have HBA := hidH hba
          clear hia hib hiff o6 haa hbb hab hba
          go_upto_region 27 with fail
          go_cut [167] (fun sl wc => sl = .bool false ∧ ∃ m, wc = wG.drewN m)
          case first =>
            by_cases hs : Sam ps a b
            · have CXB := hidH (fun m => CH.out zx ax cx b true m OX6.out RX.out.1 (by omega) (decide_eq_true (HAB.out.2 hs.1)))
              have CYA := hidH (fun m => CH.out zy ay cy a true m OY6.out RY.out.1 (by omega) (decide_eq_true (HBA.out.2 hs.2)))
              have he : ia = ib := HIF.out.2 hs
              subst he
              go_quiet (first
                | (go_at_call 18; with_reducible exact Calls.quiet_of_same (CXA.out _))
                | (go_at_call 18; with_reducible exact Calls.quiet_of_same (CYB.out _))
                | (go_at_call 18; with_reducible exact Calls.quiet_of_same (CXB.out _))
                | (go_at_call 18; with_reducible exact Calls.quiet_of_same (CYA.out _)))
              go_wp2_with fail
              go_meet
              exact ⟨rfl, nq, rfl⟩
            · have hne : ¬ ia = ib := fun e => hs (HIF.out.1 e)
              have hne1 : ((ia : Int) == (ib : Int)) = false := by rw [beq_eq_false_iff_ne]; omega
              have hne2 : ¬ (ia : Int) = (ib : Int) := by omega
              have hne3 : decide ((ia : Int) = (ib : Int)) = false := decide_eq_false hne2
              by_cases hbz : (b : Int) ∈ zx
              · have CXB := hidH (fun m => CH.out zx ax cx b true m OX6.out RX.out.1 (by omega) (decide_eq_true hbz))
                have CYA := hidH (fun m => CH.out zy ay cy a false m OY6.out RY.out.1 (by omega) (decide_eq_false (fun h => hs ⟨HAB.out.1 hbz, HBA.out.1 h⟩)))
                go_quiet (first
                  | (go_at_call 18; with_reducible exact Calls.quiet_of_same (CXA.out _))
                  | (go_at_call 18; with_reducible exact Calls.quiet_of_same (CYB.out _))
                  | (go_at_call 18; with_reducible exact Calls.quiet_of_same (CXB.out _))
                  | (go_at_call 18; with_reducible exact Calls.quiet_of_same (CYA.out _)))
                go_wp2_with fail
                go_meet
                exact ⟨rfl, nq, rfl⟩
              · have CXB := hidH (fun m => CH.out zx ax cx b false m OX6.out RX.out.1 (by omega) (decide_eq_false hbz))
                go_quiet (first
                  | (go_at_call 18; with_reducible exact Calls.quiet_of_same (CXA.out _))
                  | (go_at_call 18; with_reducible exact Calls.quiet_of_same (CYB.out _))
                  | (go_at_call 18; with_reducible exact Calls.quiet_of_same (CXB.out _)))
                go_wp2_with fail
                go_meet
                exact ⟨rfl, nq, rfl⟩
          case rest =>
            obtain ⟨rfl, m8, hw8⟩ := hcut
            have hdr : Below wG.heap.size wG wc := by rw [hw8]; exact ⟨rfl, rfl, rfl, Nat.le_refl _, fun _ _ => rfl⟩
            have E8 := hidH (EQ.out.trans (hdr.mono EQ.out.size))
            have cA8 : wc.cell? ⟨BF, a, none⟩ = some (.int .i64 (ia : Int)) := by rw [hw8]; exact cA
            have cB8 : wc.cell? ⟨BF, b, none⟩ = some (.int .i64 (ib : Int)) := by rw [hw8]; exact cB
            obtain ⟨w8, hw9⟩ : ∃ w8, w8 = wc := ⟨wc, rfl⟩
            subst hw9
            clear hw8 hdr cA cB CXA CYB CH OX6 OY6 EQ
            go_upto_region 29 with fail
            go_cut [182] (fun sl wc => sl = .bool false ∧ ∃ m, wc = w8.drewN m)
            case first =>
              by_cases hs : Sam ps a b
              · have he : ia = ib := HIF.out.2 hs
                subst he
                have hzz : zy = zx := sorted_unique zy zx RY.out.1 RX.out.1 (fun y => by rw [RY.out.2.2, RX.out.2.2]; exact ⟨fun ⟨k, e, h⟩ => ⟨k, e, hs.1.trans h⟩, fun ⟨k, e, h⟩ => ⟨k, e, hs.2.trans h⟩⟩)
                have OX8 := hidH (own_belowR OX5.out E8.out (Nat.le_refl _))
                have OY8 := hidH (own_belowR OY5.out E8.out (Nat.le_refl _))
                subst hzz
                have CS : Hid (∀ m, Calls Try.prog 12 #[.slice ax zy.length cx, .slice ay zy.length cy] (w8.drewN m) fun e w' => e = .returned (.bool true) ∧ ∃ m', w' = (w8.drewN m).drewN m') := fun m => same_intsD ax ay cx cy zy _ (own_liesI (own_belowR OX8.out (B := w8.heap.size) (w' := w8.drewN m) ⟨rfl, rfl, rfl, Nat.le_refl _, fun _ _ => rfl⟩ (Nat.le_refl _))) (own_liesI (own_belowR OY8.out (B := w8.heap.size) (w' := w8.drewN m) ⟨rfl, rfl, rfl, Nat.le_refl _, fun _ _ => rfl⟩ (Nat.le_refl _))) (by unfold maxLen; omega)
                go_quiet (first | (go_at_call 12; with_reducible exact Calls.quiet_of (CS.out _)))
                go_wp2_with fail
                go_meet
                exact ⟨rfl, nq, rfl⟩
              · have hne : ¬ ia = ib := fun e => hs (HIF.out.1 e)
                have hne1 : ((ia : Int) == (ib : Int)) = false := by rw [beq_eq_false_iff_ne]; omega
                have hne2 : ¬ (ia : Int) = (ib : Int) := by omega
                have hne3 : decide ((ia : Int) = (ib : Int)) = false := decide_eq_false hne2
                go_quiet (fail)
                go_wp2_with fail
                go_meet
                exact ⟨rfl, nq, rfl⟩
            case rest =>
              obtain ⟨rfl, m9, hw9⟩ := hcut
              have hdr : Below w8.heap.size w8 wc := by rw [hw9]; exact ⟨rfl, rfl, rfl, Nat.le_refl _, fun _ _ => rfl⟩
              have E9 := hidH (E8.out.trans (hdr.mono E8.out.size))
              have HBF : Hid (Below w.heap.size w wF) := HB4.out.trans (EF.out.mono (by have := HB4.out.size; have := H4.out; omega))
              have CZ : Hid (∀ (k : Int) (t : Bool) (wq : World), Below wF.heap.size wF wq → decide (k ∈ zx) = t → Calls Try.prog 18 #[.slice ax zx.length cx, .int .i64 k] wq fun e w' => e = .returned (.bool t) ∧ w' = wq) := fun k t wq hq ht => by
                rw [← ht]
                exact has_any w.heap.size cx ax zx k wq (own_belowR OX5.out hq (Nat.le_refl _)) RX.out.1 (by omega)
              clear hw9 hdr cA8 cB8 E8
              go_wp2
              go_loopg [185] ps.length (fun gk si wq => ∃ k : Nat, gk = ps.length - k ∧ si = .int .i64 (k : Int) ∧ k ≤ ps.length ∧ Below wF.heap.size wF wq)
              case atStart => exact ⟨0, rfl, rfl, Nat.zero_le _, E9.out⟩
              case round =>
                clear E9
                obtain ⟨k, hgk4, rfl, hk, hEk⟩ := hrel
                have EK := hidH hEk
                clear hEk
                by_cases hkp : k < ps.length
                · have hkp' : (k : Int) < (ps.length : Int) := by omega
                  obtain ⟨p, hp⟩ : ∃ p, ps[k]? = some p := ⟨_, List.getElem?_eq_getElem hkp⟩
                  obtain ⟨gs, o, hs, hLi⟩ : ∃ b o, s = some ⟨b, o, none⟩ ∧ Lies w b o ps := by
                    rcases HL.out with h | h
                    · rw [h] at hkp; exact absurd hkp (Nat.not_lt_zero _)
                    · exact h
                  subst hs
                  obtain ⟨pa, pb⟩ := p
                  have hrp := (things_spec HT.out).2 _ (List.mem_of_getElem? hp)
                  simp only at hrp
                  obtain ⟨x, rfl⟩ : ∃ x : Nat, pa = (x : Int) := ⟨pa.toNat, by omega⟩
                  obtain ⟨y, rfl⟩ : ∃ y : Nat, pb = (y : Int) := ⟨pb.toNat, by omega⟩
                  have HEG := hidH (List.mem_of_getElem? hp)
                  obtain ⟨d0, d1⟩ := (hLi.below (HBF.out.trans (EK.out.mono HBF.out.size)) hLi.1).pr hp
                  simp only at d0 d1
                  have kk : IntKind.i64.wrap ((k : Int) + 1) = ((k + 1 : Nat) : Int) := by rw [IntWalk.i64_in _ ⟨by omega, by omega⟩]; omega
                  clear hp hLi hrp
                  go_upto_region 34 with fail
                  obtain ⟨w5', e5, hb5', hs5, X5⟩ := bx1 wr #[.int .i64 (x : Int), .int .i64 (y : Int)] 40
                  rw [e5]
                  obtain ⟨q, hq⟩ : ∃ q, wr.heap.size = q := ⟨_, rfl⟩
                  rw [hq] at X5 ⊢
                  have c50 := X5.cell 0
                  have c51 := X5.cell 1
                  have EK5 := hidH (EK.out.trans (hb5'.mono EK.out.size))
                  simp at c50 c51
                  clear e5 d0 d1 X5 hb5' hs5
                  by_cases hxz : (x : Int) ∈ zx
                  · have hyz : (y : Int) ∈ zx := by
                      obtain ⟨u, e, hu⟩ := (RX.out.2.2 _).1 hxz
                      have e' : u = x := by omega
                      subst e'
                      exact (RX.out.2.2 _).2 ⟨y, rfl, hu.trans (.step HEG.out (.refl _))⟩
                    have C1 := hidH (CZ.out (x : Int) true _ EK5.out (decide_eq_true hxz))
                    have C2 := hidH (CZ.out (y : Int) true _ EK5.out (decide_eq_true hyz))
                    go_wp2_with (first
                      | (go_at_call 18; (with_reducible refine (C1.out).mono ?_); clear C1; rintro e w' ⟨rfl, hww⟩; subst hww)
                      | (go_at_call 18; (with_reducible refine (C2.out).mono ?_); clear C2; rintro e w' ⟨rfl, hww⟩; subst hww))
                    go_roundg (ps.length - (k + 1))
                    case measure => omega
                    case rel => exact ⟨k + 1, rfl, rfl, by omega, EK5.out⟩
                  · have C1 := hidH (CZ.out (x : Int) false _ EK5.out (decide_eq_false hxz))
                    go_wp2_with (first
                      | (go_at_call 18; (with_reducible refine (C1.out).mono ?_); clear C1; rintro e w' ⟨rfl, hww⟩; subst hww))
                    go_roundg (ps.length - (k + 1))
                    case measure => omega
                    case rel => exact ⟨k + 1, rfl, rfl, by omega, EK5.out⟩
                · have hkp' : ¬ (k : Int) < (ps.length : Int) := by omega
                  by_cases hbz : (b : Int) ∈ zx
                  · have C1 := hidH (CZ.out (b : Int) true _ EK.out (decide_eq_true hbz))
                    go_upto_region 38 with (first
                      | (go_at_call 18; (with_reducible refine (C1.out).mono ?_); clear C1; rintro e w' ⟨rfl, hww⟩; subst hww))
                    go_wp2
                    go_loopg [209] zy.length (fun gk si wq => ∃ k : Nat, gk = zy.length - k ∧ si = .int .i64 (k : Int) ∧ k ≤ zy.length ∧ Below wF.heap.size wF wq)
                    case atStart => exact ⟨0, rfl, rfl, Nat.zero_le _, EK.out⟩
                    case round =>
                      clear EK
                      obtain ⟨k5, hgk5, rfl, hk5, hE5⟩ := hrel
                      have EK := hidH hE5
                      clear hE5
                      by_cases hkz : k5 < zy.length
                      · have hkz' : (k5 : Int) < (zy.length : Int) := by omega
                        obtain ⟨gy, rfl⟩ := hay (by omega)
                        obtain ⟨u, hu⟩ : ∃ u, zy[k5]? = some u := ⟨_, List.getElem?_eq_getElem hkz⟩
                        have cu := (row_cell (own_belowR OY5.out EK.out (Nat.le_refl _)) hu).1
                        have huz : u ∈ zx := by
                          obtain ⟨z, e, hz⟩ := (RY.out.2.2 _).1 (List.mem_of_getElem? hu)
                          exact (RX.out.2.2 _).2 ⟨z, e, (HAB.out.1 hbz).trans hz⟩
                        have C1 := hidH (CZ.out u true _ EK.out (decide_eq_true huz))
                        have kk : IntKind.i64.wrap ((k5 : Int) + 1) = ((k5 + 1 : Nat) : Int) := by rw [IntWalk.i64_in _ ⟨by omega, by omega⟩]; omega
                        clear hu huz
                        go_wp2_with (first
                          | (go_at_call 18; (with_reducible refine (C1.out).mono ?_); clear C1; rintro e w' ⟨rfl, hww⟩; subst hww))
                        go_roundg (zy.length - (k5 + 1))
                        case measure => omega
                        case rel => exact ⟨k5 + 1, rfl, rfl, by omega, EK.out⟩
                      · have hkz' : ¬ (k5 : Int) < (zy.length : Int) := by omega
                        go_wp2
                        go_ret
                        exact ⟨rfl, HBF.out.trans (EK.out.mono HBF.out.size)⟩
                  · have C1 := hidH (CZ.out (b : Int) false _ EK.out (decide_eq_false hbz))
                    go_wp2_with (first
                      | (go_at_call 18; (with_reducible refine (C1.out).mono ?_); clear C1; rintro e w' ⟨rfl, hww⟩; subst hww))
                    go_ret
                    exact ⟨rfl, HBF.out.trans (EK.out.mono HBF.out.size)⟩
end Go.Proofs.Ytgijcbipnjmhgaa
