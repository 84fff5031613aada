import Derived.Test.YtaploloedocgbaaDoorNms1
import Derived.Test.YtaploloedocgbaaDoorAtP
import Derived.Test.YtaploloedocgbaaDoorVl3
namespace Go.Proofs.YtaploloedocgbaaDoor
open Go.ChangeShapes Go.WideShapes Go.ChangeAt Go.RowKit
set_option linter.unusedVariables false

set_option maxRecDepth 1000000 in
set_option maxHeartbeats 2000000 in
theorem tokens_any (x : Nd) (a : Option Addr) (cap : Nat) (ts : List Tk) (w : World) (h : LiesA w a ts) (hl : ts.length * 24 ≤ 140737488351232) (hx : NdFit x) :
    Calls Tryd.prog 32 #[.slice a ts.length cap, .agg #[.int .u8 x.k, .int .i64 x.f, .int .i64 x.e, .int .i64 x.s]] w fun e w' => ∃ v, e = .returned v ∧
      w'.ownsRow w.heap.size 3 1 v (tkl ts (spB x ts.length) (spE x ts.length - spB x ts.length)).length (flat (tkl ts (spB x ts.length) (spE x ts.length - spB x ts.length))) ∧ Below w.heap.size w w' := by
  obtain ⟨i0, hi, hz0, hz1, hz2⟩ := info_parts infoInt
  have HL : Hid (LiesA w a ts) := h
  obtain ⟨w2, e2, hw, hs2, B0⟩ := bx1 w #[.int .u8 x.k, .int .i64 x.f, .int .i64 x.e, .int .i64 x.s] 57
  have HB0 : Hid (Below w.heap.size w w2) := hw
  have HX0 : Hid (Bx w2 w.heap.size #[.int .u8 x.k, .int .i64 x.f, .int .i64 x.e, .int .i64 x.s] 57) := B0
  have HS2 : Hid (w2.heap.size = w.heap.size + 1) := hs2
  have HE2 : Hid (w.alloc (.cells #[.int .u8 x.k, .int .i64 x.f, .int .i64 x.e, .int .i64 x.s] 57) = w2) := e2
  have x0 : w2.cell? ⟨w.heap.size, 1, none⟩ = some (.int .i64 x.f) := B0.cell 1
  obtain ⟨_, hxf, hxe, _⟩ := hx
  unfold In64 at hxf hxe
  clear h hw hs2 B0 e2
  have hc : x.f < 0 ∨ 0 ≤ x.f := by omega
  obtain ⟨f, hf⟩ : ∃ f : Nat, x.f.toNat = f := ⟨_, rfl⟩
  have HF : Hid (x.f.toNat = f) := hf
  have hf1 : (f : Int) ≤ 9223372036854775807 := by omega
  clear hf
  have hmax : x.f < 0 → f = 0 := fun h => by have := HF.out; omega
  have hmax2 : 0 ≤ x.f → x.f = (f : Int) := fun h => by have := HF.out; omega
  have HM1 : Hid (x.f < 0 → f = 0) := hmax
  have HM2 : Hid (0 ≤ x.f → x.f = (f : Int)) := hmax2
  clear hmax hmax2
  rcases hc with hc | hc
  all_goals
    go_enter Tryd.func32, Tryd.ntmps32
    go_upto_region 1 with fail
    rw [HE2.out]
    go_wp2
    go_loopw [5, 6] (fun v i wr => ∃ (k : Nat), f ≤ k ∧ (k = f ∨ ((k : Int) ≤ x.e ∧ k ≤ ts.length)) ∧ i = .int .i64 k ∧ Below (w.heap.size + 1) w2 wr ∧ wr.ownsRow (w.heap.size + 1) 3 1 v (tkl ts f (k - f)).length (flat (tkl ts f (k - f)))) (fun _ i _ => ts.length - (intOf i).toNat)
    case atStart => exact ⟨f, Nat.le_refl _, .inl rfl, by first | (rw [HM1.out hc]; rfl) | (rw [HM2.out hc]), Below.refl _ _, by rw [Nat.sub_self]; exact World.ownsRow_nil _ _ _ _⟩
    case round =>
      obtain ⟨k, hk, hke, rfl, hbel, hown⟩ := hrel
      have HB : Hid (Below (w.heap.size + 1) w2 wr) := hbel
      have hlt1 : Hid (∀ k, u5.ownBlock = some k → w.heap.size + 1 ≤ k ∧ k < wr.heap.size) := hown.lt
      have HO : Hid (wr.ownsRow (w.heap.size + 1) 3 1 u5 (tkl ts f (k - f)).length (flat (tkl ts f (k - f)))) := hown
      have hwb : Below w.heap.size w wr := HB0.out.trans (hbel.mono (by omega))
      have HWB : Hid (Below w.heap.size w wr) := hwb
      have hsr : w.heap.size + 1 ≤ wr.heap.size := by have := hbel.size; have := HS2.out; omega
      have hnl : (tkl ts f (k - f)).length ≤ k - f := tkl_len _ _ _
      have y0 : wr.cell? ⟨w.heap.size, 2, none⟩ = some (.int .i64 x.e) := (HX0.out.below hbel (by omega)).cell 2
      clear hbel hown x0
      have hfin : ¬ ((k : Int) < x.e ∧ k < ts.length) → tkl ts f (k - f) = tkl ts (spB x ts.length) (spE x ts.length - spB x ts.length) := by
        intro h
        have hfx := HF.out
        have hn : k - f = spE x ts.length - spB x ts.length := by unfold spE spB; omega
        rw [hn]
        by_cases h0 : spE x ts.length - spB x ts.length = 0
        · rw [h0]; simp [tkl]
        · have : spB x ts.length = f := by unfold spE spB at h0; unfold spB; omega
          rw [this]
      have HFIN : Hid (¬ ((k : Int) < x.e ∧ k < ts.length) → tkl ts f (k - f) = tkl ts (spB x ts.length) (spE x ts.length - spB x ts.length)) := hfin
      clear hfin
      by_cases h1 : (k : Int) < x.e
      · by_cases h2 : k < ts.length
        · obtain ⟨p, hp⟩ : ∃ e, ts[k]? = some e := ⟨_, List.getElem?_eq_getElem h2⟩
          rcases HL.out with rfl | ⟨b1, o1, rfl, hL1⟩
          · simp at h2
          obtain ⟨t0, t1, t2⟩ := hL1.tk hwb hp
          have h2' : (k : Int) < (ts.length : Int) := by omega
          have hp' : ts[f + (k - f)]? = some p := by rw [show f + (k - f) = k by omega]; exact hp
          have HP : Hid (ts[f + (k - f)]? = some p) := hp'
          have hkk : k + 1 - f = k - f + 1 := by omega
          have HKK : Hid (k + 1 - f = k - f + 1) := hkk
          clear hp hL1 hwb hp' hkk
          cases htk : tokB p with
          | true =>
            have HS : Hid (tkl ts f (k + 1 - f) = tkl ts f (k - f) ++ [(k : Int)]) := by
              unfold Hid; rw [HKK.out, tkl_yes HP.out htk]; congr 2; omega
            have HT : Hid ((p.k != 0 && p.k != 1) = true) := htk
            clear htk
            go_wp2_with (first | (go_at_call 55; refine (rtoken_any p.k _).mono ?_; rintro e w3 ⟨rfl, rfl⟩; rw [HT.out]) | (at_builtin; (refine wpList_append_own _ rfl (.tmp 28) (.tmp 30) 39 rfl (w.heap.size + 1) 3 i0 (.int .i64 0) 1 8 Tryd.underlying39 hi hz0 hz1 hz2 rfl (by decide) _ _ _ rfl (HO.out.alloc _) ⟨wr.heap.size, 0, none⟩ 1 1 (flat [(k : Int)]) rfl rfl (cells_new wr (flat [(k : Int)]) 3) (flat_oneCell _) ?_ ?_ ?_ ?_)))
            case refine_1 => unfold maxLen; omega
            case refine_2 => omega
            case refine_3 => simp; omega
            intro v5 w5 hown5 hgrow5 _
            have HB5 : Hid (Below (w.heap.size + 1) w2 w5) := (HB.out.alloc hsr _).grown hgrow5 (by simp; omega) (fun k h => (hlt1.out k h).1)
            have HO5 : Hid (w5.ownsRow (w.heap.size + 1) 3 1 v5 (tkl ts f (k - f) ++ [(k : Int)]).length (flat (tkl ts f (k - f) ++ [(k : Int)]))) := by
              unfold Hid; rw [flat_append, List.length_append]; exact hown5
            clear hgrow5 hown5
            go_wp2
            go_roundw
            case rel => exact ⟨k + 1, by omega, .inr ⟨by omega, by omega⟩, by go_num, HB5.out, own_eq HO5.out HS.out.symm⟩
            case measure => simp [intOf]; omega
          | false =>
            have HS : Hid (tkl ts f (k + 1 - f) = tkl ts f (k - f)) := by
              unfold Hid; rw [HKK.out, tkl_no HP.out htk]
            have HT : Hid ((p.k != 0 && p.k != 1) = false) := htk
            clear htk
            go_wp2_with (first | (go_at_call 55; refine (rtoken_any p.k _).mono ?_; rintro e w3 ⟨rfl, rfl⟩; rw [HT.out]) | fail)
            go_roundw
            case rel => exact ⟨k + 1, by omega, .inr ⟨by omega, by omega⟩, by go_num, HB.out, own_eq HO.out HS.out.symm⟩
            case measure => simp [intOf]; omega
        · have h2' : decide ((k : Int) < (ts.length : Int)) = false := by simp; omega
          have HS := HFIN.out (by omega)
          have HSS : Hid (tkl ts f (k - f) = tkl ts (spB x ts.length) (spE x ts.length - spB x ts.length)) := HS
          clear hwb HS
          go_wp2
          go_ret
          exact ⟨_, rfl, own_base (own_eq HO.out HSS.out) (by omega), HWB.out⟩
      · have HS := HFIN.out (by omega)
        have HSS : Hid (tkl ts f (k - f) = tkl ts (spB x ts.length) (spE x ts.length - spB x ts.length)) := HS
        clear hwb HS
        go_wp2
        go_ret
        exact ⟨_, rfl, own_base (own_eq HO.out HSS.out) (by omega), HWB.out⟩
end Go.Proofs.YtaploloedocgbaaDoor

namespace Go.Proofs.YtaploloedocgbaaDoor
open Go.ChangeShapes Go.WideShapes Go.ChangeAt Go.RowKit
set_option linter.unusedVariables false

set_option maxRecDepth 1000000 in
set_option maxHeartbeats 1000000 in
theorem rUp_any (a : Option Addr) (cap : Nat) (ns : List Nd) (n : Int) (w : World) (h : LiesA w a ns) (hl : ns.length * 32 ≤ 140737488351232) (hn0 : -9223372036854775808 ≤ n) (hn1 : n ≤ 9223372036854775807) :
    Calls Tryd.prog 18 #[.agg #[.slice a ns.length cap], .int .i64 n] w fun e w' => e = .returned (.int .i64 (upN ns n)) ∧ Below w.heap.size w w' := by
  have H2 : Hid (LiesA w a ns) := h
  obtain ⟨w2, e2, hw, hs2, B0⟩ := bx1 w #[.slice a ns.length cap] 25
  have HB0 : Hid (Below w.heap.size w w2) := hw
  have HX0 : Hid (Bx w2 w.heap.size #[.slice a ns.length cap] 25) := B0
  have HS2 : Hid (w2.heap.size = w.heap.size + 1) := hs2
  have HE2 : Hid (w.alloc (.cells #[.slice a ns.length cap] 25) = w2) := e2
  have x0 := B0.one
  clear h hw hs2 B0 e2
  by_cases g0 : 0 ≤ n ∧ n < (ns.length : Int)
  · obtain ⟨m, rfl⟩ : ∃ m : Nat, n = m := ⟨n.toNat, by omega⟩
    have HU : Hid (upN ns m = upF ns m m) := by unfold Hid upN; rw [if_pos g0, Int.toNat_natCast]
    have g1 : (m : Int) < (ns.length : Int) := g0.2
    have g2 : ¬ (m : Int) < 0 := by omega
    clear g0
    go_enter Tryd.func18, Tryd.ntmps18
    go_upto_region 1 with fail
    rw [HE2.out]
    go_wp2
    have HLO : Hid (Below w2.heap.size w2 w2) := Below.refl _ _
    clear x0 g2
    go_loopw [5] (fun i wr => ∃ k : Nat, k ≤ m ∧ i = .int .i64 ((k : Int) - 1) ∧ Below w2.heap.size w2 wr ∧ upF ns m m = upF ns m k) (fun i _ => (intOf i + 1).toNat)
    case atStart => exact ⟨m, Nat.le_refl _, rfl, HLO.out, rfl⟩
    case round =>
      obtain ⟨wo, rfl⟩ : ∃ wo, wo = wr := ⟨_, rfl⟩
      obtain ⟨k, hk, rfl, hbel, heq⟩ := hrel
      have HBR : Hid (Below w2.heap.size w2 wo) := hbel
      have HEQ : Hid (upN ns m = upF ns m k) := HU.out.trans heq
      have HEQ' : Hid (upF ns m m = upF ns m k) := heq
      have HWR : Hid (Below w.heap.size w wo) := HB0.out.trans (hbel.mono HB0.out.size)
      have HTR : Hid (Bx wo w.heap.size #[.slice a ns.length cap] 25) := HX0.out.below hbel (by have := HS2.out; omega)
      have z0 := HTR.out.one
      clear hbel heq
      rcases k with _ | p
      · go_wp2
        go_ret
        exact ⟨ret_i64 (by rw [HEQ.out]; rfl), HWR.out⟩
      · have hi : ((p + 1 : Nat) : Int) - 1 = (p : Int) := by omega
        rw [hi]
        clear hi
        obtain ⟨x, hx⟩ : ∃ e, ns[p]? = some e := ⟨_, List.getElem?_eq_getElem (by omega)⟩
        rcases H2.out with h0 | ⟨b2, o2, rfl, hL2⟩
        · rw [h0] at g1; simp at g1; omega
        obtain ⟨d0, d1, d2, d3⟩ := hL2.nd HWR.out hx
        have HX : Hid (ns[p]? = some x) := hx
        have hp0 : (0 : Int) ≤ (p : Int) := by omega
        have hp1 : (p : Int) < (ns.length : Int) := by omega
        clear hx hL2 d0 d1 d2
        by_cases g3 : x.s ≤ (m : Int) - (p : Int)
        · have HNO : Hid (upF ns m (p + 1) = upF ns m p) := upF_no HX.out (by unfold upB; rw [decide_eq_false (by omega)]; rfl)
          go_wp2
          go_roundw
          case rel => exact ⟨p, by omega, by go_num, HBR.out, by rw [HEQ'.out, HNO.out]⟩
          case measure => simp [intOf]
        · have hpn0 : -9223372036854775808 ≤ (p : Int) := by omega
          have hpn1 : (p : Int) ≤ 9223372036854775807 := by omega
          go_upto_region 9 with (first
            | (go_at_call 11; refine (rkids_any _ cap ns p _ (H2.out.below HWR.out) hl hpn0 hpn1).mono ?_; rintro e w6 ⟨v6, rfl, o6, hb6⟩; have HB6 : Hid (Below wo.heap.size wo w6) := hb6; have O6 : Hid (w6.ownsRow wo.heap.size 3 1 v6 (kdl ns p).length (flat (kdl ns p))) := o6; clear hb6 o6)
            | fail)
          have hmx := own_max O6.out
          unfold maxLen at hmx
          obtain ⟨a6, c6, rfl, q6, _, _⟩ := own_form O6.out
          have Q6 : Hid (LiesA w6 a6 (kdl ns p)) := q6
          have HV6 : Hid (Below w.heap.size w w6) := HWR.out.trans (HB6.out.mono HWR.out.size)
          have HR6 : Hid (Below w2.heap.size w2 w6) := HBR.out.trans (HB6.out.mono HBR.out.size)
          have HLO6 : Hid (Below w6.heap.size w6 w6) := Below.refl _ _
          obtain ⟨N, hN⟩ : ∃ N, (kdl ns p).length = N := ⟨_, rfl⟩
          have HN : Hid ((kdl ns p).length = N) := hN
          rw [hN] at hmx ⊢
          clear q6 O6 hN z0 d3
          go_loopw [8] (fun i wr => ∃ j : Nat, j ≤ N ∧ i = .int .i64 j ∧ Below w6.heap.size w6 wr ∧ ∀ t : Nat, t < j → (kdl ns p)[t]? ≠ some (m : Int)) (fun i _ => N - (intOf i).toNat)
          case atStart => exact ⟨0, Nat.zero_le _, rfl, HLO6.out, fun t h => absurd h (Nat.not_lt_zero _)⟩
          case round =>
            obtain ⟨j, hj, rfl, hbel, hall⟩ := hrel
            have HBI : Hid (Below w6.heap.size w6 wr) := hbel
            have HAI : Hid (∀ t : Nat, t < j → (kdl ns p)[t]? ≠ some (m : Int)) := hall
            have HVI : Hid (Below w.heap.size w wr) := HV6.out.trans (hbel.mono HV6.out.size)
            have HRI : Hid (Below w2.heap.size w2 wr) := HR6.out.trans (hbel.mono HR6.out.size)
            clear hbel hall
            by_cases hjN : j < N
            · obtain ⟨v, hv⟩ : ∃ e, (kdl ns p)[j]? = some e := ⟨_, List.getElem?_eq_getElem (by have := HN.out; omega)⟩
              rcases Q6.out with h0 | ⟨b6, o6, rfl, hL6⟩
              · rw [h0] at hv; simp at hv
              have r0 := hL6.int HBI.out hv
              have hj' : (j : Int) < (N : Int) := by omega
              have HV : Hid ((kdl ns p)[j]? = some v) := hv
              clear hv hL6
              by_cases g4 : v = (m : Int)
              · subst g4
                have HYES : Hid (upF ns m (p + 1) = (p : Int)) := upF_yes HX.out (by unfold upB; rw [decide_eq_true (by omega), kdl_has HV.out]; rfl)
                go_wp2
                go_ret
                exact ⟨ret_i64 (by rw [HEQ.out, HYES.out]), HVI.out⟩
              · have g4' : (v == (m : Int)) = false := by simp [g4]
                go_wp2
                go_roundw
                case rel =>
                  refine ⟨j + 1, by omega, by go_num, HBI.out, fun t ht => ?_⟩
                  by_cases htj : t < j
                  · exact HAI.out t htj
                  · obtain rfl : t = j := by omega
                    rw [HV.out]
                    intro h'
                    injection h' with h'
                    exact g4 h'
                case measure => simp [intOf]; omega
            · have HNO : Hid (upF ns m (p + 1) = upF ns m p) := upF_no HX.out (by unfold upB; rw [kdl_hasnt (fun t ht => HAI.out t (by have := HN.out; omega))]; simp)
              go_wp2
              go_roundw
              case rel => exact ⟨p, by omega, by go_num, HRI.out, by rw [HEQ'.out, HNO.out]⟩
              case measure => simp [intOf]
  · have HU : Hid (upN ns n = -1) := by unfold Hid upN; rw [if_neg g0]
    go_enter Tryd.func18, Tryd.ntmps18
    go_upto_region 1 with fail
    rw [HE2.out]
    by_cases g1 : n < 0
    · go_wp2
      go_ret
      exact ⟨ret_i64 HU.out.symm, HB0.out⟩
    · have g2 : ¬ n < (ns.length : Int) := by omega
      go_wp2
      go_ret
      exact ⟨ret_i64 HU.out.symm, HB0.out⟩
end Go.Proofs.YtaploloedocgbaaDoor
