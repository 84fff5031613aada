import Derived.Test.YtaploloedocgbaaDoorAtP
import Derived.Test.YtaploloedocgbaaDoorDw
import Derived.Deep.RegionHeld3
import Derived.Deep.AppendLies
import Derived.Deep.DrawnRows
import Derived.Deep.DeepCutAuto
import Derived.Test.YtaploloedocgbaaDoorNms1
namespace Go.Proofs.YtaploloedocgbaaDoor
open Go.ChangeShapes Go.WideShapes Go.ChangeAt Go.RowKit
set_option linter.unusedVariables false

/-- is a node's kind one, and are its kids in order? -/
def okN (ns : List Nd) (n : Nat) : Bool := match ns[n]? with | some x => decide (x.k < 58) && (kid ns n).isSome | none => false
/-- are the nodes one tree? -/
def shB (ns : List Nd) : Bool := (match ns[0]? with | some x => decide (x.s = (ns.length : Int)) | none => false) && (List.range ns.length).all (okN ns)
theorem okN_at {ns : List Nd} {n : Nat} {x : Nd} (hx : ns[n]? = some x) : okN ns n = (decide (x.k < 58) && (kid ns n).isSome) := by unfold okN; rw [hx]
theorem shB_nil : shB [] = false := rfl
theorem shB_head {ns : List Nd} {x : Nd} (hx : ns[0]? = some x) (h : x.s ≠ (ns.length : Int)) : shB ns = false := by unfold shB; rw [hx]; simp [h]
theorem shB_no {ns : List Nd} {k : Nat} (hk : k < ns.length) (h : okN ns k = false) : shB ns = false := by
  unfold shB
  rw [Bool.and_eq_false_iff]; right
  rw [Bool.eq_false_iff]; intro ha
  have := List.all_eq_true.1 ha k (List.mem_range.2 hk)
  rw [h] at this; cases this
theorem shB_yes {ns : List Nd} {x : Nd} (hx : ns[0]? = some x) (hs : x.s = (ns.length : Int)) (h : ∀ i, i < ns.length → okN ns i = true) : shB ns = true := by
  unfold shB
  rw [hx]; simp only [Bool.and_eq_true, decide_eq_true_eq]
  exact ⟨hs, List.all_eq_true.2 (fun i hi => h i (List.mem_range.1 hi))⟩
theorem all_snoc {p : Nat → Bool} {k : Nat} (h : ∀ i, i < k → p i = true) (hk : p k = true) : ∀ i, i < k + 1 → p i = true := fun i hi => by
  by_cases e : i = k
  · rw [e]; exact hk
  · exact h i (by omega)
theorem retV {a b : Bool} (h : a = b) : Ending.returned (.bool a) = .returned (.bool b) := by rw [h]

set_option maxRecDepth 1000000 in
set_option maxHeartbeats 1000000 in
theorem nested_any (a : Option Addr) (cap : Nat) (ns : List Nd) (w : World) (h : LiesA w a ns) (hl : ns.length * 32 ≤ 140737488351232) (hf : ∀ e ∈ ns, NdFit e) :
    Calls Tryd.prog 34 #[.agg #[.slice a ns.length cap]] w fun e w' => e = .returned (.bool (shB ns)) ∧ Below w.heap.size w w' := by
  have H : Hid (LiesA w a ns) := h
  have HFT : Hid (∀ e ∈ ns, NdFit e) := hf
  obtain ⟨w2, e2, hw, hs2, B0⟩ := bx1 w #[.slice a ns.length cap] 25
  have HB0 : Hid (Below w.heap.size w w2) := hw
  have HX0 : Hid (Bx w2 w.heap.size #[.slice a ns.length cap] 25) := B0
  have HS2 : Hid (w2.heap.size = w.heap.size + 1) := hs2
  have HE2 : Hid (w.alloc (.cells #[.slice a ns.length cap] 25) = w2) := e2
  obtain ⟨X, F, hX, hF, onto⟩ := class_of (fun v => Below w2.heap.size w2 v) (Below.refl _ w2)
  have HF : Hid (∀ y, Below w2.heap.size w2 (F y)) := hF
  have HO : Hid (∀ v, Below w2.heap.size w2 v → ∃ x, v = F x) := fun v h => by obtain ⟨x, hx⟩ := onto v h; exact ⟨x, hx.symm⟩
  have f1 : ∀ y, (F y).cell? ⟨w.heap.size, 0, none⟩ = some (.slice a ns.length cap) := fun y => ((hF y).cell (p := ⟨w.heap.size, 0, none⟩) (by show w.heap.size < w2.heap.size; omega)).trans B0.one
  have HV : Hid (∀ y, Below w.heap.size w (F y)) := fun y => HB0.out.trans ((hF y).mono HB0.out.size)
  clear h hf hw hs2 B0 e2 hF onto
  by_cases hz : ns.length = 0
  · have HR : Hid (shB ns = false) := by unfold Hid; rw [List.length_eq_zero_iff.1 hz]; rfl
    have hz1 : ((ns.length : Int) == 0) = true := by simp [hz]
    clear hz
    go_enter Tryd.func34, Tryd.ntmps34
    go_upto_region 1 with fail
    rw [HE2.out]
    refine region_class F (by kernel_rfl) (by kernel_rfl) (by obtain ⟨x, hx⟩ := HO.out _ (Below.refl _ _).drew; exact ⟨x, hx.symm⟩) ?_
    repeat (go_big_quiet_step (fail))
    refine wpQuiet_nil ?_
    rintro _ ⟨nq, rfl⟩
    go_wp2
    go_ret
    exact ⟨retV HR.out.symm, HV.out nq⟩
  · rcases H.out with h0 | ⟨b2, o2, rfl, hL2⟩
    · rw [h0] at hz; simp at hz
    have HL : Hid (Lies w b2 o2 ns) := hL2
    obtain ⟨x0, hx0⟩ : ∃ x, ns[0]? = some x := ⟨_, List.getElem?_eq_getElem (by omega)⟩
    have HX00 : Hid (ns[0]? = some x0) := hx0
    have f2 : ∀ y, (F y).cell? ⟨b2, o2 + 3, none⟩ = some (.int .i64 x0.s) := fun y => by have := (hL2.nd (HV.out y) hx0).2.2.2; simpa using this
    have hz0 : (0 : Int) < (ns.length : Int) := by omega
    have hz1 : ((ns.length : Int) == 0) = false := beq_eq_false_iff_ne.2 (by omega)
    clear hx0 hL2
    by_cases hs0 : x0.s = (ns.length : Int)
    · have HS0 : Hid (x0.s = (ns.length : Int)) := hs0
      rw [hs0] at f2
      clear hs0
      go_enter Tryd.func34, Tryd.ntmps34
      go_upto_region 1 with fail
      rw [HE2.out]
      refine region_class F (by kernel_rfl) (by kernel_rfl) (by obtain ⟨x, hx⟩ := HO.out _ (Below.refl _ _).drew; exact ⟨x, hx.symm⟩) ?_
      repeat (go_big_quiet_step (fail))
      refine wpQuiet_nil ?_
      rintro _ ⟨nq, rfl⟩
      obtain ⟨wq, hwq⟩ : ∃ wq, F nq = wq := ⟨_, rfl⟩
      have HQ : Hid (Below w2.heap.size w2 wq) := hwq ▸ HF.out nq
      have q0 : wq.cell? ⟨w.heap.size, 0, none⟩ = some (.slice (some ⟨b2, o2, none⟩) ns.length cap) := hwq ▸ f1 nq
      rw [hwq]
      clear hwq f1 f2 HF HO HV
      go_wp2
      clear q0
      go_loopw [25] (fun i wr => ∃ k : Nat, k ≤ ns.length ∧ i = .int .i64 (k : Int) ∧ Below w2.heap.size w2 wr ∧ ∀ i, i < k → okN ns i = true) (fun i _ => ns.length - (intOf i).toNat)
      case atStart => exact ⟨0, by omega, rfl, HQ.out, fun i hi => absurd hi (by omega)⟩
      case round =>
        obtain ⟨k, hk, rfl, hbel, hok⟩ := hrel
        have HBR : Hid (Below w2.heap.size w2 wr) := hbel
        have HOK : Hid (∀ i, i < k → okN ns i = true) := hok
        have HWR : Hid (Below w.heap.size w wr) := HB0.out.trans (hbel.mono HB0.out.size)
        clear hbel hok
        by_cases hkl : k < ns.length
        · obtain ⟨x, hx⟩ : ∃ e, ns[k]? = some e := ⟨_, List.getElem?_eq_getElem hkl⟩
          obtain ⟨d0, d1, d2, d3⟩ := HL.out.nd HWR.out hx
          have HX : Hid (ns[k]? = some x) := hx
          have hk1 : (k : Int) < (ns.length : Int) := by omega
          have hb2r : b2 < wr.heap.size := by have := HL.out.1; have := HWR.out.size; omega
          have hxk := (HFT.out x (List.mem_of_getElem? hx)).1
          obtain ⟨w6, e6, hb6, hs6, B6⟩ := bx1 wr #[.int .u8 x.k, .int .i64 x.f, .int .i64 x.e, .int .i64 x.s] 57
          have HE6 : Hid (wr.alloc (.cells #[.int .u8 x.k, .int .i64 x.f, .int .i64 x.e, .int .i64 x.s] 57) = w6) := e6
          have HW6 : Hid (Below w2.heap.size w2 w6) := HBR.out.trans (hb6.mono HBR.out.size)
          have HV6 : Hid (Below w.heap.size w w6) := HWR.out.trans (hb6.mono HWR.out.size)
          have q1 : w6.cell? ⟨wr.heap.size, 0, none⟩ = some (.int .u8 x.k) := B6.cell 0
          have q2 : w6.cell? ⟨w.heap.size, 0, none⟩ = some (.slice (some ⟨b2, o2, none⟩) ns.length cap) := (HX0.out.below HW6.out (by have := HS2.out; omega)).one
          clear hx e6 hb6 hs6 B6
          by_cases g : x.k < 58
          · have HG : Hid (x.k < 58) := g
            cases hki : (kid ns k).isSome with
            | false =>
              have HR : Hid (shB ns = false) := shB_no hkl (by rw [okN_at HX.out, hki]; simp)
              have HKI : Hid ((kid ns k).isSome = false) := hki
              clear hki
              go_upto_region 6 with fail
              rw [HE6.out]
              clear d0 d1 d2 d3
              go_wp2_with (go_at_call 26; refine (kids_any _ cap ns (k : Int) _ (H.out.below HV6.out) hl (by omega) (by omega)).mono ?_; rintro e w7 ⟨v7, rfl, o7, hb7⟩; rw [HKI.out]; have HB7 : Hid (Below w6.heap.size w6 w7) := hb7; obtain ⟨a7, c7, rfl, q7, hq7, hnn7⟩ := own_form o7; clear hb7 o7 q7 hq7 hnn7)
              go_ret
              exact ⟨retV HR.out.symm, HV6.out.trans (HB7.out.mono HV6.out.size)⟩
            | true =>
              have HOKN : Hid (okN ns k = true) := by unfold Hid; rw [okN_at HX.out, hki]; simp [g]
              have HKI : Hid ((kid ns k).isSome = true) := hki
              clear hki
              go_upto_region 6 with fail
              rw [HE6.out]
              clear d0 d1 d2 d3
              go_wp2_with (go_at_call 26; refine (kids_any _ cap ns (k : Int) _ (H.out.below HV6.out) hl (by omega) (by omega)).mono ?_; rintro e w7 ⟨v7, rfl, o7, hb7⟩; rw [HKI.out]; have HB7 : Hid (Below w6.heap.size w6 w7) := hb7; obtain ⟨a7, c7, rfl, q7, hq7, hnn7⟩ := own_form o7; clear hb7 o7 q7 hq7 hnn7)
              go_roundw
              case rel => exact ⟨k + 1, by omega, by simp, HW6.out.trans (HB7.out.mono HW6.out.size), all_snoc HOK.out HOKN.out⟩
              case measure => simp [intOf]; omega
          · have HR : Hid (shB ns = false) := shB_no hkl (by rw [okN_at HX.out, decide_eq_false g]; rfl)
            go_upto_region 6 with fail
            rw [HE6.out]
            clear d0 d1 d2 d3
            go_wp2
            go_ret
            exact ⟨retV HR.out.symm, HV6.out⟩
        · have hke : k = ns.length := by omega
          have HR : Hid (shB ns = true) := shB_yes HX00.out HS0.out (fun i hi => HOK.out i (by omega))
          subst hke
          go_wp2
          go_ret
          exact ⟨retV HR.out.symm, HWR.out⟩
    · have HR : Hid (shB ns = false) := shB_head HX00.out hs0
      go_enter Tryd.func34, Tryd.ntmps34
      go_upto_region 1 with fail
      rw [HE2.out]
      refine region_class F (by kernel_rfl) (by kernel_rfl) (by obtain ⟨x, hx⟩ := HO.out _ (Below.refl _ _).drew; exact ⟨x, hx.symm⟩) ?_
      repeat (go_big_quiet_step (fail))
      refine wpQuiet_nil ?_
      rintro _ ⟨nq, rfl⟩
      go_wp2
      go_ret
      exact ⟨retV HR.out.symm, HV.out nq⟩
end Go.Proofs.YtaploloedocgbaaDoor

namespace Go.Proofs.YtaploloedocgbaaDoor
open Go.ChangeShapes Go.WideShapes Go.ChangeAt Go.RowKit
set_option linter.unusedVariables false

set_option maxRecDepth 1000000 in
set_option maxHeartbeats 2000000 in
theorem rnames_any (s : ByteArray) (a1 a2 : Option Addr) (c1 c2 : Nat) (ts : List Tk) (ns : List Nd) (w : World) (h1 : LiesA w a1 ts) (h2 : LiesA w a2 ns) (hl1 : ts.length * 24 ≤ 140737488351232) (hl2 : ns.length * 32 ≤ 140737488351232)
    (hs : s.size ≤ 140737488351232) (hf1 : ∀ e ∈ ts, TkFit e) :
    Calls Tryd.prog 14 #[.string s, .slice a1 ts.length c1, .agg #[.slice a2 ns.length c2]] w fun e w' => ∃ v, e = .returned v ∧
      w'.ownsRow w.heap.size 3 1 v (nms s ts ns).length (flat (nms s ts ns)) ∧ Below w.heap.size w w' := by
  obtain ⟨i0, hi, hz0, hz1, hz2⟩ := info_parts infoInt
  have H1 : Hid (LiesA w a1 ts) := h1
  have H2 : Hid (LiesA w a2 ns) := h2
  have HF1 : Hid (∀ e ∈ ts, TkFit e) := hf1
  obtain ⟨w2, e2, hw, hs2, B0⟩ := bx1 w #[.slice a2 ns.length c2] 25
  have HB0 : Hid (Below w.heap.size w w2) := hw
  have HX0 : Hid (Bx w2 w.heap.size #[.slice a2 ns.length c2] 25) := B0
  have HS2 : Hid (w2.heap.size = w.heap.size + 1) := hs2
  have HE2 : Hid (w.alloc (.cells #[.slice a2 ns.length c2] 25) = w2) := e2
  have x0 := B0.one
  clear h1 h2 hf1 hw hs2 B0 e2
  go_enter Tryd.func14, Tryd.ntmps14
  go_upto_region 1 with fail
  rw [HE2.out]
  go_wp2
  go_loopw [7, 8] (fun v i wr => ∃ k : Nat, k ≤ ns.length ∧ i = .int .i64 k ∧ Below (w.heap.size + 1) w2 wr ∧ wr.ownsRow (w.heap.size + 1) 3 1 v (nms s ts (ns.take k)).length (flat (nms s ts (ns.take k)))) (fun _ i _ => ns.length - (intOf i).toNat)
  case atStart => exact ⟨0, Nat.zero_le _, rfl, Below.refl _ _, World.ownsRow_nil _ _ _ _⟩
  case round =>
    obtain ⟨k, hk, rfl, hbel, hown⟩ := hrel
    have HB : Hid (Below (w.heap.size + 1) w2 wr) := hbel
    have hlt1 : Hid (∀ k, u7.ownBlock = some k → w.heap.size + 1 ≤ k ∧ k < wr.heap.size) := hown.lt
    have HO : Hid (wr.ownsRow (w.heap.size + 1) 3 1 u7 (nms s ts (ns.take k)).length (flat (nms s ts (ns.take k)))) := hown
    have hwb : Below w.heap.size w wr := HB0.out.trans (hbel.mono (by omega))
    have HWB : Hid (Below w.heap.size w wr) := hwb
    have hsr : w.heap.size + 1 ≤ wr.heap.size := by have := hbel.size; have := HS2.out; omega
    have hnl : (nms s ts (ns.take k)).length ≤ k := by have := nms_len s ts (ns.take k); simp at this; omega
    have y0 := (HX0.out.below hbel (by omega)).one
    clear hbel hown x0
    by_cases hlt : k < ns.length
    · obtain ⟨x, hx⟩ : ∃ e, ns[k]? = some e := ⟨_, List.getElem?_eq_getElem hlt⟩
      rcases H2.out with rfl | ⟨b2, o2, rfl, hL2⟩
      · simp at hlt
      have hb2 : b2 < wr.heap.size := by have := hL2.1; omega
      obtain ⟨d0, d1, d2, d3⟩ := hL2.nd hwb hx
      have HX : Hid (ns[k]? = some x) := hx
      clear hx hL2 hwb
      have hlt' : (k : Int) < (ns.length : Int) := by omega
      by_cases g1 : x.k = 45
      · by_cases g2 : x.f < 0
        · have HS : Hid (nms s ts (ns.take (k + 1)) = nms s ts (ns.take k)) := nms_no HX.out (by unfold nmB; rw [decide_eq_false (by omega)]; simp)
          go_wp2
          go_roundw
          case rel => exact ⟨k + 1, by omega, by go_num, HB.out.alloc hsr _, own_eq (HO.out.alloc _) HS.out.symm⟩
          case measure => simp [intOf]; omega
        · obtain ⟨m, hm⟩ : ∃ m : Nat, x.f = m := ⟨x.f.toNat, by omega⟩
          rw [hm] at d1
          clear g2
          by_cases g3 : m < ts.length
          · obtain ⟨p, hp⟩ : ∃ e, ts[m]? = some e := ⟨_, List.getElem?_eq_getElem g3⟩
            rcases H1.out with rfl | ⟨b1, o1, rfl, hL1⟩
            · simp at g3
            have hb1 : b1 < wr.heap.size := by have := hL1.1; omega
            obtain ⟨t0, t1, t2⟩ := hL1.tk HWB.out hp
            have hfit := HF1.out p (List.mem_of_getElem? hp)
            have HN : Hid (nmB s ts x = (p.k == 2 && okW (wrd s p))) := by
              unfold Hid nmB; rw [g1, hm, Int.toNat_natCast, hp]; simp
            have g3' : (m : Int) < (ts.length : Int) := by omega
            have HFT : Hid (TkFit p) := hfit
            clear hp hL1 hfit
            by_cases g4 : p.k = 2
            · rw [g4] at t0
              have HWD : Hid (nmB s ts x = okW (wrd s p)) := by unfold Hid; rw [HN.out, g4]; simp
              have HPK : Hid (p.k = 2) := g4
              clear g4 HN
              go_wp2_with fail
              refine (rWord_any s ⟨2, p.f, p.t⟩ _ hs ⟨by simp, HFT.out.2.1, HFT.out.2.2⟩).mono ?_
              rintro e w4 ⟨rfl, hb4⟩
              have hv : wrd s ⟨2, p.f, p.t⟩ = wrd s p := rfl
              rw [hv]
              clear hv
              have HB4 : Hid (Below (w.heap.size + 1) w2 w4) := (HB.out.alloc hsr _).trans (hb4.mono (by simp; omega))
              have HO4 : Hid (w4.ownsRow (w.heap.size + 1) 3 1 u7 (nms s ts (ns.take k)).length (flat (nms s ts (ns.take k)))) := ownsRow_below (HO.out.alloc _) hb4 (Nat.le_refl _)
              have hs4 : wr.heap.size + 1 ≤ w4.heap.size := by have := hb4.size; simpa using this
              have n1 : w4.cell? ⟨wr.heap.size, 1, none⟩ = some (.int .i64 m) := (hb4.cell (p := ⟨wr.heap.size, 1, none⟩) (by simp)).trans (by simp)
              generalize wrd s p = v at *
              clear hb4
              cases hok : okW v with
              | true =>
                have HS : Hid (nms s ts (ns.take (k + 1)) = nms s ts (ns.take k) ++ [(m : Int)]) := by
                  unfold Hid; rw [nms_yes HX.out (by rw [HWD.out]; exact hok), hm]
                unfold okW at hok
                simp only [Bool.and_eq_true, Bool.not_eq_true'] at hok
                obtain ⟨k1, k2⟩ := hok
                go_wp2_with (at_builtin; (refine wpList_append_own _ rfl (.tmp 60) (.tmp 63) 39 rfl (w.heap.size + 1) 3 i0 (.int .i64 0) 1 8 Tryd.underlying39 hi hz0 hz1 hz2 rfl (by decide) _ _ _ rfl (HO4.out.alloc _) ⟨w4.heap.size, 0, none⟩ 1 1 (flat [(m : Int)]) rfl rfl (cells_new w4 (flat [(m : Int)]) 3) (flat_oneCell _) ?_ ?_ ?_ ?_))
                case refine_1 => unfold maxLen; omega
                case refine_2 => omega
                case refine_3 => simp; omega
                intro v5 w5 hown5 hgrow5 _
                have HB5 : Hid (Below (w.heap.size + 1) w2 w5) := (HB4.out.alloc (by omega) _).grown hgrow5 (by simp; omega) (fun k h => (hlt1.out k h).1)
                have HO5 : Hid (w5.ownsRow (w.heap.size + 1) 3 1 v5 (nms s ts (ns.take k) ++ [(m : Int)]).length (flat (nms s ts (ns.take k) ++ [(m : Int)]))) := by
                  unfold Hid; rw [flat_append, List.length_append]; exact hown5
                clear hgrow5 hown5
                go_wp2
                go_roundw
                case rel => exact ⟨k + 1, by omega, by go_num, HB5.out, own_eq HO5.out HS.out.symm⟩
                case measure => simp [intOf]; omega
              | false =>
                have HS : Hid (nms s ts (ns.take (k + 1)) = nms s ts (ns.take k)) := nms_no HX.out (by rw [HWD.out]; exact hok)
                cases hem : v.toList.isEmpty with
                | true =>
                  go_wp2
                  go_roundw
                  case rel => exact ⟨k + 1, by omega, by go_num, HB4.out, own_eq HO4.out HS.out.symm⟩
                  case measure => simp [intOf]; omega
                | false =>
                  have k2 : (v.toList == [95]) = true := by unfold okW at hok; rw [hem] at hok; simpa using hok
                  go_wp2
                  go_roundw
                  case rel => exact ⟨k + 1, by omega, by go_num, HB4.out, own_eq HO4.out HS.out.symm⟩
                  case measure => simp [intOf]; omega
            · have HS : Hid (nms s ts (ns.take (k + 1)) = nms s ts (ns.take k)) := nms_no HX.out (by rw [HN.out]; simp [g4])
              have g4' : (p.k != 2) = true := by simp [g4]
              clear g4
              go_wp2
              go_roundw
              case rel => exact ⟨k + 1, by omega, by go_num, HB.out.alloc hsr _, own_eq (HO.out.alloc _) HS.out.symm⟩
              case measure => simp [intOf]; omega
          · have HS : Hid (nms s ts (ns.take (k + 1)) = nms s ts (ns.take k)) := nms_no HX.out (by unfold nmB; rw [hm, Int.toNat_natCast, List.getElem?_eq_none (by omega)]; simp)
            go_wp2
            go_roundw
            case rel => exact ⟨k + 1, by omega, by go_num, HB.out.alloc hsr _, own_eq (HO.out.alloc _) HS.out.symm⟩
            case measure => simp [intOf]; omega
      · have HS : Hid (nms s ts (ns.take (k + 1)) = nms s ts (ns.take k)) := nms_no HX.out (by unfold nmB; simp [g1])
        go_wp2
        go_roundw
        case rel => exact ⟨k + 1, by omega, by go_num, HB.out.alloc hsr _, own_eq (HO.out.alloc _) HS.out.symm⟩
        case measure => simp [intOf]; omega
    · have HS : Hid (nms s ts (ns.take k) = nms s ts ns) := by unfold Hid; rw [List.take_of_length_le (by omega)]
      clear hwb
      go_wp2
      go_ret
      exact ⟨_, rfl, own_base (own_eq HO.out HS.out) (by omega), HWB.out⟩
end Go.Proofs.YtaploloedocgbaaDoor
