import Derived.Test.YtaploloedocgbaaDoorNms2
import Derived.Test.YtaploloedocgbaaDoorNms1
namespace Go.Proofs.YtaploloedocgbaaDoor
open Go.ChangeShapes Go.WideShapes Go.ChangeAt Go.RowKit
set_option linter.unusedVariables false

/-- do the runs of these kids lie in p's own, one behind the other, from a place on? -/
def rnF (ns : List Nd) (p : Nd) : Int → List Int → Bool
  | _, [] => true
  | fr, k :: ks => match ns[k.toNat]? with
    | some x => if x.f = x.e then (if x.f < p.f then false else rnF ns p fr ks) else if x.f < fr ∨ p.e < x.e then false else rnF ns p x.e ks
    | none => false
def rnN (ns : List Nd) (n : Nat) : Bool := match ns[n]? with | some p => rnF ns p p.f ((kid ns n).getD []) | none => false
theorem rnF_empty_bad {ns : List Nd} {p x : Nd} {fr : Int} {m : Nat} {ks : List Int} (hx : ns[m]? = some x) (h : x.f = x.e) (h2 : x.f < p.f) : rnF ns p fr ((m : Int) :: ks) = false := by rw [rnF, Int.toNat_natCast, hx]; simp only; rw [if_pos h, if_pos h2]
theorem rnF_empty {ns : List Nd} {p x : Nd} {fr : Int} {m : Nat} {ks : List Int} (hx : ns[m]? = some x) (h : x.f = x.e) (h2 : ¬ x.f < p.f) : rnF ns p fr ((m : Int) :: ks) = rnF ns p fr ks := by rw [rnF, Int.toNat_natCast, hx]; simp only; rw [if_pos h, if_neg h2]
theorem rnF_bad {ns : List Nd} {p x : Nd} {fr : Int} {m : Nat} {ks : List Int} (hx : ns[m]? = some x) (h : ¬ x.f = x.e) (h2 : x.f < fr ∨ p.e < x.e) : rnF ns p fr ((m : Int) :: ks) = false := by rw [rnF, Int.toNat_natCast, hx]; simp only; rw [if_neg h, if_pos h2]
theorem rnF_next {ns : List Nd} {p x : Nd} {fr : Int} {m : Nat} {ks : List Int} (hx : ns[m]? = some x) (h : ¬ x.f = x.e) (h2 : ¬ (x.f < fr ∨ p.e < x.e)) : rnF ns p fr ((m : Int) :: ks) = rnF ns p x.e ks := by rw [rnF, Int.toNat_natCast, hx]; simp only; rw [if_neg h, if_neg h2]
theorem rnN_at {ns : List Nd} {n : Nat} {p : Nd} (hx : ns[n]? = some p) : rnN ns n = rnF ns p p.f ((kid ns n).getD []) := by unfold rnN; rw [hx]

set_option maxRecDepth 1000000 in
set_option maxHeartbeats 1000000 in
theorem runsFit_any (a : Option Addr) (cap : Nat) (ns : List Nd) (n : Nat) (p : Nd) (w : World) (hp : ns[n]? = some p) (h : LiesA w a ns) (hl : ns.length * 32 ≤ 140737488351232) :
    Calls Tryd.prog 47 #[.agg #[.slice a ns.length cap], .int .i64 (n : Int)] w fun e w' => e = .returned (.bool (rnN ns n)) ∧ Below w.heap.size w w' := by
  have hn : n < ns.length := (List.getElem?_eq_some_iff.1 hp).1
  have H : Hid (LiesA w a ns) := h
  rcases h with h0 | ⟨b2, o2, rfl, hL2⟩
  · rw [h0] at hn; simp at hn
  have HL : Hid (Lies w b2 o2 ns) := hL2
  obtain ⟨w3, e3, hw3, hs3, X1, X2⟩ := bx2 w #[.slice (some ⟨b2, o2, none⟩) ns.length cap] #[.int .u8 p.k, .int .i64 p.f, .int .i64 p.e, .int .i64 p.s] 25 57
  obtain ⟨d0, d1, d2, d3⟩ := hL2.nd (Below.refl _ w) hp
  have HE3 : Hid ((w.alloc (.cells #[.slice (some ⟨b2, o2, none⟩) ns.length cap] 25)).alloc (.cells #[.int .u8 p.k, .int .i64 p.f, .int .i64 p.e, .int .i64 p.s] 57) = w3) := e3
  have HB3 : Hid (Below w.heap.size w w3) := hw3
  have HS3 : Hid (w3.heap.size = w.heap.size + 2) := hs3
  have HX1 : Hid (Bx w3 w.heap.size #[.slice (some ⟨b2, o2, none⟩) ns.length cap] 25) := X1
  have HX2 : Hid (Bx w3 (w.heap.size + 1) #[.int .u8 p.k, .int .i64 p.f, .int .i64 p.e, .int .i64 p.s] 57) := X2
  have HR : Hid (rnN ns n = rnF ns p p.f ((kid ns n).getD [])) := rnN_at hp
  have HKM : Hid (∀ y ∈ (kid ns n).getD [], ∃ q : Nat, y = q ∧ q < ns.length) := kid_mem ns n
  have HKL : Hid (((kid ns n).getD []).length ≤ ns.length) := kid_len ns n
  have hn1 : (n : Int) < (ns.length : Int) := by omega
  have hb2r : b2 < w.heap.size := hL2.1
  have q0 := X1.one
  have q1 : w3.cell? ⟨w.heap.size + 1, 1, none⟩ = some (.int .i64 p.f) := X2.cell 1
  clear hp hL2 e3 hw3 hs3 X1 X2
  go_enter Tryd.func47, Tryd.ntmps47
  go_upto_region 2 with fail
  rw [HE3.out]
  clear d0 d1 d2 d3
  go_wp2_with (go_at_call 7; refine (Kids_any _ cap ns (n : Int) _ (H.out.below HB3.out) hl (by omega) (by omega)).mono ?_; rintro e w5 ⟨v5, rfl, o5, hb5⟩; have HB5 : Hid (Below w3.heap.size w3 w5) := hb5; obtain ⟨a5, c5, rfl, q5, hq5, hnn5⟩ := own_form o5; have HQ5 : Hid (LiesA w5 a5 ((kid ns n).getD [])) := q5; clear hb5 o5 q5 hq5 hnn5)
  have HW5 : Hid (Below w.heap.size w w5) := HB3.out.trans (HB5.out.mono HB3.out.size)
  generalize hkl : (kid ns n).getD [] = kl at *
  clear q0 q1 hkl
  have hklb : kl.length ≤ ns.length := HKL.out
  go_loopw [6, 21] (fun v i wr => ∃ (k : Nat) (fr : Int), k ≤ kl.length ∧ i = .int .i64 (k : Int) ∧ v = .int .i64 fr ∧ Below w5.heap.size w5 wr ∧ rnF ns p p.f kl = rnF ns p fr (kl.drop k)) (fun _ i _ => kl.length - (intOf i).toNat)
  case atStart => exact ⟨0, p.f, by omega, rfl, rfl, Below.refl _ _, by simp⟩
  case round =>
    obtain ⟨k, fr, hk, rfl, rfl, hbel, heq⟩ := hrel
    have HBR : Hid (Below w5.heap.size w5 wr) := hbel
    have HEQ : Hid (rnF ns p p.f kl = rnF ns p fr (kl.drop k)) := heq
    have HWR : Hid (Below w.heap.size w wr) := HW5.out.trans (hbel.mono HW5.out.size)
    have HR3 : Hid (Below w3.heap.size w3 wr) := HB5.out.trans (hbel.mono HB5.out.size)
    clear hbel heq
    by_cases hkk : k < kl.length
    · obtain ⟨y, hy⟩ : ∃ y, kl[k]? = some y := ⟨_, List.getElem?_eq_getElem hkk⟩
      obtain ⟨m, rfl, hm⟩ := HKM.out y (List.mem_of_getElem? hy)
      obtain ⟨x, hx⟩ : ∃ x, ns[m]? = some x := ⟨_, List.getElem?_eq_getElem hm⟩
      have HDR : Hid (kl.drop k = (m : Int) :: kl.drop (k + 1)) := by
        unfold Hid; rw [List.drop_eq_getElem_cons hkk, (List.getElem?_eq_some_iff.1 hy).2]
      rcases HQ5.out with h0 | ⟨b5, o5, rfl, hL5⟩
      · rw [h0] at hkk; simp at hkk
      have t0 := hL5.int HBR.out hy
      obtain ⟨d0, d1, d2, d3⟩ := HL.out.nd HWR.out hx
      have HX : Hid (ns[m]? = some x) := hx
      have hk1 : (k : Int) < (kl.length : Int) := by omega
      have hm1 : (m : Int) < (ns.length : Int) := by omega
      have hb2s : b2 < wr.heap.size := by have := HL.out.1; have := HWR.out.size; omega
      have hb5s : b5 < wr.heap.size := by have := hL5.1; have := HBR.out.size; omega
      have q0 : wr.cell? ⟨w.heap.size, 0, none⟩ = some (.slice (some ⟨b2, o2, none⟩) ns.length cap) := (HX1.out.below HR3.out (by have := HS3.out; omega)).one
      obtain ⟨w6, e6, hb6, hs6, B6⟩ := bx1 wr #[.int .u8 x.k, .int .i64 x.f, .int .i64 x.e, .int .i64 x.s] 57
      have HE6 : Hid (wr.alloc (.cells #[.int .u8 x.k, .int .i64 x.f, .int .i64 x.e, .int .i64 x.s] 57) = w6) := e6
      have HW6 : Hid (Below w5.heap.size w5 w6) := HBR.out.trans (hb6.mono HBR.out.size)
      have HV6 : Hid (Below w.heap.size w w6) := HWR.out.trans (hb6.mono HWR.out.size)
      have z1 : w6.cell? ⟨wr.heap.size, 1, none⟩ = some (.int .i64 x.f) := B6.cell 1
      have z2 : w6.cell? ⟨wr.heap.size, 2, none⟩ = some (.int .i64 x.e) := B6.cell 2
      have B3 := HX2.out.below (HR3.out.trans (hb6.mono HR3.out.size)) (by have := HS3.out; omega)
      have z3 : w6.cell? ⟨w.heap.size + 1, 1, none⟩ = some (.int .i64 p.f) := B3.cell 1
      have z4 : w6.cell? ⟨w.heap.size + 1, 2, none⟩ = some (.int .i64 p.e) := B3.cell 2
      clear hx hL5 e6 hb6 hs6 B6 B3 hy
      by_cases g1 : x.f = x.e
      · have g1' : (x.f == x.e) = true := by simp [g1]
        by_cases g2 : x.f < p.f
        · have HA : Hid (rnF ns p fr (kl.drop k) = false) := by unfold Hid; rw [HDR.out]; exact rnF_empty_bad HX.out g1 g2
          clear g1
          go_upto_region 7 with fail
          rw [HE6.out]
          clear d0 d1 d2 d3 q0 t0
          go_wp2
          go_ret
          exact ⟨retV (by rw [HR.out, HEQ.out, HA.out]), HV6.out⟩
        · have HA : Hid (rnF ns p fr (kl.drop k) = rnF ns p fr (kl.drop (k + 1))) := by unfold Hid; rw [HDR.out]; exact rnF_empty HX.out g1 g2
          clear g1
          go_upto_region 7 with fail
          rw [HE6.out]
          clear d0 d1 d2 d3 q0 t0
          go_wp2
          go_roundw
          case rel => exact ⟨k + 1, fr, by omega, by simp, rfl, HW6.out, by rw [HEQ.out, HA.out]⟩
          case measure => simp [intOf]; omega
      · have g1' : (x.f == x.e) = false := beq_eq_false_iff_ne.2 g1
        by_cases g2 : x.f < fr
        · have HA : Hid (rnF ns p fr (kl.drop k) = false) := by unfold Hid; rw [HDR.out]; exact rnF_bad HX.out g1 (.inl g2)
          clear g1
          go_upto_region 7 with fail
          rw [HE6.out]
          clear d0 d1 d2 d3 q0 t0
          go_wp2
          go_ret
          exact ⟨retV (by rw [HR.out, HEQ.out, HA.out]), HV6.out⟩
        · by_cases g3 : p.e < x.e
          · have HA : Hid (rnF ns p fr (kl.drop k) = false) := by unfold Hid; rw [HDR.out]; exact rnF_bad HX.out g1 (.inr g3)
            clear g1
            go_upto_region 7 with fail
            rw [HE6.out]
            clear d0 d1 d2 d3 q0 t0
            go_wp2
            go_ret
            exact ⟨retV (by rw [HR.out, HEQ.out, HA.out]), HV6.out⟩
          · have HA : Hid (rnF ns p fr (kl.drop k) = rnF ns p x.e (kl.drop (k + 1))) := by unfold Hid; rw [HDR.out]; exact rnF_next HX.out g1 (by omega)
            clear g1
            go_upto_region 7 with fail
            rw [HE6.out]
            clear d0 d1 d2 d3 q0 t0
            go_wp2
            go_roundw
            case rel => exact ⟨k + 1, x.e, by omega, by simp, rfl, HW6.out, by rw [HEQ.out, HA.out]⟩
            case measure => simp [intOf]; omega
    · have hke : k = kl.length := by omega
      have HA : Hid (rnF ns p fr (kl.drop k) = true) := by unfold Hid; rw [hke, List.drop_length]; rfl
      go_wp2
      go_ret
      exact ⟨retV (by rw [HR.out, HEQ.out, HA.out]), HWR.out⟩

/-- is a node's run one, and do its kids' runs lie in it? -/
def vlN (ns : List Nd) (c : Int) (n : Nat) : Bool := match ns[n]? with | some p => decide (0 ≤ p.f) && decide (p.f ≤ p.e) && decide (p.e ≤ c) && rnN ns n | none => false
theorem vlN_at {ns : List Nd} {c : Int} {n : Nat} {p : Nd} (hx : ns[n]? = some p) : vlN ns c n = (decide (0 ≤ p.f) && decide (p.f ≤ p.e) && decide (p.e ≤ c) && rnN ns n) := by unfold vlN; rw [hx]

set_option maxRecDepth 1000000 in
set_option maxHeartbeats 1000000 in
theorem valid1_any (a : Option Addr) (cap : Nat) (ns : List Nd) (c : Int) (n : Nat) (x : Nd) (bt bc : Nat) (w : World) (hx : ns[n]? = some x) (h : LiesA w a ns) (hl : ns.length * 32 ≤ 140737488351232)
    (y1 : w.cell? ⟨bt, 0, none⟩ = some (.slice a ns.length cap)) (y2 : w.cell? ⟨bc, 0, none⟩ = some (.int .i64 c)) (t1 : bt < w.heap.size) (t2 : bc < w.heap.size) :
    Calls Tryd.prog 46 #[.int .i64 (n : Int), .pointer (some ⟨bt, 0, none⟩), .pointer (some ⟨bc, 0, none⟩)] w fun e w' => e = .returned (.bool (!vlN ns c n)) ∧ Below w.heap.size w w' := by
  have hn : n < ns.length := (List.getElem?_eq_some_iff.1 hx).1
  have H : Hid (LiesA w a ns) := h
  rcases h with h0 | ⟨b2, o2, rfl, hL2⟩
  · rw [h0] at hn; simp at hn
  obtain ⟨d0, d1, d2, d3⟩ := hL2.nd (Below.refl _ w) hx
  have hm1 : (n : Int) < (ns.length : Int) := by omega
  have hb2r : b2 < w.heap.size := hL2.1
  obtain ⟨w6, e6, hb6, hs6, B6⟩ := bx1 w #[.int .u8 x.k, .int .i64 x.f, .int .i64 x.e, .int .i64 x.s] 57
  have HE6 : Hid (w.alloc (.cells #[.int .u8 x.k, .int .i64 x.f, .int .i64 x.e, .int .i64 x.s] 57) = w6) := e6
  have HV6 : Hid (Below w.heap.size w w6) := hb6
  have q1 : w6.cell? ⟨w.heap.size, 1, none⟩ = some (.int .i64 x.f) := B6.cell 1
  have q2 : w6.cell? ⟨w.heap.size, 2, none⟩ = some (.int .i64 x.e) := B6.cell 2
  have r1 : w6.cell? ⟨bt, 0, none⟩ = some (.slice (some ⟨b2, o2, none⟩) ns.length cap) := (hb6.cell (p := ⟨bt, 0, none⟩) t1).trans y1
  have r2 : w6.cell? ⟨bc, 0, none⟩ = some (.int .i64 c) := (hb6.cell (p := ⟨bc, 0, none⟩) t2).trans y2
  have HX : Hid (ns[n]? = some x) := hx
  have HVL : Hid (vlN ns c n = (decide (0 ≤ x.f) && decide (x.f ≤ x.e) && decide (x.e ≤ c) && rnN ns n)) := vlN_at hx
  clear hx hL2 e6 hb6 hs6 B6 y2
  by_cases g1 : 0 ≤ x.f
  · by_cases g2 : x.f ≤ x.e
    · by_cases g3 : x.e ≤ c
      · have HG : Hid (0 ≤ x.f ∧ x.f ≤ x.e ∧ x.e ≤ c) := ⟨g1, g2, g3⟩
        have HA : Hid (vlN ns c n = rnN ns n) := by unfold Hid; rw [HVL.out, decide_eq_true g1, decide_eq_true g2, decide_eq_true g3]; rfl
        go_enter Tryd.func46, Tryd.ntmps46
        go_upto_region 2 with fail
        rw [HE6.out]
        clear d0 d1 d2 d3 y1
        go_wp2_with (go_at_call 47; refine (runsFit_any _ cap ns n x _ HX.out (H.out.below HV6.out) hl).mono ?_; rintro e w7 ⟨rfl, hb7⟩; generalize hrn : rnN ns n = rb; have HRN : Hid (rnN ns n = rb) := hrn; have HB7 : Hid (Below w6.heap.size w6 w7) := hb7; clear hrn hb7)
        go_ret
        exact ⟨retV (by have hg := HG.out; rw [HA.out, HRN.out, decide_eq_false (p := x.f < 0) (by omega), decide_eq_false (p := x.e < x.f) (by omega), decide_eq_false (p := c < x.e) (by omega)]; simp), HV6.out.trans (HB7.out.mono HV6.out.size)⟩
      · have HA : Hid (vlN ns c n = false) := by unfold Hid; rw [HVL.out, decide_eq_false g3]; simp
        go_enter Tryd.func46, Tryd.ntmps46
        go_upto_region 2 with fail
        rw [HE6.out]
        clear d0 d1 d2 d3 y1
        go_wp2
        go_ret
        exact ⟨retV (by rw [HA.out]; rfl), HV6.out⟩
    · have HA : Hid (vlN ns c n = false) := by unfold Hid; rw [HVL.out, decide_eq_false g2]; simp
      go_enter Tryd.func46, Tryd.ntmps46
      go_upto_region 2 with fail
      rw [HE6.out]
      clear d0 d1 d2 d3 y1
      go_wp2
      go_ret
      exact ⟨retV (by rw [HA.out]; rfl), HV6.out⟩
  · have HA : Hid (vlN ns c n = false) := by unfold Hid; rw [HVL.out, decide_eq_false g1]; simp
    go_enter Tryd.func46, Tryd.ntmps46
    go_upto_region 2 with fail
    rw [HE6.out]
    clear d0 d1 d2 d3 y1
    go_wp2
    go_ret
    exact ⟨retV (by rw [HA.out]; rfl), HV6.out⟩
end Go.Proofs.YtaploloedocgbaaDoor
