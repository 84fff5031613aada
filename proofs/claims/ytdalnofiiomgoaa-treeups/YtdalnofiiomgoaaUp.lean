import Derived.Test.YtdalnofiiomgoaaKd2
namespace Go.Proofs.Ytdalnofiiomgoaa
open Go.ChangeShapes Go.WideShapes Go.ChangeAt Go.RowKit
set_option linter.unusedVariables false

/-- the kids of a node, or none -/
def kdl (ns : List Nd) (n : Int) : List Int := (kid ns n).getD []
/-- is n a kid of the node p, and does its run reach it? -/
def upB (ns : List Nd) (n p : Nat) (x : Nd) : Bool := decide ((n : Int) - (p : Int) < x.s) && (kdl ns p).contains (n : Int)
/-- the last of the first p nodes whose kid n is -/
def upF (ns : List Nd) (n : Nat) : Nat → Int
  | 0 => -1
  | p + 1 => match ns[p]? with | some x => if upB ns n p x then (p : Int) else upF ns n p | none => upF ns n p
theorem upF_yes {ns : List Nd} {n p : Nat} {x : Nd} (hx : ns[p]? = some x) (h : upB ns n p x = true) : upF ns n (p + 1) = p := by rw [upF, hx]; simp [h]
theorem upF_no {ns : List Nd} {n p : Nat} {x : Nd} (hx : ns[p]? = some x) (h : upB ns n p x = false) : upF ns n (p + 1) = upF ns n p := by rw [upF, hx]; simp [h]
theorem kdl_has {l : List Int} {t : Nat} {v : Int} (h : l[t]? = some v) : l.contains v = true := List.contains_iff_mem.2 (List.mem_of_getElem? h)
theorem kdl_hasnt {l : List Int} {v : Int} (h : ∀ t : Nat, t < l.length → l[t]? ≠ some v) : l.contains v = false := by
  rw [Bool.eq_false_iff]
  intro h'
  obtain ⟨t, ht⟩ := List.getElem?_of_mem (List.contains_iff_mem.1 h')
  exact h t (List.getElem?_eq_some_iff.1 ht).1 ht
theorem own_max {w : World} {base e size n : Nat} {v : Value} {xs : List Value} (h : w.ownsRow base e size v n xs) : n ≤ maxLen := by
  rcases h.2 with ⟨_, h0⟩ | ⟨g, cap, cur, _, _, _, h1, h2, _⟩
  · rw [h0]; exact Nat.zero_le _
  · omega
/-- whose kid n is -/
def upN (ns : List Nd) (n : Int) : Int := if 0 ≤ n ∧ n < (ns.length : Int) then upF ns n.toNat n.toNat else -1

set_option maxRecDepth 1000000 in
set_option maxHeartbeats 1000000 in
theorem rUp_any (a : Option Addr) (cap : Nat) (ns : List Nd) (n : Int) (w : World) (h : LiesA w a ns) (hl : ns.length * 32 ≤ 140737488351232) (hn0 : -9223372036854775808 ≤ n) (hn1 : n ≤ 9223372036854775807) :
    Calls Try.prog 18 #[.agg #[.slice a ns.length cap], .int .i64 n] w fun e w' => e = .returned (.int .i64 (upN ns n)) ∧ Below w.heap.size w w' := by
  have H2 : Hid (LiesA w a ns) := h
  obtain ⟨w2, e2, hw, hs2, B0⟩ := bx1 w #[.slice a ns.length cap] 25
  have HB0 : Hid (Below w.heap.size w w2) := hw
  have HX0 : Hid (Bx w2 w.heap.size #[.slice a ns.length cap] 25) := B0
  have HS2 : Hid (w2.heap.size = w.heap.size + 1) := hs2
  have HE2 : Hid (w.alloc (.cells #[.slice a ns.length cap] 25) = w2) := e2
  have x0 := B0.one
  clear h hw hs2 B0 e2
  by_cases g0 : 0 ≤ n ∧ n < (ns.length : Int)
  · obtain ⟨m, rfl⟩ : ∃ m : Nat, n = m := ⟨n.toNat, by omega⟩
    have HU : Hid (upN ns m = upF ns m m) := by unfold Hid upN; rw [if_pos g0, Int.toNat_natCast]
    have g1 : (m : Int) < (ns.length : Int) := g0.2
    have g2 : ¬ (m : Int) < 0 := by omega
    clear g0
    go_enter Try.func18, Try.ntmps18
    go_upto_region 1 with fail
    rw [HE2.out]
    go_wp2
    have HLO : Hid (Below w2.heap.size w2 w2) := Below.refl _ _
    clear x0 g2
    go_loopw [5] (fun i wr => ∃ k : Nat, k ≤ m ∧ i = .int .i64 ((k : Int) - 1) ∧ Below w2.heap.size w2 wr ∧ upF ns m m = upF ns m k) (fun i _ => (intOf i + 1).toNat)
    case atStart => exact ⟨m, Nat.le_refl _, rfl, HLO.out, rfl⟩
    case round =>
      obtain ⟨wo, rfl⟩ : ∃ wo, wo = wr := ⟨_, rfl⟩
      obtain ⟨k, hk, rfl, hbel, heq⟩ := hrel
      have HBR : Hid (Below w2.heap.size w2 wo) := hbel
      have HEQ : Hid (upN ns m = upF ns m k) := HU.out.trans heq
      have HEQ' : Hid (upF ns m m = upF ns m k) := heq
      have HWR : Hid (Below w.heap.size w wo) := HB0.out.trans (hbel.mono HB0.out.size)
      have HTR : Hid (Bx wo w.heap.size #[.slice a ns.length cap] 25) := HX0.out.below hbel (by have := HS2.out; omega)
      have z0 := HTR.out.one
      clear hbel heq
      rcases k with _ | p
      · go_wp2
        go_ret
        exact ⟨ret_i64 (by rw [HEQ.out]; rfl), HWR.out⟩
      · have hi : ((p + 1 : Nat) : Int) - 1 = (p : Int) := by omega
        rw [hi]
        clear hi
        obtain ⟨x, hx⟩ : ∃ e, ns[p]? = some e := ⟨_, List.getElem?_eq_getElem (by omega)⟩
        rcases H2.out with h0 | ⟨b2, o2, rfl, hL2⟩
        · rw [h0] at g1; simp at g1; omega
        obtain ⟨d0, d1, d2, d3⟩ := hL2.nd HWR.out hx
        have HX : Hid (ns[p]? = some x) := hx
        have hp0 : (0 : Int) ≤ (p : Int) := by omega
        have hp1 : (p : Int) < (ns.length : Int) := by omega
        clear hx hL2 d0 d1 d2
        by_cases g3 : x.s ≤ (m : Int) - (p : Int)
        · have HNO : Hid (upF ns m (p + 1) = upF ns m p) := upF_no HX.out (by unfold upB; rw [decide_eq_false (by omega)]; rfl)
          go_wp2
          go_roundw
          case rel => exact ⟨p, by omega, by go_num, HBR.out, by rw [HEQ'.out, HNO.out]⟩
          case measure => simp [intOf]
        · have hpn0 : -9223372036854775808 ≤ (p : Int) := by omega
          have hpn1 : (p : Int) ≤ 9223372036854775807 := by omega
          go_upto_region 9 with (first
            | (go_at_call 35; refine (rkids_any _ cap ns p _ (H2.out.below HWR.out) hl hpn0 hpn1).mono ?_; rintro e w6 ⟨v6, rfl, o6, hb6⟩; have HB6 : Hid (Below wo.heap.size wo w6) := hb6; have O6 : Hid (w6.ownsRow wo.heap.size 3 1 v6 (kdl ns p).length (flat (kdl ns p))) := o6; clear hb6 o6)
            | fail)
          have hmx := own_max O6.out
          unfold maxLen at hmx
          obtain ⟨a6, c6, rfl, q6, _, _⟩ := own_form O6.out
          have Q6 : Hid (LiesA w6 a6 (kdl ns p)) := q6
          have HV6 : Hid (Below w.heap.size w w6) := HWR.out.trans (HB6.out.mono HWR.out.size)
          have HR6 : Hid (Below w2.heap.size w2 w6) := HBR.out.trans (HB6.out.mono HBR.out.size)
          have HLO6 : Hid (Below w6.heap.size w6 w6) := Below.refl _ _
          obtain ⟨N, hN⟩ : ∃ N, (kdl ns p).length = N := ⟨_, rfl⟩
          have HN : Hid ((kdl ns p).length = N) := hN
          rw [hN] at hmx ⊢
          clear q6 O6 hN z0 d3
          go_loopw [8] (fun i wr => ∃ j : Nat, j ≤ N ∧ i = .int .i64 j ∧ Below w6.heap.size w6 wr ∧ ∀ t : Nat, t < j → (kdl ns p)[t]? ≠ some (m : Int)) (fun i _ => N - (intOf i).toNat)
          case atStart => exact ⟨0, Nat.zero_le _, rfl, HLO6.out, fun t h => absurd h (Nat.not_lt_zero _)⟩
          case round =>
            obtain ⟨j, hj, rfl, hbel, hall⟩ := hrel
            have HBI : Hid (Below w6.heap.size w6 wr) := hbel
            have HAI : Hid (∀ t : Nat, t < j → (kdl ns p)[t]? ≠ some (m : Int)) := hall
            have HVI : Hid (Below w.heap.size w wr) := HV6.out.trans (hbel.mono HV6.out.size)
            have HRI : Hid (Below w2.heap.size w2 wr) := HR6.out.trans (hbel.mono HR6.out.size)
            clear hbel hall
            by_cases hjN : j < N
            · obtain ⟨v, hv⟩ : ∃ e, (kdl ns p)[j]? = some e := ⟨_, List.getElem?_eq_getElem (by have := HN.out; omega)⟩
              rcases Q6.out with h0 | ⟨b6, o6, rfl, hL6⟩
              · rw [h0] at hv; simp at hv
              have r0 := hL6.int HBI.out hv
              have hj' : (j : Int) < (N : Int) := by omega
              have HV : Hid ((kdl ns p)[j]? = some v) := hv
              clear hv hL6
              by_cases g4 : v = (m : Int)
              · subst g4
                have HYES : Hid (upF ns m (p + 1) = (p : Int)) := upF_yes HX.out (by unfold upB; rw [decide_eq_true (by omega), kdl_has HV.out]; rfl)
                go_wp2
                go_ret
                exact ⟨ret_i64 (by rw [HEQ.out, HYES.out]), HVI.out⟩
              · have g4' : (v == (m : Int)) = false := by simp [g4]
                go_wp2
                go_roundw
                case rel =>
                  refine ⟨j + 1, by omega, by go_num, HBI.out, fun t ht => ?_⟩
                  by_cases htj : t < j
                  · exact HAI.out t htj
                  · obtain rfl : t = j := by omega
                    rw [HV.out]
                    intro h'
                    injection h' with h'
                    exact g4 h'
                case measure => simp [intOf]; omega
            · have HNO : Hid (upF ns m (p + 1) = upF ns m p) := upF_no HX.out (by unfold upB; rw [kdl_hasnt (fun t ht => HAI.out t (by have := HN.out; omega))]; simp)
              go_wp2
              go_roundw
              case rel => exact ⟨p, by omega, by go_num, HRI.out, by rw [HEQ'.out, HNO.out]⟩
              case measure => simp [intOf]
  · have HU : Hid (upN ns n = -1) := by unfold Hid upN; rw [if_neg g0]
    go_enter Try.func18, Try.ntmps18
    go_upto_region 1 with fail
    rw [HE2.out]
    by_cases g1 : n < 0
    · go_wp2
      go_ret
      exact ⟨ret_i64 HU.out.symm, HB0.out⟩
    · have g2 : ¬ n < (ns.length : Int) := by omega
      go_wp2
      go_ret
      exact ⟨ret_i64 HU.out.symm, HB0.out⟩
end Go.Proofs.Ytdalnofiiomgoaa
