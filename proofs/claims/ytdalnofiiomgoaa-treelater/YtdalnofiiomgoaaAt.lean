import Derived.Test.YtdalnofiiomgoaaRec
import Derived.Test.YtdalnofiiomgoaaCls
import Derived.Test.YtdalnofiiomgoaaKept
import Derived.Deep.RegionHeld3
import Derived.Deep.AppendLies
import Derived.Deep.DrawnRows
import Derived.Deep.DeepCutAuto
namespace Go.Proofs.Ytdalnofiiomgoaa
open Go.ChangeShapes Go.WideShapes Go.ChangeAt Go.RowKit
set_option linter.unusedVariables false

/-- does a node's run hold an offset? -/
def atB (ts : List Tk) (off : Int) (x : Nd) : Bool :=
  if 0 ≤ x.f ∧ x.f < x.e ∧ x.e ≤ (ts.length : Int) then (match ts[x.f.toNat]?, ts[(x.e - 1).toNat]? with | some p, some q => decide (p.f ≤ off) && decide (off < q.t) | _, _ => false) else false
/-- the last of the first n nodes that does -/
def atF (ts : List Tk) (ns : List Nd) (off : Int) : Nat → Int
  | 0 => -1
  | n + 1 => match ns[n]? with | some x => if atB ts off x then (n : Int) else atF ts ns off n | none => atF ts ns off n
theorem atF_yes {ts : List Tk} {ns : List Nd} {off : Int} {n : Nat} {x : Nd} (hx : ns[n]? = some x) (h : atB ts off x = true) : atF ts ns off (n + 1) = n := by rw [atF, hx]; simp [h]
theorem atF_no {ts : List Tk} {ns : List Nd} {off : Int} {n : Nat} {x : Nd} (hx : ns[n]? = some x) (h : atB ts off x = false) : atF ts ns off (n + 1) = atF ts ns off n := by rw [atF, hx]; simp [h]
theorem atB_out {ts : List Tk} {off : Int} {x : Nd} (h : ¬ (0 ≤ x.f ∧ x.f < x.e ∧ x.e ≤ (ts.length : Int))) : atB ts off x = false := by unfold atB; rw [if_neg h]
theorem atB_in {ts : List Tk} {off : Int} {x : Nd} {m n : Nat} {p q : Tk} (h : x.f = (m : Int)) (h2 : x.e = (n : Int) + 1) (hmn : m ≤ n) (hn : n < ts.length) (hp : ts[m]? = some p) (hq : ts[n]? = some q) : atB ts off x = (decide (p.f ≤ off) && decide (off < q.t)) := by
  unfold atB
  rw [if_pos (by omega), h, h2, Int.toNat_natCast, show ((n : Int) + 1 - 1).toNat = n by omega, hp, hq]

set_option maxRecDepth 1000000 in
set_option maxHeartbeats 1000000 in
theorem rAt_any (a1 a2 : Option Addr) (c1 c2 : Nat) (ts : List Tk) (ns : List Nd) (off : Int) (w : World) (h1 : LiesA w a1 ts) (h2 : LiesA w a2 ns) (hl1 : ts.length * 24 ≤ 140737488351232) (hl2 : ns.length * 32 ≤ 140737488351232) (hf2 : ∀ e ∈ ns, NdFit e) :
    Calls Try.prog 15 #[.slice a1 ts.length c1, .agg #[.slice a2 ns.length c2], .int .i64 off] w fun e w' => e = .returned (.int .i64 (atF ts ns off ns.length)) ∧ Below w.heap.size w w' := by
  have H1 : Hid (LiesA w a1 ts) := h1
  have H2 : Hid (LiesA w a2 ns) := h2
  have HF2 : Hid (∀ e ∈ ns, NdFit e) := hf2
  obtain ⟨w2, e2, hw, hs2, B0⟩ := bx1 w #[.slice a2 ns.length c2] 25
  have HB0 : Hid (Below w.heap.size w w2) := hw
  have HX0 : Hid (Bx w2 w.heap.size #[.slice a2 ns.length c2] 25) := B0
  have HS2 : Hid (w2.heap.size = w.heap.size + 1) := hs2
  have HE2 : Hid (w.alloc (.cells #[.slice a2 ns.length c2] 25) = w2) := e2
  have x0 := B0.one
  clear h1 h2 hf2 hw hs2 B0 e2
  go_enter Try.func15, Try.ntmps15
  go_upto_region 1 with fail
  rw [HE2.out]
  go_wp2
  have HLO : Hid (Below w2.heap.size w2 w2) := Below.refl _ _
  clear x0
  go_loopw [7] (fun i wr => ∃ k : Nat, k ≤ ns.length ∧ i = .int .i64 ((k : Int) - 1) ∧ Below w2.heap.size w2 wr ∧ atF ts ns off ns.length = atF ts ns off k) (fun i _ => (intOf i + 1).toNat)
  case atStart => exact ⟨ns.length, Nat.le_refl _, rfl, HLO.out, rfl⟩
  case round =>
    obtain ⟨k, hk, rfl, hbel, heq⟩ := hrel
    have HBR : Hid (Below w2.heap.size w2 wr) := hbel
    have HEQ : Hid (atF ts ns off ns.length = atF ts ns off k) := heq
    have HWR : Hid (Below w.heap.size w wr) := HB0.out.trans (hbel.mono HB0.out.size)
    have HTR : Hid (Bx wr w.heap.size #[.slice a2 ns.length c2] 25) := HX0.out.below hbel (by have := HS2.out; omega)
    have z0 := HTR.out.one
    clear hbel heq
    rcases k with _ | m
    · go_wp2
      go_ret
      exact ⟨ret_i64 (by rw [HEQ.out]; rfl), HWR.out⟩
    · have hi : ((m + 1 : Nat) : Int) - 1 = (m : Int) := by omega
      rw [hi]
      clear hi
      obtain ⟨x, hx⟩ : ∃ e, ns[m]? = some e := ⟨_, List.getElem?_eq_getElem (by omega)⟩
      rcases H2.out with h0 | ⟨b2, o2, rfl, hL2⟩
      · rw [h0] at hk; simp at hk
      obtain ⟨d0, d1, d2, d3⟩ := hL2.nd HWR.out hx
      have HX : Hid (ns[m]? = some x) := hx
      have hm0 : (0 : Int) ≤ (m : Int) := by omega
      have hm1 : (m : Int) < (ns.length : Int) := by omega
      have hb2r : b2 < wr.heap.size := by have := hL2.1; have := HWR.out.size; omega
      obtain ⟨w6, e6, hb6, hs6, B6⟩ := bx1 wr #[.int .u8 x.k, .int .i64 x.f, .int .i64 x.e, .int .i64 x.s] 40
      have HE6 : Hid (wr.alloc (.cells #[.int .u8 x.k, .int .i64 x.f, .int .i64 x.e, .int .i64 x.s] 40) = w6) := e6
      have HW6 : Hid (Below w2.heap.size w2 w6) := HBR.out.trans (hb6.mono HBR.out.size)
      have HV6 : Hid (Below w.heap.size w w6) := HWR.out.trans (hb6.mono HWR.out.size)
      have q1 : w6.cell? ⟨wr.heap.size, 1, none⟩ = some (.int .i64 x.f) := B6.cell 1
      have q2 : w6.cell? ⟨wr.heap.size, 2, none⟩ = some (.int .i64 x.e) := B6.cell 2
      clear hx hL2 e6 hb6 hs6 B6
      by_cases g1 : 0 ≤ x.f
      · by_cases g2 : x.f < x.e
        · by_cases g3 : x.e ≤ (ts.length : Int)
          · obtain ⟨a, ha⟩ : ∃ a : Nat, x.f = a := ⟨x.f.toNat, by omega⟩
            obtain ⟨b, hb⟩ : ∃ b : Nat, x.e = (b : Int) + 1 := ⟨(x.e - 1).toNat, by omega⟩
            obtain ⟨p, hp⟩ : ∃ e, ts[a]? = some e := ⟨_, List.getElem?_eq_getElem (by omega)⟩
            obtain ⟨q, hq⟩ : ∃ e, ts[b]? = some e := ⟨_, List.getElem?_eq_getElem (by omega)⟩
            have HAT : Hid (atB ts off x = (decide (p.f ≤ off) && decide (off < q.t))) := atB_in ha hb (by omega) (by omega) hp hq
            rcases H1.out with h0 | ⟨b1, o1, rfl, hL1⟩
            · rw [h0] at hp; simp at hp
            obtain ⟨_, t1, _⟩ := hL1.tk HV6.out hp
            obtain ⟨_, _, t2⟩ := hL1.tk HV6.out hq
            rw [ha] at q1
            rw [hb] at q2
            have k1 : (a : Int) < (b : Int) + 1 := by omega
            have k2 : (b : Int) + 1 ≤ (ts.length : Int) := by omega
            have k3 : (a : Int) < (ts.length : Int) := by omega
            have k4 : (b : Int) < (ts.length : Int) := by omega
            have HXF : Hid (x.f = (a : Int)) := ha
            clear hp hq hL1 ha hb g1 g2 g3
            by_cases g4 : p.f ≤ off
            · by_cases g5 : off < q.t
              · have HYES : Hid (atF ts ns off (m + 1) = (m : Int)) := atF_yes HX.out (by rw [HAT.out]; simp [g4, g5])
                go_upto_region 5 with fail
                rw [HE6.out]
                clear d0 d1 d2 d3 z0
                go_wp2
                go_ret
                exact ⟨ret_i64 (by rw [HEQ.out, HYES.out]), HV6.out⟩
              · have HNO : Hid (atF ts ns off (m + 1) = atF ts ns off m) := atF_no HX.out (by rw [HAT.out]; simp [g5])
                go_upto_region 5 with fail
                rw [HE6.out]
                clear d0 d1 d2 d3 z0
                go_wp2
                go_roundw
                case rel => exact ⟨m, by omega, by go_num, HW6.out, by rw [HEQ.out, HNO.out]⟩
                case measure => simp [intOf]
            · have HNO : Hid (atF ts ns off (m + 1) = atF ts ns off m) := atF_no HX.out (by rw [HAT.out]; simp [g4])
              go_upto_region 5 with fail
              rw [HE6.out]
              clear d0 d1 d2 d3 z0
              go_wp2
              go_roundw
              case rel => exact ⟨m, by omega, by go_num, HW6.out, by rw [HEQ.out, HNO.out]⟩
              case measure => simp [intOf]
          · have HNO : Hid (atF ts ns off (m + 1) = atF ts ns off m) := atF_no HX.out (atB_out (by omega))
            go_upto_region 5 with fail
            rw [HE6.out]
            clear d0 d1 d2 d3 z0
            go_wp2
            go_roundw
            case rel => exact ⟨m, by omega, by go_num, HW6.out, by rw [HEQ.out, HNO.out]⟩
            case measure => simp [intOf]
        · have HNO : Hid (atF ts ns off (m + 1) = atF ts ns off m) := atF_no HX.out (atB_out (by omega))
          go_upto_region 5 with fail
          rw [HE6.out]
          clear d0 d1 d2 d3 z0
          go_wp2
          go_roundw
          case rel => exact ⟨m, by omega, by go_num, HW6.out, by rw [HEQ.out, HNO.out]⟩
          case measure => simp [intOf]
      · have HNO : Hid (atF ts ns off (m + 1) = atF ts ns off m) := atF_no HX.out (atB_out (by omega))
        go_upto_region 5 with fail
        rw [HE6.out]
        clear d0 d1 d2 d3 z0
        go_wp2
        go_roundw
        case rel => exact ⟨m, by omega, by go_num, HW6.out, by rw [HEQ.out, HNO.out]⟩
        case measure => simp [intOf]
end Go.Proofs.Ytdalnofiiomgoaa
