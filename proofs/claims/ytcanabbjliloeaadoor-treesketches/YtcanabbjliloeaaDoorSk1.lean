import Derived.Test.YtcanabbjliloeaaDoorSk
import Derived.Test.YtcanabbjliloeaaDoorBk3
import Derived.Test.YtcanabbjliloeaaDoorRv
namespace Go.Proofs.YtcanabbjliloeaaDoor
open Go.ChangeShapes Go.WideShapes Go.ChangeAt Go.RowKit
set_option linter.unusedVariables false

set_option maxRecDepth 1000000 in
set_option maxHeartbeats 2000000 in
theorem closeTo_any (B b base : Nat) (bs : List Value) (st : List Nat) (n : Nat) (a : Option Addr) (cap : Nat) (w : World) (hI : Lib.IsBuilder 42 5 B b bs w) (hO : w.ownsRow base 3 1 (.slice a st.length cap) st.length (flat (rv st))) (hlen : bs.length + st.length ≤ 105553116266496) (hn : n ≤ 105553116266496) (hbase : b < base) (hBw : B ≤ w.heap.size) :
    Calls Tryd.prog 9 #[.pointer (some ⟨b, 0, none⟩), .slice a st.length cap, .int .i64 (n : Int)] w fun e w' => e = .returned (.slice a (pops n st).2.length cap) ∧ Lib.IsBuilder 42 5 B b (bs ++ List.replicate (pops n st).1 (.int .u8 41)) w' ∧ w'.ownsRow base 3 1 (.slice a (pops n st).2.length cap) (pops n st).2.length (flat (rv (pops n st).2)) ∧ Below B w w' ∧ Lib.OthersKept 5 (some b) w w' := by
  obtain ⟨C, R, hCR⟩ : ∃ C R, pops n st = (C, R) := ⟨_, _, rfl⟩
  rw [hCR]
  have HP : Hid (pops n st = (C, R)) := hCR
  have HI : Hid (Lib.IsBuilder 42 5 B b bs w) := hI
  have HO : Hid (w.ownsRow base 3 1 (.slice a st.length cap) st.length (flat (rv st))) := hO
  clear hI hO hCR
  go_enter Tryd.func9, Tryd.ntmps9
  go_wp2
  go_loopg [1] st.length (fun gk so wr => ∃ (st' : List Nat) (c : Nat), gk = st'.length ∧ so = .slice a st'.length cap ∧ ((pops n st').1 + c, (pops n st').2) = (C, R) ∧ st'.length + c = st.length ∧ Lib.IsBuilder 42 5 B b (bs ++ List.replicate c (.int .u8 41)) wr ∧ wr.ownsRow base 3 1 (.slice a st'.length cap) st'.length (flat (rv st')) ∧ Below B w wr ∧ Lib.OthersKept 5 (some b) w wr)
  case atStart => exact ⟨st, 0, rfl, rfl, by rw [HP.out]; rfl, rfl, by rw [List.replicate_zero, List.append_nil]; exact HI.out, HO.out, Below.refl _ _, Lib.OthersKept.refl _ _ _⟩
  case round =>
    obtain ⟨st', c, rfl, rfl, hp, hc, hib, hown, hbel, hk⟩ := hrel
    have HP2 : Hid (((pops n st').1 + c, (pops n st').2) = (C, R)) := hp
    have HI2 : Hid (Lib.IsBuilder 42 5 B b (bs ++ List.replicate c (.int .u8 41)) wr) := hib
    have HB2 : Hid (Below B w wr ∧ Lib.OthersKept 5 (some b) w wr) := ⟨hbel, hk⟩
    have HO2 : Hid (wr.ownsRow base 3 1 (.slice a st'.length cap) st'.length (flat (rv st'))) := hown
    clear hp hib hown hbel hk HP HI HO
    cases st' with
    | nil =>
      have HE : Hid (C = c ∧ R = []) := by
        have := HP2.out
        simp only [pops, Prod.mk.injEq] at this
        exact ⟨by omega, this.2.symm⟩
      clear HP2
      go_wp2
      go_ret
      exact ⟨by rw [HE.out.2]; rfl, by rw [HE.out.1]; exact HI2.out, by rw [HE.out.2]; exact HO2.out, HB2.out.1, HB2.out.2⟩
    | cons t r =>
      rw [List.length_cons, rv_cons, flat_append, flat_int [(t : Int)]] at HO2
      obtain ⟨g, rfl, hcell⟩ := own_at HO2.out
      obtain ⟨k, hk⟩ : ∃ k, r.length = k := ⟨_, rfl⟩
      simp only [List.length_cons, hk] at hc ⊢
      rw [hk] at HO2 hcell
      have hcp := own_cap HO2.out
      have hcp' : (k : Int) ≤ (cap : Int) := by omega
      have hk0 : (0 : Int) < (k : Int) + 1 := by omega
      have m1 : IntKind.i64.wrap ((k : Int)) = (k : Int) := IntWalk.i64_in _ ⟨by omega, by omega⟩
      have hkc : (k : Int) < (k : Int) + 1 := by omega
      by_cases ht : t = n
      · have t1 : ((t : Int) == (n : Int)) = true := by rw [ht]; exact beq_self_eq_true _
        have HP3 : Hid (((pops n r).1 + (c + 1), (pops n r).2) = (C, R)) := by
          have := HP2.out
          rw [ht, pops_yes] at this
          simp only [Prod.mk.injEq] at this
          exact Prod.ext (by show _ = C; omega) this.2
        clear HP2 ht
        go_wp2_with (go_at_call 10; (refine (writeByte_k B b _ 41 _ HI2.out (by rw [List.length_append, List.length_replicate]; omega) (Nat.le_trans hBw HB2.out.1.size)).mono ?_); rintro e w3 ⟨rfl, hba, hbw, hok⟩; have HI3 : Hid (Lib.IsBuilder 42 5 B b (bs ++ List.replicate (c + 1) (.int .u8 41)) w3) := (by unfold Hid; rw [List.replicate_succ', ← List.append_assoc]; exact .inr hba); have HB3 : Hid (Below B w w3 ∧ Lib.OthersKept 5 (some b) w w3) := ⟨HB2.out.1.trans hbw, HB2.out.2.trans hok⟩; have HO3 : Hid (w3.ownsRow base 3 1 (.slice (some ⟨g, 0, none⟩) (k + 1) cap) (k + 1) (flat (rv r) ++ [.int .i64 (t : Int)])) := row_others HO2.out hok hbase (by decide); clear hba hbw hok)
        go_roundg r.length
        case measure => first | omega | (simp only [List.length_cons]; omega) | (rw [hk]; omega)
        case rel => exact ⟨r, c + 1, rfl, by rw [hk], HP3.out, by omega, HI3.out, by rw [hk]; exact own_less HO3.out, HB3.out.1, HB3.out.2⟩
      · have t1 : ((t : Int) == (n : Int)) = false := by rw [beq_eq_false_iff_ne]; omega
        have HE : Hid (C = c ∧ R = t :: r) := by
          have := HP2.out
          rw [pops_no r ht] at this
          simp only [Prod.mk.injEq] at this
          exact ⟨by omega, this.2.symm⟩
        clear HP2 ht
        go_wp2
        go_ret
        refine ⟨by rw [HE.out.2, List.length_cons, hk]; rfl, by rw [HE.out.1]; exact HI2.out, ?_, HB2.out.1, HB2.out.2⟩
        rw [HE.out.2, List.length_cons, hk, rv_cons, flat_append, flat_int [(t : Int)]]
        exact HO2.out
end Go.Proofs.YtcanabbjliloeaaDoor
