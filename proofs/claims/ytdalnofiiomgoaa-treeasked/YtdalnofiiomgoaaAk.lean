import Derived.Test.YtdalnofiiomgoaaWk3
import Derived.Test.YtdalnofiiomgoaaCh
namespace Go.Proofs.Ytdalnofiiomgoaa
open Go.ChangeShapes Go.WideShapes Go.ChangeAt Go.RowKit
set_option linter.unusedVariables false

/-- 'log = append(log, ..)', the log's box below n0, its row not -/
theorem log_app {W w1 : World} {n0 B k m : Nat} {v v' : Value} {xs ys : List Value} {tmp : Obj}
    (hv : Boxed W B 29 v) (hrow : W.ownsRow n0 3 1 v k xs) (hn : n0 ≤ W.heap.size) (hB : B < n0) (hown' : w1.ownsRow n0 3 1 v' m ys) (hgrow : (W.alloc tmp).grownBy w1 v.ownBlock) :
    Boxed w1 B 29 v ∧ Boxed (w1.setCell ⟨B, 0, none⟩ v') B 29 v' ∧ (w1.setCell ⟨B, 0, none⟩ v').ownsRow n0 3 1 v' m ys ∧ KeepsOthers W (w1.setCell ⟨B, 0, none⟩ v') ∧ But B n0 W (w1.setCell ⟨B, 0, none⟩ v') := by
  obtain ⟨h1, h2, -, h4, -⟩ := hv.appended (n₀ := B) (by decide) (own_base hrow (by omega)) (by omega) (Nat.le_refl _) (own_base hown' (by omega)) hgrow
  refine ⟨h1, h2, hown'.kept (grownBy_setCell' w1 B v') (.inr (h1.not_row (by decide) hown').symm), h4, ?_⟩
  have hb : Below n0 W w1 := ((Below.refl n0 W).alloc hn tmp).grown hgrow (by simp; omega) (fun j ej => by
    rcases hrow.2 with ⟨rfl, _⟩ | ⟨g, cap, cur, rfl, hb, _, _⟩
    · simp [Value.ownBlock] at ej
    · obtain rfl : g = j := by simpa [Value.ownBlock] using ej
      exact hb)
  exact ⟨(hb.mono (Nat.zero_le _)).setCell (p := ⟨B, 0, none⟩) (Nat.zero_le _) _, fun i hi hne => (Below.heap_setCell w1 ⟨B, 0, none⟩ v' i hne).trans (hb.block i hi)⟩

set_option maxRecDepth 1000000 in
set_option maxHeartbeats 1000000 in
theorem ask1_any (u : Int) (x bu B n0 : Nat) (l : List Int) (v : Value) (w : World) (hx : x < 4398046511104) (hl : l.length ≤ 8796093022208) (hv : Boxed w B 29 v) (hrow : w.ownsRow n0 3 1 v l.length (flat l)) (hn : n0 ≤ w.heap.size) (hB : B < n0) (hc : w.cell? ⟨bu, 0, none⟩ = some (.int .u64 u)) (hbu : bu < n0) (hne : bu ≠ B) (h0 : 0 ≤ u) (h1 : u < 18446744073709551616) :
    Calls Try.prog 9 #[.int .i64 (x : Int), .pointer (some ⟨B, 0, none⟩), .pointer (some ⟨bu, 0, none⟩)] w fun e w' => e = .returned (.bool (chB u x)) ∧ (∃ v', Boxed w' B 29 v' ∧ w'.ownsRow n0 3 1 v' (l ++ [-1 - (x : Int)]).length (flat (l ++ [-1 - (x : Int)]))) ∧ But B n0 w w' ∧ KeepsOthers w w' := by
  obtain ⟨i0, hi, hz0, hz1, hz2⟩ := info_parts infoInt
  have HV : Hid (Boxed w B 29 v) := hv
  have HR : Hid (w.ownsRow n0 3 1 v l.length (flat l)) := hrow
  have HCU : Hid (w.cell? ⟨bu, 0, none⟩ = some (.int .u64 u)) := hc
  have c0 := hv.cell
  have hw1 : IntKind.i64.wrap (-1 - (x : Int)) = -1 - (x : Int) := IntWalk.i64_in _ ⟨by omega, by omega⟩
  obtain ⟨a9, c9, rfl, -, -, -⟩ := own_form hrow
  clear hv hrow hc
  go_enter Try.func9, Try.ntmps9
  go_wp2_with (at_builtin; (refine wpList_append_own _ rfl _ _ 29 rfl n0 3 i0 (.int .i64 0) 1 8 Try.underlying29 hi hz0 hz1 hz2 rfl (by decide) _ _ _ rfl (HR.out.alloc _) ⟨w.heap.size, 0, none⟩ 1 1 (flat [-1 - (x : Int)]) rfl rfl (cells_new w (flat [-1 - (x : Int)]) 3) (flat_oneCell _) (by unfold maxLen; omega) (by omega) (by simp; omega) ?_; intro v4 w4 hown4 hgrow4 _; obtain ⟨g4, c4, rfl⟩ := ownsRow_succ hown4; obtain ⟨k1, k2, k3, k4, k5⟩ := log_app HV.out HR.out hn hB hown4 hgrow4; have cc := k1.cell; have cf := k1.frozen; have hcu := (k5.cell (p := ⟨bu, 0, none⟩) hbu hne).trans HCU.out; have K2 : Hid (Boxed (w4.setCell ⟨B, 0, none⟩ (.slice (some ⟨g4, 0, none⟩) (l.length + 1) c4)) B 29 (.slice (some ⟨g4, 0, none⟩) (l.length + 1) c4)) := k2; have K3 : Hid ((w4.setCell ⟨B, 0, none⟩ (.slice (some ⟨g4, 0, none⟩) (l.length + 1) c4)).ownsRow n0 3 1 (.slice (some ⟨g4, 0, none⟩) (l.length + 1) c4) (l.length + 1) (flat l ++ flat [-1 - (x : Int)])) := k3; have K4 : Hid (KeepsOthers w (w4.setCell ⟨B, 0, none⟩ (.slice (some ⟨g4, 0, none⟩) (l.length + 1) c4))) := k4; have K5 : Hid (But B n0 w (w4.setCell ⟨B, 0, none⟩ (.slice (some ⟨g4, 0, none⟩) (l.length + 1) c4))) := k5; clear hown4 hgrow4 k1 k2 k3 k4 k5))
  obtain ⟨w5, hw5⟩ : ∃ w5, w4.setCell ⟨B, 0, none⟩ (.slice (some ⟨g4, 0, none⟩) (l.length + 1) c4) = w5 := ⟨_, rfl⟩
  rw [hw5] at K2 K3 K4 K5 ⊢
  obtain ⟨w6, e6, hb6, hs6, B6⟩ := bx1 w5 #[.int .u64 u] 28
  have HB6 : Hid (Below w5.heap.size w5 w6) := hb6
  have HO6 : Hid (KeepsOthers w5 w6) := e6 ▸ KeepsOthers.alloc w5 _
  have cu := B6.one
  refine (chosen_any u w5).mono ?_
  rintro e wz ⟨rfl, hwz⟩
  rw [e6] at hwz
  subst hwz
  clear hw5 e6 hb6 hs6 B6 hcu cc cf
  go_wp2_with (go_at_call 22; refine (chosen1_any u x _ _ cu (by omega) h0 h1).mono ?_; rintro e wy ⟨rfl, rfl⟩)
  go_ret
  have h5s : n0 ≤ w5.heap.size := by have := K5.out.size; omega
  refine ⟨rfl, ⟨_, (HB6.out.block _ K2.out.lt).trans K2.out, ?_⟩, K5.out.trans (But.of_below (HB6.out.mono h5s)), K4.out.trans HO6.out⟩
  rw [flat_append, List.length_append]
  exact ownsRow_below K3.out HB6.out (Nat.le_refl _)
end Go.Proofs.Ytdalnofiiomgoaa
