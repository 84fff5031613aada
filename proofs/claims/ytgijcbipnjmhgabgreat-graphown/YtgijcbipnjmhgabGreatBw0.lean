import Derived.RangeFuncNested
import Derived.RangeFuncBound
import Derived.RangeFuncCalls
import Derived.RangeFuncLeaves
import Derived.RangeFuncBox
import Derived.Shelf.Abstract
import Derived.Shelf.RegionOpen
import Derived.WalkKit
import Derived.OwnWalkIn
import Derived.TacticsInMore
import Derived.LoopNIn
import Derived.LoopIn
import Derived.Test.YtgijcbipnjmhgabGreatWd1
namespace Go.Proofs.YtgijcbipnjmhgabGreat
open Go.ChangeShapes Go.WideShapes Go.ChangeAt Go.RowKit Go.Shelf
set_option linter.unusedVariables false
set_option linter.unusedSimpArgs false
attribute [local go_sem] Oper.semAt_some

/-- the iterator's box and the row that it goes over are as they were -/
structure Kq (Bs b len : Nat) (W W' : World) : Prop where
  box : W'.cell? ⟨Bs, 0, none⟩ = W.cell? ⟨Bs, 0, none⟩
  row : ∀ i, i < len → W'.cell? ⟨b, i, none⟩ = W.cell? ⟨b, i, none⟩
theorem Kq.refl (Bs b len : Nat) (W : World) : Kq Bs b len W W := ⟨rfl, fun _ _ => rfl⟩
theorem Kq.trans {Bs b len : Nat} {A B C : World} (h : Kq Bs b len A B) (k : Kq Bs b len B C) : Kq Bs b len A C := ⟨k.box.trans h.box, fun i hi => (k.row i hi).trans (h.row i hi)⟩
theorem Kq.put {Bs b len n0 : Nat} (hB : Bs < n0) (hb : 0 < len → b < n0) (W : World) (l : Nat) (o o' : Obj) (hl : n0 ≤ l) (_ : W.heap[l]? = some o) (_ : o.isCells = false) (_ : o.isWalk = false) : Kq Bs b len W (W.putObj l o') :=
  ⟨World.cell?_of_block (w := W) (World.putObj_heap_other (by simp; omega)), fun i hi => World.cell?_of_block (w := W) (World.putObj_heap_other (by have := hb (by omega); simp; omega))⟩
/-- a place, and a thing -/
abbrev Pt (n0 : Nat) := Nat × { y : Nat // y < n0 }

set_option maxRecDepth 1000000 in
set_option maxHeartbeats 4000000 in
theorem back1_in {n0 : Nat} (n : Nat) (hn : 1 ≤ n) (l Bs b len cap : Nat) (a : Option Addr) (zs : List (Pt n0)) (hzl : zs.length = len) (hlen : len ≤ 131072) (ha : 0 < len → a = some ⟨b, 0, none⟩) (hf : ∀ (j : Nat) p, zs[j]? = some p → p.1 = len - 1 - j) (J Jx : List (Pt n0) → World → Prop)
    (hY : ∀ pre x W, J pre W → pre.length < len → YieldAt Fence.wide (n - 1) Tryz.prog l #[.int .i64 (x.1 : Int), .int .i64 (x.2.1 : Int)] W fun e W' =>
      (e = .returned (.bool true) ∧ J (pre ++ [x]) W' ∧ Kq Bs b len W W') ∨ (e = .returned (.bool false) ∧ Jx (pre ++ [x]) W'))
    (W : World) (hBs : W.cell? ⟨Bs, 0, none⟩ = some (.slice a len cap)) (hc : ∀ (j : Nat) p, zs[j]? = some p → W.cell? ⟨b, len - 1 - j, none⟩ = some (.int .i64 (p.2.1 : Int))) (h0 : J [] W) :
    CallsIn Fence.wide n Tryz.prog 75 #[.func (.yield l) #[] #[], .pointer (some ⟨Bs, 0, none⟩)] W fun e W' => (∃ v, e = .returned v) ∧
      ((∃ ys, ys = zs ∧ J ys W') ∨ (∃ pre, True ∧ Jx pre W')) := by
  refine callsIn_of_wp Tryz.func75 rfl trivial ?_ rfl
  simp only [Tryz.ntmps75, List.size_toArray, List.length_cons, List.length_nil, Nat.reduceAdd, Nat.reduceSub, Array.replicate_succ, Array.replicate_zero, List.push_toArray, List.append_toArray, List.nil_append, List.cons_append]
  have k0 : IntKind.i64.wrap ((len : Int) - 1) = (len : Int) - 1 := IntWalk.i64_in _ ⟨by omega, by omega⟩
  gi_wp2
  gi_loopw [3] (fun i wr => ∃ k : Nat, k ≤ len ∧ i = .int .i64 ((len : Int) - 1 - (k : Int)) ∧ J (zs.take k) wr ∧ Kq Bs b len W wr)
    (fun i _ => (intOf i + 1).toNat)
  case atStart => exact ⟨0, Nat.zero_le _, by simp, by rw [List.take_zero]; exact h0, Kq.refl _ _ _ _⟩
  case round =>
    obtain ⟨k, hk, rfl, hJs, hnx⟩ := hrel
    by_cases hlt : k < len
    · obtain rfl := ha (by omega)
      obtain ⟨p, hp⟩ : ∃ p, zs[k]? = some p := ⟨_, List.getElem?_eq_getElem (by omega)⟩
      obtain ⟨fn, tmps, assign, body, hy, hR⟩ := hY _ p wr hJs (by rw [List.length_take]; omega)
      have hBs' : wr.cell? ⟨Bs, 0, none⟩ = some (.slice (some ⟨b, 0, none⟩) len cap) := hnx.box.trans hBs
      obtain ⟨j, hj⟩ : ∃ j : Nat, len - 1 - k = j := ⟨_, rfl⟩
      have hcx := (hnx.row (len - 1 - k) (by omega)).trans (hc k p hp)
      rw [hj] at hcx
      have hji : (len : Int) - 1 - (k : Int) = (j : Int) := by omega
      have hfj := hf k p hp
      rw [hj] at hfj
      rw [hfj] at hy
      rw [hji]
      have h1 : (0 : Int) ≤ (j : Int) := by omega
      have h2 : j < len := by omega
      have h2' : (j : Int) < (len : Int) := by omega
      have k1 : IntKind.i64.wrap ((j : Int) - 1) = (j : Int) - 1 := IntWalk.i64_in _ ⟨by omega, by omega⟩
      try dsimp only at hy
      gi_wp2
      refine hR.mono ?_
      rintro e W3 (⟨rfl, hJ3, hk3⟩ | ⟨rfl, hJx3⟩)
      · gi_wp2
        go_roundw
        case rel => exact ⟨k + 1, by omega, by first | (simp; omega) | (simp; done), by rw [List.take_add_one, hp]; exact hJ3, hnx.trans hk3⟩
        case measure => first | (simp [intOf]; omega) | (simp [intOf]; done)
      · gi_wp2
        refine bodyPost_ret (results_none rfl _ _ _) rfl ?_
        exact ⟨⟨_, rfl⟩, .inr ⟨_, trivial, hJx3⟩⟩
    · obtain rfl : k = len := by omega
      have h1 : ¬ (0 : Int) ≤ (k : Int) - 1 - (k : Int) := by omega
      have h2 : (k : Int) - 1 - (k : Int) = -1 := by omega
      rw [h2]
      gi_wp2
      go_end0
      rw [List.take_of_length_le (by omega)] at hJs
      first | exact ⟨⟨_, rfl⟩, .inl ⟨_, rfl, hJs⟩⟩ | exact ⟨⟨_, rfl⟩, .inl hJs⟩
theorem back_stops {n0 : Nat} (n : Nat) (hn : 1 ≤ n) (Bs b len cap : Nat) (a : Option Addr) (zs : List (Pt n0)) (hzl : zs.length = len) (hlen : len ≤ 131072) (ha : 0 < len → a = some ⟨b, 0, none⟩) (hf : ∀ (j : Nat) p, zs[j]? = some p → p.1 = len - 1 - j) (w : World) (hBs : w.cell? ⟨Bs, 0, none⟩ = some (.slice a len cap)) (hBlt : Bs < w.heap.size) (hblt : 0 < len → b < w.heap.size) (hc : ∀ (j : Nat) p, zs[j]? = some p → w.cell? ⟨b, len - 1 - j, none⟩ = some (.int .i64 (p.2.1 : Int))) :
    SeqStopsK Fence.wide n Tryz.prog 75 #[.pointer (some ⟨Bs, 0, none⟩)] (fun x : Pt n0 => #[Value.int .i64 (x.1 : Int), Value.int .i64 (x.2.1 : Int)]) (Kq Bs b len) (fun ys => ys = zs) (fun _ => True) len w := fun l J Jx W hW _ _ hY h0 =>
  back1_in n hn l Bs b len cap a zs hzl hlen ha hf J Jx hY W ((hW.cell (p := ⟨Bs, 0, none⟩) hBlt).trans hBs) (fun j p hj => (hW.cell (p := ⟨b, len - 1 - j, none⟩) (hblt (by have := (List.getElem?_eq_some_iff.1 hj).1; omega))).trans (hc j p hj)) h0
set_option maxHeartbeats 1000000 in
theorem backward_any (a : Option Addr) (len cap : Nat) (w : World) :
    Calls Tryz.prog 56 #[.slice a len cap] w fun e w' => e = .returned (.func (.func 75) #[] #[.pointer (some ⟨w.heap.size, 0, none⟩)]) ∧ w' = w.alloc (.cells #[.slice a len cap] 32) := by
  have hmf : ∀ (fn : Fn) (first cap : Array Value) (w : World), (Instr.makeFunc fn first cap).run Tryz.prog w = .ok (.func fn first cap) w := fun _ _ _ _ => rfl
  go_enter Tryz.func56, Tryz.ntmps56
  go_wp2
  go_ret
  exact ⟨rfl, rfl⟩
theorem TL.kq {B bo Bs b len cap : Nat} {a : Option Addr} {vs vs' : List (Value × List Int)} {qs : List (Nat × Value × TypeId)} {w9 w9' z z' : World} {t t' : List Nat} {xs : List Int} (h : TL B bo vs qs w9 t z) (h' : TL B bo vs' qs w9' t' z') (hv : (.slice a len cap, xs) ∈ vs) (hv' : (.slice a len cap, xs) ∈ vs') (hx : xs.length = len) (hq : (Bs, .slice a len cap, 32) ∈ qs) (ha : 0 < len → a = some ⟨b, 0, none⟩) : Kq Bs b len z z' := by
  refine ⟨?_, fun i hi => ?_⟩
  · have h1 := (h.bs _ hq).1.one
    have h2 := (h'.bs _ hq).1.one
    exact h2.trans h1.symm
  · obtain rfl := ha (by omega)
    have h1 := h.ks _ hv
    have h2 := h'.ks _ hv'
    dsimp only at h1 h2
    have hi' : i < xs.length := by omega
    have k1 := h1.cells rfl i (.int .i64 xs[i]) (by rw [flat_at, List.getElem?_eq_getElem hi']; rfl)
    have k2 := h2.cells rfl i (.int .i64 xs[i]) (by rw [flat_at, List.getElem?_eq_getElem hi']; rfl)
    rw [addr_add, Nat.zero_add] at k1 k2
    exact k2.trans k1.symm
end Go.Proofs.YtgijcbipnjmhgabGreat
