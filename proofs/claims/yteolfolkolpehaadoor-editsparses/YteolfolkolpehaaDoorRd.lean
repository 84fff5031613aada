import Derived.Test.YteolfolkolpehaaDoorKb
import Derived.Test.YteolfolkolpehaaDoorBxs
namespace Go.Proofs.YteolfolkolpehaaDoor
open Go.ChangeShapes Go.WideShapes Go.ChangeAt Go.RowKit
set_option linter.unusedVariables false

/-- a reader: its text and where it is -/
def Rdr (w : World) (g : Nat) (s : ByteArray) (p : Int) : Prop := w.heap[g]? = some (.cells #[.string s, .int .i64 p] 63 (0, 0))
theorem Rdr.lt {w : World} {g : Nat} {s : ByteArray} {p : Int} (h : Rdr w g s p) : g < w.heap.size := lt_of_block h
theorem Rdr.c0 {w : World} {g : Nat} {s : ByteArray} {p : Int} (h : Rdr w g s p) : w.cell? ⟨g, 0, none⟩ = some (.string s) := by simp [World.cell?, show w.heap[g]? = _ from h]
theorem Rdr.c1 {w : World} {g : Nat} {s : ByteArray} {p : Int} (h : Rdr w g s p) : w.cell? ⟨g, 1, none⟩ = some (.int .i64 p) := by simp [World.cell?, show w.heap[g]? = _ from h]
theorem Rdr.free {w : World} {g : Nat} {s : ByteArray} {p : Int} (h : Rdr w g s p) (i : Nat) : w.frozen? ⟨g, i, none⟩ = false := by simp [World.frozen?, show w.heap[g]? = _ from h]
theorem Rdr.drew {w : World} {g : Nat} {s : ByteArray} {p : Int} (h : Rdr w g s p) : Rdr w.drew g s p := h
theorem Rdr.drewN {w : World} {g : Nat} {s : ByteArray} {p : Int} (h : Rdr w g s p) (n : Nat) : Rdr (w.drewN n) g s p := h
theorem Rdr.below {B : Nat} {w w' : World} {g : Nat} {s : ByteArray} {p : Int} (h : Rdr w g s p) (hb : Below B w w') (hg : g < B) : Rdr w' g s p := (hb.block g hg).trans h
theorem Rdr.alloc {w : World} {g : Nat} {s : ByteArray} {p : Int} (h : Rdr w g s p) (o : Obj) : Rdr (w.alloc o) g s p := (Below.heap_alloc w o g h.lt).trans h
theorem Rdr.new (w : World) (s : ByteArray) (p : Int) : Rdr (w.alloc (.cells #[.string s, .int .i64 p] 63)) w.heap.size s p := heap_alloc_new w _
theorem Rdr.other {w : World} {g : Nat} {s : ByteArray} {p : Int} (h : Rdr w g s p) (a : Addr) (hne : g ≠ a.block) (v : Value) : Rdr (w.setCell a v) g s p := (heap_setCell_other w a g v hne).trans h
theorem Rdr.grown {w w' : World} {g : Nat} {s : ByteArray} {p : Int} {row : Option Nat} (h : Rdr w g s p) (hg : w.grownBy w' row) (hne : row ≠ some g) : Rdr w' g s p :=
  (hg.block g h.lt (fun e => hne e.symm)).trans h
theorem Rdr.set1 {w : World} {g : Nat} {s : ByteArray} {p : Int} (h : Rdr w g s p) (v : Int) : Rdr (w.setCell ⟨g, 1, none⟩ (.int .i64 v)) g s v := by
  have := heap_setCell_same w g 1 #[.string s, .int .i64 p] 63 (.int .i64 v) h
  exact this

/-- a byte stands there -/
def isAt (s : ByteArray) (p : Nat) (c : UInt8) : Bool := s.data.toList[p]? == some c
theorem isAt_lt {s : ByteArray} {p : Nat} {c : UInt8} (h : isAt s p c = true) : p < s.size := by
  unfold isAt at h
  have h1 := List.getElem?_eq_some_iff.1 (eq_of_beq h)
  have := bytes_len s
  obtain ⟨h2, -⟩ := h1
  omega

/-- all blocks but g are as they were -/
def Btg (g : Nat) (v w : World) : Prop := v.heap.size ≤ w.heap.size ∧ ∀ h, h < v.heap.size → h ≠ g → w.heap[h]? = v.heap[h]?
theorem Btg.refl (g : Nat) (v : World) : Btg g v v := ⟨Nat.le_refl _, fun _ _ _ => rfl⟩
theorem Btg.trans {g : Nat} {u v w : World} (h : Btg g u v) (k : Btg g v w) : Btg g u w :=
  ⟨Nat.le_trans h.1 k.1, fun i hi hg => (k.2 i (Nat.lt_of_lt_of_le hi h.1) hg).trans (h.2 i hi hg)⟩
theorem Btg.below {g : Nat} {u v w : World} (h : Btg g u v) (k : Below v.heap.size v w) : Btg g u w :=
  ⟨Nat.le_trans h.1 k.size, fun i hi hg => (k.block i (Nat.lt_of_lt_of_le hi h.1)).trans (h.2 i hi hg)⟩
theorem Btg.set {g : Nat} {u v : World} (h : Btg g u v) (i : Nat) (x : Value) : Btg g u (v.setCell ⟨g, i, none⟩ x) :=
  ⟨by simpa using h.1, fun j hj hg => (heap_setCell_other v ⟨g, i, none⟩ j x hg).trans (h.2 j hj hg)⟩

set_option maxRecDepth 1000000 in
set_option maxHeartbeats 2000000 in
theorem take_any (B g : Nat) (s : ByteArray) (p : Nat) (c : UInt8) (v : World) (hs : s.size ≤ 140737488351232) (hp : p ≤ s.size) (hB : B ≤ g) (h : Rdr v g s p) :
    Calls Tryd.prog 59 #[.pointer (some ⟨g, 0, none⟩), .int .u8 c.toNat] v fun e w' => e = .returned (.bool (isAt s p c)) ∧ Rdr w' g s (if isAt s p c then p + 1 else p : Nat) ∧ Below B v w' ∧ Btg g v w' := by
  have hl := bytes_len s
  obtain ⟨X, F, hX, hF, onto⟩ := class_of (fun x => Below v.heap.size v x) (Below.refl _ v)
  have HF : Hid (∀ y, Below v.heap.size v (F y)) := hF
  have HO : Hid (∀ x, Below v.heap.size v x → ∃ y, x = F y) := fun x h => by obtain ⟨y, hy⟩ := onto x h; exact ⟨y, hy.symm⟩
  have hR : ∀ y, Rdr (F y) g s p := fun y => h.below (hF y) h.lt
  have HR : Hid (∀ y, Rdr (F y) g s p) := hR
  have hgl := h.lt
  have c0 := fun y => (hR y).c0
  have c1 := fun y => (hR y).c1
  have f1 := fun y => (hR y).free 1
  clear h hF hR onto
  go_enter Tryd.func59, Tryd.ntmps59
  by_cases hps : p < s.size
  · have hps' : (p : Int) < (s.size : Int) := by omega
    have hp0 : (0 : Int) ≤ (p : Int) := by omega
    obtain ⟨x, hx⟩ : ∃ x, s[p]'hps = x := ⟨_, rfl⟩
    have hxk : s.data.toList[p]? = some x := by
      rw [List.getElem?_eq_getElem (by omega), ← hx]; rfl
    by_cases hxc : x = c
    · have ht : isAt s p c = true := by unfold isAt; rw [hxk, hxc]; exact beq_self_eq_true _
      have t1 : ((x.toNat : Int) == (c.toNat : Int)) = true := by rw [hxc]; exact beq_self_eq_true _
      rw [ht]
      clear hxk hxc
      go_upto_region 1 with fail
      refine region_class F (by kernel_rfl) (by kernel_rfl) (by obtain ⟨x, hx⟩ := HO.out _ (Below.refl _ _).drew; exact ⟨x, hx.symm⟩) ?_
      repeat (go_big_quiet_step (fail))
      refine wpQuiet_nil ?_
      rintro _ ⟨nq, rfl⟩
      go_wp2
      go_ret
      refine ⟨rfl, ?_, ((HF.out nq).mono (by omega)).setCell (p := ⟨g, 1, none⟩) hB _, (Btg.below (Btg.refl g v) (HF.out nq)).set 1 _⟩
      exact (HR.out nq).set1 _
    · have ht : isAt s p c = false := by
        unfold isAt; rw [hxk, beq_eq_false_iff_ne]; intro h; exact hxc (Option.some.inj h)
      have t1 : ((x.toNat : Int) == (c.toNat : Int)) = false := by
        rw [beq_eq_false_iff_ne]; intro h; apply hxc; apply UInt8.toNat_inj.1; omega
      rw [ht]
      clear hxk hxc
      go_upto_region 1 with fail
      refine region_class F (by kernel_rfl) (by kernel_rfl) (by obtain ⟨x, hx⟩ := HO.out _ (Below.refl _ _).drew; exact ⟨x, hx.symm⟩) ?_
      repeat (go_big_quiet_step (fail))
      refine wpQuiet_nil ?_
      rintro _ ⟨nq, rfl⟩
      go_wp2
      go_ret
      exact ⟨rfl, HR.out nq, (HF.out nq).mono (by omega), Btg.below (Btg.refl g v) (HF.out nq)⟩
  · have hps' : ¬ (p : Int) < (s.size : Int) := by omega
    have ht : isAt s p c = false := by
      cases hh : isAt s p c
      · rfl
      · exact absurd (isAt_lt hh) hps
    rw [ht]
    go_upto_region 1 with fail
    refine region_class F (by kernel_rfl) (by kernel_rfl) (by obtain ⟨x, hx⟩ := HO.out _ (Below.refl _ _).drew; exact ⟨x, hx.symm⟩) ?_
    repeat (go_big_quiet_step (fail))
    refine wpQuiet_nil ?_
    rintro _ ⟨nq, rfl⟩
    go_wp2
    go_ret
    exact ⟨rfl, HR.out nq, (HF.out nq).mono (by omega), Btg.below (Btg.refl g v) (HF.out nq)⟩
end Go.Proofs.YteolfolkolpehaaDoor
