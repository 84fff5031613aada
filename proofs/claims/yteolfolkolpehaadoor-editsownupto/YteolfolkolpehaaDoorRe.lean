import Derived.Test.YteolfolkolpehaaDoorCk
import Derived.Test.YteolfolkolpehaaDoorShm
namespace Go.Proofs.YteolfolkolpehaaDoor
open Go.ChangeShapes Go.WideShapes Go.ChangeAt Go.RowKit
set_option linter.unusedVariables false

/-- a reader: its text and where it is -/
def Rdr (w : World) (g : Nat) (s : ByteArray) (p : Int) : Prop := w.heap[g]? = some (.cells #[.string s, .int .i64 p] 63 (0, 0))
theorem Rdr.lt {w : World} {g : Nat} {s : ByteArray} {p : Int} (h : Rdr w g s p) : g < w.heap.size := lt_of_block h
theorem Rdr.c0 {w : World} {g : Nat} {s : ByteArray} {p : Int} (h : Rdr w g s p) : w.cell? ⟨g, 0, none⟩ = some (.string s) := by simp [World.cell?, show w.heap[g]? = _ from h]
theorem Rdr.c1 {w : World} {g : Nat} {s : ByteArray} {p : Int} (h : Rdr w g s p) : w.cell? ⟨g, 1, none⟩ = some (.int .i64 p) := by simp [World.cell?, show w.heap[g]? = _ from h]
theorem Rdr.free {w : World} {g : Nat} {s : ByteArray} {p : Int} (h : Rdr w g s p) (i : Nat) : w.frozen? ⟨g, i, none⟩ = false := by simp [World.frozen?, show w.heap[g]? = _ from h]
theorem Rdr.drew {w : World} {g : Nat} {s : ByteArray} {p : Int} (h : Rdr w g s p) : Rdr w.drew g s p := h
theorem Rdr.drewN {w : World} {g : Nat} {s : ByteArray} {p : Int} (h : Rdr w g s p) (n : Nat) : Rdr (w.drewN n) g s p := h
theorem Rdr.below {B : Nat} {w w' : World} {g : Nat} {s : ByteArray} {p : Int} (h : Rdr w g s p) (hb : Below B w w') (hg : g < B) : Rdr w' g s p := (hb.block g hg).trans h
theorem Rdr.alloc {w : World} {g : Nat} {s : ByteArray} {p : Int} (h : Rdr w g s p) (o : Obj) : Rdr (w.alloc o) g s p := (Below.heap_alloc w o g h.lt).trans h
theorem Rdr.new (w : World) (s : ByteArray) (p : Int) : Rdr (w.alloc (.cells #[.string s, .int .i64 p] 63)) w.heap.size s p := heap_alloc_new w _
theorem Rdr.other {w : World} {g : Nat} {s : ByteArray} {p : Int} (h : Rdr w g s p) (a : Addr) (hne : g ≠ a.block) (v : Value) : Rdr (w.setCell a v) g s p := (heap_setCell_other w a g v hne).trans h
theorem Rdr.grown {w w' : World} {g : Nat} {s : ByteArray} {p : Int} {row : Option Nat} (h : Rdr w g s p) (hg : w.grownBy w' row) (hne : row ≠ some g) : Rdr w' g s p :=
  (hg.block g h.lt (fun e => hne e.symm)).trans h
theorem Rdr.set1 {w : World} {g : Nat} {s : ByteArray} {p : Int} (h : Rdr w g s p) (v : Int) : Rdr (w.setCell ⟨g, 1, none⟩ (.int .i64 v)) g s v := by
  have := heap_setCell_same w g 1 #[.string s, .int .i64 p] 63 (.int .i64 v) h
  exact this

/-- a byte stands there -/
def isAt (s : ByteArray) (p : Nat) (c : UInt8) : Bool := s.data.toList[p]? == some c
theorem isAt_lt {s : ByteArray} {p : Nat} {c : UInt8} (h : isAt s p c = true) : p < s.size := by
  unfold isAt at h
  have h1 := List.getElem?_eq_some_iff.1 (eq_of_beq h)
  have := bytes_len s
  obtain ⟨h2, -⟩ := h1
  omega

/-- all blocks but g are as they were -/
def Btg (g : Nat) (v w : World) : Prop := v.heap.size ≤ w.heap.size ∧ ∀ h, h < v.heap.size → h ≠ g → w.heap[h]? = v.heap[h]?
theorem Btg.refl (g : Nat) (v : World) : Btg g v v := ⟨Nat.le_refl _, fun _ _ _ => rfl⟩
theorem Btg.trans {g : Nat} {u v w : World} (h : Btg g u v) (k : Btg g v w) : Btg g u w :=
  ⟨Nat.le_trans h.1 k.1, fun i hi hg => (k.2 i (Nat.lt_of_lt_of_le hi h.1) hg).trans (h.2 i hi hg)⟩
theorem Btg.below {g : Nat} {u v w : World} (h : Btg g u v) (k : Below v.heap.size v w) : Btg g u w :=
  ⟨Nat.le_trans h.1 k.size, fun i hi hg => (k.block i (Nat.lt_of_lt_of_le hi h.1)).trans (h.2 i hi hg)⟩
theorem Btg.set {g : Nat} {u v : World} (h : Btg g u v) (i : Nat) (x : Value) : Btg g u (v.setCell ⟨g, i, none⟩ x) :=
  ⟨by simpa using h.1, fun j hj hg => (heap_setCell_other v ⟨g, i, none⟩ j x hg).trans (h.2 j hj hg)⟩

set_option maxRecDepth 1000000 in
set_option maxHeartbeats 2000000 in
theorem take_any (B g : Nat) (s : ByteArray) (p : Nat) (c : UInt8) (v : World) (hs : s.size ≤ 16777216) (hp : p ≤ s.size) (hB : B ≤ g) (h : Rdr v g s p) :
    Calls Tryd.prog 59 #[.pointer (some ⟨g, 0, none⟩), .int .u8 c.toNat] v fun e w' => e = .returned (.bool (isAt s p c)) ∧ Rdr w' g s (if isAt s p c then p + 1 else p : Nat) ∧ Below B v w' ∧ Btg g v w' := by
  have hl := bytes_len s
  obtain ⟨X, F, hX, hF, onto⟩ := class_of (fun x => Below v.heap.size v x) (Below.refl _ v)
  have HF : Hid (∀ y, Below v.heap.size v (F y)) := hF
  have HO : Hid (∀ x, Below v.heap.size v x → ∃ y, x = F y) := fun x h => by obtain ⟨y, hy⟩ := onto x h; exact ⟨y, hy.symm⟩
  have hR : ∀ y, Rdr (F y) g s p := fun y => h.below (hF y) h.lt
  have HR : Hid (∀ y, Rdr (F y) g s p) := hR
  have hgl := h.lt
  have c0 := fun y => (hR y).c0
  have c1 := fun y => (hR y).c1
  have f1 := fun y => (hR y).free 1
  clear h hF hR onto
  go_enter Tryd.func59, Tryd.ntmps59
  by_cases hps : p < s.size
  · have hps' : (p : Int) < (s.size : Int) := by omega
    have hp0 : (0 : Int) ≤ (p : Int) := by omega
    obtain ⟨x, hx⟩ : ∃ x, s[p]'hps = x := ⟨_, rfl⟩
    have hxk : s.data.toList[p]? = some x := by
      rw [List.getElem?_eq_getElem (by omega), ← hx]; rfl
    by_cases hxc : x = c
    · have ht : isAt s p c = true := by unfold isAt; rw [hxk, hxc]; exact beq_self_eq_true _
      have t1 : ((x.toNat : Int) == (c.toNat : Int)) = true := by rw [hxc]; exact beq_self_eq_true _
      rw [ht]
      clear hxk hxc
      go_upto_region 1 with fail
      refine region_class F (by kernel_rfl) (by kernel_rfl) (by obtain ⟨x, hx⟩ := HO.out _ (Below.refl _ _).drew; exact ⟨x, hx.symm⟩) ?_
      repeat (go_big_quiet_step (fail))
      refine wpQuiet_nil ?_
      rintro _ ⟨nq, rfl⟩
      go_wp2
      go_ret
      refine ⟨rfl, ?_, ((HF.out nq).mono (by omega)).setCell (p := ⟨g, 1, none⟩) hB _, (Btg.below (Btg.refl g v) (HF.out nq)).set 1 _⟩
      exact (HR.out nq).set1 _
    · have ht : isAt s p c = false := by
        unfold isAt; rw [hxk, beq_eq_false_iff_ne]; intro h; exact hxc (Option.some.inj h)
      have t1 : ((x.toNat : Int) == (c.toNat : Int)) = false := by
        rw [beq_eq_false_iff_ne]; intro h; apply hxc; apply UInt8.toNat_inj.1; omega
      rw [ht]
      clear hxk hxc
      go_upto_region 1 with fail
      refine region_class F (by kernel_rfl) (by kernel_rfl) (by obtain ⟨x, hx⟩ := HO.out _ (Below.refl _ _).drew; exact ⟨x, hx.symm⟩) ?_
      repeat (go_big_quiet_step (fail))
      refine wpQuiet_nil ?_
      rintro _ ⟨nq, rfl⟩
      go_wp2
      go_ret
      exact ⟨rfl, HR.out nq, (HF.out nq).mono (by omega), Btg.below (Btg.refl g v) (HF.out nq)⟩
  · have hps' : ¬ (p : Int) < (s.size : Int) := by omega
    have ht : isAt s p c = false := by
      cases hh : isAt s p c
      · rfl
      · exact absurd (isAt_lt hh) hps
    rw [ht]
    go_upto_region 1 with fail
    refine region_class F (by kernel_rfl) (by kernel_rfl) (by obtain ⟨x, hx⟩ := HO.out _ (Below.refl _ _).drew; exact ⟨x, hx.symm⟩) ?_
    repeat (go_big_quiet_step (fail))
    refine wpQuiet_nil ?_
    rintro _ ⟨nq, rfl⟩
    go_wp2
    go_ret
    exact ⟨rfl, HR.out nq, (HF.out nq).mono (by omega), Btg.below (Btg.refl g v) (HF.out nq)⟩
end Go.Proofs.YteolfolkolpehaaDoor

namespace Go.Proofs.YteolfolkolpehaaDoor
open Go.ChangeShapes Go.WideShapes Go.ChangeAt Go.RowKit
set_option linter.unusedVariables false

/-- the byte that stands behind a backslash -/
def escC (s : ByteArray) (p : Nat) : Option UInt8 := if isAt s p 34 then some 34 else if isAt s p 92 then some 92 else if isAt s p 110 then some 10 else none
def escP (s : ByteArray) (p : Nat) : Nat := if (escC s p).isSome then p + 1 else p

set_option maxRecDepth 1000000 in
set_option maxHeartbeats 2000000 in
theorem escaped_any (B g : Nat) (s : ByteArray) (p : Nat) (v : World) (hs : s.size ≤ 16777216) (hp : p ≤ s.size) (hB : B ≤ g) (h : Rdr v g s p) :
    Calls Tryd.prog 79 #[.pointer (some ⟨g, 0, none⟩)] v fun e w' => e = .returned (.tuple #[.int .u8 ((escC s p).getD 0).toNat, .bool (escC s p).isSome]) ∧ Rdr w' g s (escP s p : Nat) ∧ Below B v w' ∧ Btg g v w' := by
  have HT : Hid (∀ (c : UInt8) (x : World), Rdr x g s p → Calls Tryd.prog 59 #[.pointer (some ⟨g, 0, none⟩), .int .u8 c.toNat] x fun e w' => e = .returned (.bool (isAt s p c)) ∧ Rdr w' g s (if isAt s p c then p + 1 else p : Nat) ∧ Below B x w' ∧ Btg g x w') := fun c x hx => take_any B g s p c x hs hp hB hx
  have H : Hid (Rdr v g s p) := h
  have H1 : Hid (∀ x, Rdr x g s p → Calls Tryd.prog 59 #[.pointer (some ⟨g, 0, none⟩), .int .u8 34] x fun e w' => e = .returned (.bool (isAt s p 34)) ∧ Rdr w' g s (if isAt s p 34 then p + 1 else p : Nat) ∧ Below B x w' ∧ Btg g x w') := fun x hx => HT.out 34 x hx
  have H2 : Hid (∀ x, Rdr x g s p → Calls Tryd.prog 59 #[.pointer (some ⟨g, 0, none⟩), .int .u8 92] x fun e w' => e = .returned (.bool (isAt s p 92)) ∧ Rdr w' g s (if isAt s p 92 then p + 1 else p : Nat) ∧ Below B x w' ∧ Btg g x w') := fun x hx => HT.out 92 x hx
  have H3 : Hid (∀ x, Rdr x g s p → Calls Tryd.prog 59 #[.pointer (some ⟨g, 0, none⟩), .int .u8 110] x fun e w' => e = .returned (.bool (isAt s p 110)) ∧ Rdr w' g s (if isAt s p 110 then p + 1 else p : Nat) ∧ Below B x w' ∧ Btg g x w') := fun x hx => HT.out 110 x hx
  unfold escP
  clear h HT
  go_enter Tryd.func79, Tryd.ntmps79
  cases e1 : isAt s p 34
  · cases e2 : isAt s p 92
    · cases e3 : isAt s p 110
      · have hE : escC s p = none := by unfold escC; rw [e1, e2, e3]; rfl
        rw [hE]
        rw [e1] at H1; rw [e2] at H2; rw [e3] at H3
        clear e1 e2 e3 hE
        go_wp2_with (first
          | (go_at_call 59; (with_reducible refine (H1.out _ H.out).mono ?_); rintro e w2 ⟨rfl, hr, hb, hg⟩; have HR2 : Hid (Rdr w2 g s p) := hr; have HB2 : Hid (Below B v w2 ∧ Btg g v w2) := ⟨hb, hg⟩; clear hr hb hg)
          | (go_at_call 59; (with_reducible refine (H2.out _ HR2.out).mono ?_); rintro e w3 ⟨rfl, hr, hb, hg⟩; have HR3 : Hid (Rdr w3 g s p) := hr; have HB3 : Hid (Below B v w3 ∧ Btg g v w3) := ⟨HB2.out.1.trans hb, HB2.out.2.trans hg⟩; clear hr hb hg)
          | (go_at_call 59; (with_reducible refine (H3.out _ HR3.out).mono ?_); rintro e w4 ⟨rfl, hr, hb, hg⟩; have HR4 : Hid (Rdr w4 g s p) := hr; have HB4 : Hid (Below B v w4 ∧ Btg g v w4) := ⟨HB3.out.1.trans hb, HB3.out.2.trans hg⟩; clear hr hb hg))
        go_ret2
        exact ⟨rfl, HR4.out, HB4.out⟩
      · have hE : escC s p = some 10 := by unfold escC; rw [e1, e2, e3]; rfl
        rw [hE]
        rw [e1] at H1; rw [e2] at H2; rw [e3] at H3
        clear e1 e2 e3 hE
        go_wp2_with (first
          | (go_at_call 59; (with_reducible refine (H1.out _ H.out).mono ?_); rintro e w2 ⟨rfl, hr, hb, hg⟩; have HR2 : Hid (Rdr w2 g s p) := hr; have HB2 : Hid (Below B v w2 ∧ Btg g v w2) := ⟨hb, hg⟩; clear hr hb hg)
          | (go_at_call 59; (with_reducible refine (H2.out _ HR2.out).mono ?_); rintro e w3 ⟨rfl, hr, hb, hg⟩; have HR3 : Hid (Rdr w3 g s p) := hr; have HB3 : Hid (Below B v w3 ∧ Btg g v w3) := ⟨HB2.out.1.trans hb, HB2.out.2.trans hg⟩; clear hr hb hg)
          | (go_at_call 59; (with_reducible refine (H3.out _ HR3.out).mono ?_); rintro e w4 ⟨rfl, hr, hb, hg⟩; have HR4 : Hid (Rdr w4 g s (p + 1 : Nat)) := hr; have HB4 : Hid (Below B v w4 ∧ Btg g v w4) := ⟨HB3.out.1.trans hb, HB3.out.2.trans hg⟩; clear hr hb hg))
        go_ret2
        exact ⟨rfl, HR4.out, HB4.out⟩
    · have hE : escC s p = some 92 := by unfold escC; rw [e1, e2]; rfl
      rw [hE]
      rw [e1] at H1; rw [e2] at H2
      clear e1 e2 hE
      go_wp2_with (first
        | (go_at_call 59; (with_reducible refine (H1.out _ H.out).mono ?_); rintro e w2 ⟨rfl, hr, hb, hg⟩; have HR2 : Hid (Rdr w2 g s p) := hr; have HB2 : Hid (Below B v w2 ∧ Btg g v w2) := ⟨hb, hg⟩; clear hr hb hg)
        | (go_at_call 59; (with_reducible refine (H2.out _ HR2.out).mono ?_); rintro e w3 ⟨rfl, hr, hb, hg⟩; have HR3 : Hid (Rdr w3 g s (p + 1 : Nat)) := hr; have HB3 : Hid (Below B v w3 ∧ Btg g v w3) := ⟨HB2.out.1.trans hb, HB2.out.2.trans hg⟩; clear hr hb hg))
      go_ret2
      exact ⟨rfl, HR3.out, HB3.out⟩
  · have hE : escC s p = some 34 := by unfold escC; rw [e1]; rfl
    rw [hE]
    rw [e1] at H1
    clear e1 hE
    go_wp2_with (go_at_call 59; (with_reducible refine (H1.out _ H.out).mono ?_); rintro e w2 ⟨rfl, hr, hb, hg⟩; have HR2 : Hid (Rdr w2 g s (p + 1 : Nat)) := hr; have HB2 : Hid (Below B v w2 ∧ Btg g v w2) := ⟨hb, hg⟩; clear hr hb hg)
    go_ret2
    exact ⟨rfl, HR2.out, HB2.out⟩
end Go.Proofs.YteolfolkolpehaaDoor
