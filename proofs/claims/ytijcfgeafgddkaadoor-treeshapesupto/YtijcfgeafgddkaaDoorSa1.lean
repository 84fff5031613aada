import Derived.Test.YtijcfgeafgddkaaDoorSa
import Derived.Test.YtijcfgeafgddkaaDoorCls
import Derived.Test.YtijcfgeafgddkaaDoorNmsB
namespace Go.Proofs.YtijcfgeafgddkaaDoor
open Go.ChangeShapes Go.WideShapes Go.ChangeAt Go.RowKit
set_option linter.unusedVariables false

/-- the kinds of the tokens in a node's run -/
def kof (ts : List Tk) (x : Nd) : List UInt8 := kby ts (spB x ts.length) (spE x ts.length - spB x ts.length)

set_option maxRecDepth 1000000 in
set_option maxHeartbeats 4000000 in
theorem of_any (x : Nd) (a : Option Addr) (c : Nat) (ts : List Tk) (w : World) (h : LiesA w a (aL ts (ts.length + 1))) (hx : NdFit x) (hl : ts.length * 24 ≤ 140737488351232) :
    Calls Tryd.prog 10 #[.agg #[.string ⟨(kby ts 0 ts.length).toArray⟩, .slice a (ts.length + 1) c], .agg #[.int .u8 x.k, .int .i64 x.f, .int .i64 x.e, .int .i64 x.s]] w fun e w' => e = .returned (.string ⟨(kof ts x).toArray⟩) ∧ Below w.heap.size w w' := by
  have H : Hid (LiesA w a (aL ts (ts.length + 1))) := h
  have hsb := spB_le x ts.length
  have hse := spE_le x ts.length
  obtain ⟨B, hB⟩ : ∃ B, spB x ts.length = B := ⟨_, rfl⟩
  obtain ⟨D, hE⟩ : ∃ D, spE x ts.length = B + D := ⟨spE x ts.length - B, by rw [hB] at hsb; omega⟩
  have HSP : Hid (∀ v, Calls Tryd.prog 24 #[.agg #[.int .u8 x.k, .int .i64 x.f, .int .i64 x.e, .int .i64 x.s], .int .i64 ts.length] v fun e w' => e = .returned (.tuple #[.int .i64 B, .int .i64 ((B + D : Nat) : Int)]) ∧ Below v.heap.size v w') := by
    intro v; have := span_any x ts.length v hx hl; rw [hB, hE] at this; exact this
  have HK : Hid (kof ts x = kby ts B D) := by unfold Hid kof; rw [hB, hE, Nat.add_sub_cancel_left]
  rw [hE] at hse
  obtain ⟨sv, hsv⟩ : ∃ sv : ByteArray, sv = ⟨(kby ts 0 ts.length).toArray⟩ := ⟨_, rfl⟩
  rw [← hsv]
  have HSV : Hid (sv = ⟨(kby ts 0 ts.length).toArray⟩) := hsv
  obtain ⟨w2, e2, hw, hs2, B0, C0⟩ := bx2 w #[.string sv, .slice a (ts.length + 1) c] #[.int .u8 x.k, .int .i64 x.f, .int .i64 x.e, .int .i64 x.s] 41 37
  have HB0 : Hid (Below w.heap.size w w2) := hw
  have HX0 : Hid (Bx w2 w.heap.size #[.string sv, .slice a (ts.length + 1) c] 41) := B0
  have HC0 : Hid (Bx w2 (w.heap.size + 1) #[.int .u8 x.k, .int .i64 x.f, .int .i64 x.e, .int .i64 x.s] 37) := C0
  have HE2 : Hid ((w.alloc (.cells #[.string sv, .slice a (ts.length + 1) c] 41)).alloc (.cells #[.int .u8 x.k, .int .i64 x.f, .int .i64 x.e, .int .i64 x.s] 37) = w2) := e2
  have HS2 : Hid (w2.heap.size = w.heap.size + 2) := hs2
  clear h hw e2 hsv hs2 B0 C0 hB hE hsb
  go_enter Tryd.func10, Tryd.ntmps10
  go_upto_region 1 with fail
  rw [HE2.out]
  have k0 : w2.cell? ⟨w.heap.size, 0, none⟩ = some (.string sv) := HX0.out.cell 0
  have k1 : w2.cell? ⟨w.heap.size, 1, none⟩ = some (.slice a (ts.length + 1) c) := HX0.out.cell 1
  have d0 : w2.cell? ⟨w.heap.size + 1, 0, none⟩ = some (.int .u8 x.k) := HC0.out.cell 0
  have d1 : w2.cell? ⟨w.heap.size + 1, 1, none⟩ = some (.int .i64 x.f) := HC0.out.cell 1
  have d2 : w2.cell? ⟨w.heap.size + 1, 2, none⟩ = some (.int .i64 x.e) := HC0.out.cell 2
  have d3 : w2.cell? ⟨w.heap.size + 1, 3, none⟩ = some (.int .i64 x.s) := HC0.out.cell 3
  go_upto_region 2 with (first
    | (go_at_call 24; refine (HSP.out _).mono ?_; rintro e w5 ⟨rfl, hb5⟩; have HB5 : Hid (Below w2.heap.size w2 w5) := hb5; clear hb5)
    | fail)
  clear k0 k1 d0 d1 d2 d3
  have HX5 : Hid (Bx w5 w.heap.size #[.string sv, .slice a (ts.length + 1) c] 41) := HX0.out.below HB5.out (by have := HS2.out; omega)
  have k0 : w5.cell? ⟨w.heap.size, 0, none⟩ = some (.string sv) := HX5.out.cell 0
  have k1 : w5.cell? ⟨w.heap.size, 1, none⟩ = some (.slice a (ts.length + 1) c) := HX5.out.cell 1
  rcases H.out with h0 | ⟨b1, o1, rfl, hL1⟩
  · have := congrArg List.length h0; rw [aL_len] at this; simp at this
  have HW5 : Hid (Below w.heap.size w w5) := HB0.out.trans (HB5.out.mono HB0.out.size)
  have q1 := hL1.int HW5.out (aL_get (ts := ts) (k := ts.length + 1) (i := B) (by omega))
  have q2 := hL1.int HW5.out (aL_get (ts := ts) (k := ts.length + 1) (i := B + D) (by omega))
  have g1 : (B : Int) < (ts.length : Int) + 1 := by omega
  have g2 : (B : Int) + (D : Int) < (ts.length : Int) + 1 := by omega
  obtain ⟨P, hP⟩ : ∃ P, (kby ts 0 B).length = P := ⟨_, rfl⟩
  have hsz : sv.size = (kby ts 0 ts.length).length := by rw [HSV.out]; simp [ByteArray.size]
  have hs1 : (kby ts 0 (B + D)).length = P + (kby ts B D).length := by rw [kby_split, List.length_append, hP, Nat.zero_add]
  have hs2 : sv.size = P + (kby ts B D).length + (kby ts (B + D) (ts.length - (B + D))).length := by
    rw [hsz, ← hs1, ← Nat.zero_add (B + D), ← List.length_append, Nat.zero_add, ← Nat.zero_add (B + D)]
    have := kby_split ts 0 (B + D) (ts.length - (B + D))
    rw [show B + D + (ts.length - (B + D)) = ts.length by omega] at this
    rw [this]; simp
  rw [hP] at q1
  rw [hs1] at q2
  have HR : Hid (kby ts B D = (sv.data.extract P (P + (kby ts B D).length)).toList) := by
    unfold Hid
    rw [HSV.out]
    have h1 := kby_split ts 0 B D
    have h2 := kby_split ts 0 (B + D) (ts.length - (B + D))
    rw [show B + D + (ts.length - (B + D)) = ts.length by omega, h1] at h2
    simp only [Nat.zero_add] at h2
    rw [h2]
    simp [← hP]
  generalize (kby ts B D).length = M at *
  have g3 : (P : Int) + (M : Int) ≤ (sv.size : Int) := by omega
  clear hL1 hsz hs1 hs2 hP
  push_cast at q2
  go_quiet (fail)
  go_wp2
  go_ret
  refine ⟨ret_s ?_, below_drewN HW5.out nq⟩
  rw [HK.out, HR.out, Array.toArray_toList]
  apply ByteArray.ext
  simp
end Go.Proofs.YtijcfgeafgddkaaDoor
