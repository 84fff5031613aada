import Derived.Test.YtijcfgeafgddkaaDoorSa2
import Derived.Test.YtijcfgeafgddkaaDoorVl
namespace Go.Proofs.YtijcfgeafgddkaaDoor
open Go.ChangeShapes Go.WideShapes Go.ChangeAt Go.RowKit
set_option linter.unusedVariables false

set_option maxRecDepth 1000000 in
set_option maxHeartbeats 1000000 in
/-- what is no tree is not valid -/
theorem valid_no (a : Option Addr) (cap : Nat) (ns : List Nd) (c : Int) (w : World) (h : LiesA w a ns) (hl : ns.length * 32 ≤ 140737488351232) (hf : ∀ e ∈ ns, NdFit e) (hsh : shB ns = false) :
    Calls Tryd.prog 8 #[.agg #[.slice a ns.length cap], .int .i64 c] w fun e w' => e = .returned (.bool false) ∧ Below w.heap.size w w' := by
  have H : Hid (LiesA w a ns) := h
  have HFT : Hid (∀ e ∈ ns, NdFit e) := hf
  obtain ⟨w3, e3, b3, s3, x1, x2⟩ := bx2 w #[.slice a ns.length cap] #[.int .i64 c] 25 3
  have HE3 : Hid ((w.alloc (.cells #[.slice a ns.length cap] 25)).alloc (.cells #[.int .i64 c] 3) = w3) := e3
  have HB3 : Hid (Below w.heap.size w w3) := b3
  have q1 := x1.one
  have HSH : Hid (shB ns = false) := hsh
  clear h hf e3 b3 s3 x1 x2 hsh
  go_enter Tryd.func8, Tryd.ntmps8
  go_upto_region 1 with fail
  rw [HE3.out]
  go_wp2_with (go_at_call 11; refine (nested_any _ cap ns _ (H.out.below HB3.out) hl HFT.out).mono ?_; rintro e wn ⟨rfl, hwn⟩; rw [HSH.out]; have HWN : Hid (Below w3.heap.size w3 wn) := hwn; clear hwn)
  go_ret
  exact ⟨rfl, HB3.out.trans (HWN.out.mono HB3.out.size)⟩

/-- a forest as it is handed on -/
def fo (s : ByteArray) (a1 : Option Addr) (c1 : Nat) (ts : List Tk) (a2 : Option Addr) (c2 : Nat) (ns : List Nd) : Value := .agg #[.string s, .slice a1 ts.length c1, .slice a2 ns.length c2]
set_option maxRecDepth 1000000 in
set_option maxHeartbeats 1000000 in
theorem same1_any (s1 s2 : ByteArray) (a1 a2 a3 a4 : Option Addr) (c1 c2 c3 c4 : Nat) (ts us : List Tk) (ns ms : List Nd) (w : World) (h1 : LiesA w a1 ts) (h2 : LiesA w a2 ns) (h3 : LiesA w a3 us) (h4 : LiesA w a4 ms)
    (hl1 : ts.length * 24 ≤ 140737488351232) (hl2 : ns.length * 32 ≤ 140737488351232) (hl3 : us.length * 24 ≤ 140737488351232) (hl4 : ms.length * 32 ≤ 140737488351232)
    (hf1 : ∀ e ∈ ts, TkFit e) (hf2 : ∀ e ∈ ns, NdFit e) (hf3 : ∀ e ∈ us, TkFit e) (hf4 : ∀ e ∈ ms, NdFit e) :
    Calls Tryd.prog 4 #[.agg #[.string s1, .slice a1 ts.length c1, .slice a2 ns.length c2], .agg #[.string s2, .slice a3 us.length c3, .slice a4 ms.length c4]] w fun e w' => e = .returned (.bool (samB ts us ns ms)) ∧ Below w.heap.size w w' := by
  obtain ⟨R, hR⟩ : ∃ R, samB ts us ns ms = R := ⟨_, rfl⟩
  have SA : Hid (∀ v, Below w.heap.size w v → Calls Tryd.prog 5 #[.slice a1 ts.length c1, .agg #[.slice a2 ns.length c2], .slice a3 us.length c3, .agg #[.slice a4 ms.length c4]] v fun e w' => e = .returned (.bool R) ∧ Below v.heap.size v w') := fun v hv => by
    rw [← hR]
    exact same_any a1 a2 a3 a4 c1 c2 c3 c4 ts us ns ms v (h1.below hv) (h2.below hv) (h3.below hv) (h4.below hv) hl1 hl2 hl3 hl4 hf1 hf2 hf3 hf4
  obtain ⟨w3, e3, b3, s3, x1, x2⟩ := bx2 w #[.string s1, .slice a1 ts.length c1, .slice a2 ns.length c2] #[.string s2, .slice a3 us.length c3, .slice a4 ms.length c4] 27 27
  have HE3 : Hid ((w.alloc (.cells #[.string s1, .slice a1 ts.length c1, .slice a2 ns.length c2] 27)).alloc (.cells #[.string s2, .slice a3 us.length c3, .slice a4 ms.length c4] 27) = w3) := e3
  have HB3 : Hid (Below w.heap.size w w3) := b3
  rw [hR]
  have p1 := x1.t1
  have p2 := x1.t2
  have q1 := x2.t1
  have q2 := x2.t2
  clear h1 h2 h3 h4 hf1 hf2 hf3 hf4 hR e3 b3 s3 x1 x2
  go_enter Tryd.func4, Tryd.ntmps4
  go_upto_region 1 with fail
  rw [HE3.out]
  go_wp2_with (go_at_call 5; (with_reducible refine (SA.out _ HB3.out).mono ?_); rintro e wn ⟨rfl, hwn⟩; have HWN : Hid (Below w3.heap.size w3 wn) := hwn; clear hwn)
  go_ret
  exact ⟨rfl, HB3.out.trans (HWN.out.mono HB3.out.size)⟩
end Go.Proofs.YtijcfgeafgddkaaDoor
