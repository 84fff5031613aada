import Derived.Test.YtlgddkkpngfmfaaDoorLye
namespace Go.Proofs.YtlgddkkpngfmfaaDoor
open Go.ChangeShapes Go.WideShapes Go.ChangeAt Go.RowKit Go.Maps Go.WideMaps
set_option linter.unusedVariables false
set_option linter.unusedSimpArgs false

set_option maxRecDepth 1000000 in
set_option maxHeartbeats 8000000 in
theorem Text_text (s : ByteArray) (hs : s.size ≤ 4294967280) (h0 : 0 < s.size) (hc : (s[0]'h0).toNat = 34) (hq : quP s 0 = .ok 5 s.size) (w : World) (hS : Spl w) (hT : Lt w) :
    Calls Tryd.prog 6 #[.string s] w fun e w' => e = .returned (.tuple #[.string ⟨(tvs s 1).toArray⟩, .int .i64 0]) ∧ Below w.heap.size w w' := by
  have HI : Hid (Calls Tryd.prog 14 #[.string s, .int .u8 5] w fun e w' => e = .returned (.bool true) ∧ Below w.heap.size w w') := isOf_text s hs h0 hc hq w hS hT
  have HV : Hid (∀ v, Below w.heap.size w v → Calls Tryd.prog 16 #[.string s] v fun e w' => e = .returned (.string ⟨(tvs s 1).toArray⟩) ∧ Below v.heap.size v w') := fun v hv => textValue_any s hs h0 v (hT.below hv).1
  have h0' : (0 : Int) < (s.size : Int) := by omega
  obtain ⟨V, hV⟩ : ∃ V : ByteArray, ⟨(tvs s 1).toArray⟩ = V := ⟨_, rfl⟩
  rw [hV] at HV ⊢
  clear hV hS hT
  go_enter Tryd.func6, Tryd.ntmps6
  go_wp2_with (first
    | (go_at_call 14; (with_reducible refine HI.out.mono ?_); rintro e w3 ⟨rfl, hb3⟩; have HB3 : Hid (Below w.heap.size w w3) := hb3; clear hb3)
    | (go_at_call 16; (with_reducible refine (HV.out _ HB3.out).mono ?_); rintro e w4 ⟨rfl, hb4⟩; have HB4 : Hid (Below w.heap.size w w4) := HB3.out.trans (hb4.mono HB3.out.size); clear hb4))
  go_ret2
  exact ⟨rfl, HB4.out⟩
end Go.Proofs.YtlgddkkpngfmfaaDoor
