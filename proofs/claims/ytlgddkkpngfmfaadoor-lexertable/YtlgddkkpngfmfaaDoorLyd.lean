import Derived.Test.YtlgddkkpngfmfaaDoorLyc
namespace Go.Proofs.YtlgddkkpngfmfaaDoor
open Go.ChangeShapes Go.WideShapes Go.ChangeAt Go.RowKit Go.Maps Go.WideMaps
set_option linter.unusedVariables false
set_option linter.unusedSimpArgs false

set_option maxRecDepth 1000000 in
set_option maxHeartbeats 8000000 in
theorem Kind_text (s : ByteArray) (hs : s.size ≤ 4294967280) (h0 : 0 < s.size) (hc : (s[0]'h0).toNat = 34) (hq : quP s 0 = .ok 5 s.size) (w : World) (hS : Spl w) (hT : Lt w) :
    Calls Tryd.prog 9 #[.string s] w fun e w' => e = .returned (.tuple #[.int .u8 5, .bool true]) ∧ Below w.heap.size w w' := by
  have HN := Scan_text s hs h0 hc hq w hS hT
  have HN' : Hid (Calls Tryd.prog 17 #[.string s] w fun e w' => ∃ a c, e = .returned (.tuple #[.slice a 2 c, .agg #[.int .i64 0, .int .i64 0, .int .i64 0]]) ∧ w'.ownsRow w.heap.size 46 3 (.slice a 2 c) 2 [.int .u8 5, .int .i64 0, .int .i64 (s.size : Int), .int .u8 6, .int .i64 (s.size : Int), .int .i64 (s.size : Int)] ∧ Below w.heap.size w w') := HN
  clear HN hS hT
  go_enter Tryd.func9, Tryd.ntmps9
  go_wp2_with (first
    | (go_at_call 17; (with_reducible refine HN'.out.mono ?_); rintro e w4 ⟨a4, c4, rfl, ho4, hb4⟩; have HB4 : Hid (Below w.heap.size w w4) := hb4; obtain ⟨g4, c4', hv4, hc4, hg4⟩ := own_cap ho4 (by decide); cases hv4; have d0 : w4.cell? ⟨g4, 0, none⟩ = some (.int .u8 5) := ho4.cells rfl 0 _ rfl; have d3 : w4.cell? ⟨g4, 3, none⟩ = some (.int .u8 6) := ho4.cells rfl 3 _ rfl; clear ho4 hb4)
    | (go_at_call 18; (with_reducible refine (isToken_text _).mono ?_); rintro e w5 ⟨rfl, hw5⟩; subst hw5))
  go_ret2
  exact ⟨rfl, HB4.out.alloc HB4.out.size _⟩
set_option maxRecDepth 1000000 in
set_option maxHeartbeats 8000000 in
theorem isOf_text (s : ByteArray) (hs : s.size ≤ 4294967280) (h0 : 0 < s.size) (hc : (s[0]'h0).toNat = 34) (hq : quP s 0 = .ok 5 s.size) (w : World) (hS : Spl w) (hT : Lt w) :
    Calls Tryd.prog 14 #[.string s, .int .u8 5] w fun e w' => e = .returned (.bool true) ∧ Below w.heap.size w w' := by
  have HN : Hid (Calls Tryd.prog 9 #[.string s] w fun e w' => e = .returned (.tuple #[.int .u8 5, .bool true]) ∧ Below w.heap.size w w') := Kind_text s hs h0 hc hq w hS hT
  clear hS hT
  go_enter Tryd.func14, Tryd.ntmps14
  go_wp2_with (go_at_call 9; (with_reducible refine HN.out.mono ?_); rintro e w4 ⟨rfl, hb4⟩)
  go_ret
  exact ⟨rfl, hb4⟩
end Go.Proofs.YtlgddkkpngfmfaaDoor
