import Derived.Test.YthdfccdkomfikaaDoorLy7
namespace Go.Proofs.YthdfccdkomfikaaDoor
open Go.ChangeShapes Go.WideShapes Go.ChangeAt Go.RowKit Go.Maps Go.WideMaps
set_option linter.unusedVariables false
set_option linter.unusedSimpArgs false

/-- a method as a value -/
def mv (f b : Nat) : Value := .func (Fn.func f) #[.pointer (some ⟨b, 0, none⟩)] #[]
/-- the table of what may begin at a byte -/
def sts (b : Nat) : Array Value := #[mv 18 b, mv 19 b, mv 20 b, mv 21 b, mv 22 b, mv 23 b, mv 24 b, mv 25 b, mv 26 b, mv 27 b, mv 28 b, mv 29 b]

theorem ownsMap_below {P : Program} {k : TypeId} {R : Value → Option (DataW Unit × List MemPlace)} {b n B : Nat} {D : DataW Unit} {w w' : World} (h : w.ownsMap P k R b n D) (hb : Below B w w') (hB : b < B) : w'.ownsMap P k R b n D := by
  obtain ⟨es, clock, h1, h2, h3, h4⟩ := h
  exact ⟨es, clock, (hb.block b hB).trans h1, h2, h3, h4⟩
theorem ownsMap_lt {P : Program} {k : TypeId} {R : Value → Option (DataW Unit × List MemPlace)} {b n : Nat} {D : DataW Unit} {w : World} (h : w.ownsMap P k R b n D) : b < w.heap.size := by
  obtain ⟨es, clock, h1, _⟩ := h
  exact lt_of_block h1

set_option maxRecDepth 1000000 in
set_option maxHeartbeats 4000000 in
theorem newScanner_any (s : ByteArray) (w : World) (hS : Spl w) :
    Calls Tryd.prog 12 #[.string s] w fun e w' => ∃ b, w.heap.size < b ∧ e = .returned (.pointer (some ⟨b, 0, none⟩)) ∧ Bx w' b #[.string s, .slice (some ⟨b + 1, 0, none⟩) 6 6, .map (some w.heap.size), .int .u32 0, .int .i32 0, .int .u32 0, .pointer none] 63 ∧ Bx w' (b + 1) (sts b) 66 ∧ w'.ownsMap Tryd.prog 9 (plainElem (H := Unit) Tryd.prog 29) w.heap.size 25 (KW 25) ∧ Below w.heap.size w w' := by
  have hmf : ∀ (fn : Fn) (first cap : Array Value) (w : World), (Instr.makeFunc fn first cap).run Tryd.prog w = .ok (.func fn first cap) w := fun _ _ _ _ => rfl
  have HK : Hid (Calls Tryd.prog 17 #[] w fun e w' => e = .returned (.map (some w.heap.size)) ∧ w'.ownsMap Tryd.prog 9 (plainElem (H := Unit) Tryd.prog 29) w.heap.size 25 (KW 25) ∧ Below w.heap.size w w') := keywords_any w hS
  clear hS
  go_enter Tryd.func12, Tryd.ntmps12
  go_wp2_with (go_at_call 17; (with_reducible refine HK.out.mono ?_); rintro e w1 ⟨rfl, ho1, hb1⟩; have HO1 : Hid (w1.ownsMap Tryd.prog 9 (plainElem (H := Unit) Tryd.prog 29) w.heap.size 25 (KW 25)) := ho1; have HB1 : Hid (Below w.heap.size w w1) := hb1; clear ho1 hb1)
  have hlt := ownsMap_lt HO1.out
  obtain ⟨w2, e2, hw, hs2, B0, B1⟩ := bx2 w1 #[.string s, .slice (some ⟨w1.heap.size + 1, 0, none⟩) 6 6, .map (some w.heap.size), .int .u32 0, .int .i32 0, .int .u32 0, .pointer none] (sts w1.heap.size) 63 66
  go_ret
  refine ⟨w1.heap.size, hlt, rfl, ?_⟩
  show _ ∧ _ ∧ _ ∧ _
  rw [← show _ = w2 from e2] at hw B0 B1
  exact ⟨B0, B1, ownsMap_below HO1.out hw hlt, HB1.out.trans (hw.mono HB1.out.size)⟩
end Go.Proofs.YthdfccdkomfikaaDoor
