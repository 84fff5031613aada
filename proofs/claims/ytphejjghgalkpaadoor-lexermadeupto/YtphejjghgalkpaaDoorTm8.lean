import Derived.Test.YtphejjghgalkpaaDoorRs4
namespace Go.Proofs.YtphejjghgalkpaaDoor
open Go.ChangeShapes Go.WideShapes Go.ChangeAt Go.RowKit Go.Maps Go.WideMaps
set_option linter.unusedVariables false
set_option linter.unusedSimpArgs false

theorem fz_set {w : World} {a c : Addr} {v : Value} (h : w.frozen? c = false) : (w.setCell a v).frozen? c = false := by simp [h]
theorem ne_off {b i j : Nat} (h : i ≠ j) : (⟨b, i, none⟩ : Addr) ≠ ⟨b, j, none⟩ := by intro e; exact h (congrArg Addr.off e)
theorem set_other {w : World} {b i j : Nat} {v : Value} (h : i ≠ j) : (w.setCell ⟨b, i, none⟩ v).cell? ⟨b, j, none⟩ = w.cell? ⟨b, j, none⟩ := World.cell?_setCell_other _ ⟨b, i, none⟩ ⟨b, j, none⟩ _ (fun e => ne_off h e)
/-- what is made the first time -/
def Made (b : Nat) (w w' : World) : Prop := ∃ w1, (∃ A V, A 0 = w.heap.size ∧ Tre w1 w.heap.size (mkT 48) A V) ∧ Below w.heap.size (w.setCell ⟨b, 4, none⟩ (.int .i32 1)) w1 ∧ w' = ((w1.setCell ⟨b, 6, none⟩ (.pointer (some ⟨w.heap.size, 0, none⟩))).drew.setCell ⟨b, 3, none⟩ (.int .u32 1)).setCell ⟨b, 4, none⟩ (.int .i32 0)

set_option maxRecDepth 1000000 in
set_option maxHeartbeats 8000000 in
theorem slow_any (b : Nat) (pl : Addr) (hpb : pl.block ≠ b) (x6 : Value) (w : World) (hS : Spl w) (hgb : 0 ≠ b) (hpl : pl.block < w.heap.size) (hbl : b < w.heap.size) (hp : w.cell? pl = some (.pointer (some ⟨b, 0, none⟩)))
    (h3 : w.cell? ⟨b, 3, none⟩ = some (.int .u32 0)) (h4 : w.cell? ⟨b, 4, none⟩ = some (.int .i32 0)) (h6 : w.cell? ⟨b, 6, none⟩ = some x6)
    (f3 : w.frozen? ⟨b, 3, none⟩ = false) (f4 : w.frozen? ⟨b, 4, none⟩ = false) (f6 : w.frozen? ⟨b, 6, none⟩ = false) :
    Calls Tryd.prog 75 #[.pointer (some ⟨b, 3, none⟩), .func (.func 65) #[] #[.pointer (some pl)]] w fun e w' => e = .returned (.tuple #[]) ∧ Made b w w' := by
  obtain ⟨w0, e0⟩ : ∃ w0, w.setCell ⟨b, 4, none⟩ (.int .i32 1) = w0 := ⟨_, rfl⟩
  have hz0 : w0.heap.size = w.heap.size := by rw [← e0]; simp
  have c3 : w0.cell? ⟨b, 3, none⟩ = some (.int .u32 0) := by rw [← e0, set_other (by decide)]; exact h3
  have c4 : w0.cell? ⟨b, 4, none⟩ = some (.int .i32 1) := by rw [← e0]; exact World.cell?_setCell_same w _ _ h4
  have c6 : w0.cell? ⟨b, 6, none⟩ = some x6 := by rw [← e0, set_other (by decide)]; exact h6
  have cp : w0.cell? pl = some (.pointer (some ⟨b, 0, none⟩)) := by rw [← e0, World.cell?_setCell_other _ _ _ _ (fun e => hpb (by rw [← e]))]; exact hp
  have z3 : w0.frozen? ⟨b, 3, none⟩ = false := by rw [← e0]; exact fz_set f3
  have z4 : w0.frozen? ⟨b, 4, none⟩ = false := by rw [← e0]; exact fz_set f4
  have z6 : w0.frozen? ⟨b, 6, none⟩ = false := by rw [← e0]; exact fz_set f6
  have hS0 : Spl w0 := by
    refine ⟨by rw [hz0]; exact hS.1, fun i hi => ?_⟩
    rw [← e0, World.cell?_setCell_other _ _ _ _ (fun e => hgb (by have := congrArg Addr.block e; exact this.symm))]
    exact hS.2 i hi
  have HT : Hid (Calls Tryd.prog 65 #[.pointer (some pl)] w0 fun e w' => ∃ w1, e = .returned (.tuple #[]) ∧ (∃ A V, A 0 = w0.heap.size ∧ Tre w1 w0.heap.size (mkT 48) A V) ∧ Below w0.heap.size w0 w1 ∧ w' = w1.setCell ⟨b, 6, none⟩ (.pointer (some ⟨w0.heap.size, 0, none⟩))) := tree1_any b pl x6 w0 hS0 (by omega) (by omega) cp c6 z6
  rw [hz0] at HT
  have HE0 : Hid (w.setCell ⟨b, 4, none⟩ (.int .i32 1) = w0) := e0
  have HL : Hid (Calls Tryd.prog 84 #[.pointer (some ⟨b, 4, none⟩)] w fun e w' => e = .returned (.tuple #[]) ∧ w' = w0) := by
    have := o_lock ⟨b, 4, none⟩ w h4 f4
    rw [e0] at this
    exact this
  have hl := run_call_load (P := Tryd.prog) Tryd.func83 (by kernel_rfl) (by kernel_rfl) (by kernel_rfl) .u32 (by kernel_rfl) (w := w0) (a := ⟨b, 3, none⟩) (x := 0) c3
  have hnot : ∀ (x : Bool) (w : World), (Op.unary .not (.bool x)).run Tryd.prog w = .ok (.bool (!x)) w := fun _ _ => rfl
  have HZ : Hid (b < w0.heap.size) := by unfold Hid; omega
  clear hS hS0 hp h3 h4 h6 f3 f4 f6 cp e0
  go_enter_defers Tryd.func75, Tryd.ntmps75
  go_wp2_with (first
    | (go_at_call 84; (with_reducible refine HL.out.mono ?_); rintro e w3 ⟨rfl, hw3⟩; subst hw3)
    | (go_at_call 74; go_in)
    | (go_at_call 65; (with_reducible refine HT.out.mono ?_); rintro e w5 ⟨w1, rfl, ht1, hb1, rfl⟩))
  have d3 : w1.cell? ⟨b, 3, none⟩ = some (.int .u32 0) := (hb1.cell (p := ⟨b, 3, none⟩) hbl).trans c3
  have d4 : w1.cell? ⟨b, 4, none⟩ = some (.int .i32 1) := (hb1.cell (p := ⟨b, 4, none⟩) hbl).trans c4
  have g3 : w1.frozen? ⟨b, 3, none⟩ = false := (World.frozen?_of_block (a := ⟨b, 3, none⟩) (hb1.block b hbl)).trans z3
  have g4 : w1.frozen? ⟨b, 4, none⟩ = false := (World.frozen?_of_block (a := ⟨b, 4, none⟩) (hb1.block b hbl)).trans z4
  have HM : Hid (Made b w (((w1.setCell ⟨b, 6, none⟩ (.pointer (some ⟨w.heap.size, 0, none⟩))).drew.setCell ⟨b, 3, none⟩ (.int .u32 1)).setCell ⟨b, 4, none⟩ (.int .i32 0))) := ⟨w1, ht1, by rw [HE0.out]; exact hb1, rfl⟩
  clear ht1 hb1 HT HL hl
  first | go_end0 | skip
  refine leaves_cons (f := 86) (args := #[.pointer (some ⟨b, 3, none⟩), .bool true]) (by simp) (by simp [go_sem]) ?_
  refine (o_store ⟨b, 3, none⟩ (.int .u32 0) .returning _ ?_ (by simp [g3])).mono ?_
  · exact (set_other (by decide)).trans d3
  rintro e u' w'' ⟨rfl, rfl, rfl⟩
  refine leaves_cons (f := 85) (args := #[.pointer (some ⟨b, 4, none⟩)]) (by simp [settle]) (by simp [go_sem]) ?_
  refine (o_unlock ⟨b, 4, none⟩ _ _ ?_ (by simp [g4])).mono ?_
  · refine (set_other (by decide)).trans ?_
    rw [World.cell?_drew]
    exact (set_other (by decide)).trans d4
  rintro e u' w'' ⟨rfl, rfl, rfl⟩
  simp [Leaves, settle, results, Tryd.results75]
  exact HM.out

set_option maxRecDepth 1000000 in
set_option maxHeartbeats 8000000 in
theorem do_first (b : Nat) (pl : Addr) (hpb : pl.block ≠ b) (x6 : Value) (w : World) (hS : Spl w) (hgb : 0 ≠ b) (hpl : pl.block < w.heap.size) (hbl : b < w.heap.size) (hp : w.cell? pl = some (.pointer (some ⟨b, 0, none⟩)))
    (h3 : w.cell? ⟨b, 3, none⟩ = some (.int .u32 0)) (h4 : w.cell? ⟨b, 4, none⟩ = some (.int .i32 0)) (h6 : w.cell? ⟨b, 6, none⟩ = some x6)
    (f3 : w.frozen? ⟨b, 3, none⟩ = false) (f4 : w.frozen? ⟨b, 4, none⟩ = false) (f6 : w.frozen? ⟨b, 6, none⟩ = false) :
    Calls Tryd.prog 64 #[.pointer (some ⟨b, 3, none⟩), .func (.func 65) #[] #[.pointer (some pl)]] w fun e w' => e = .returned (.tuple #[]) ∧ Made b w w' := by
  have HSL : Hid (Calls Tryd.prog 75 #[.pointer (some ⟨b, 3, none⟩), .func (.func 65) #[] #[.pointer (some pl)]] w fun e w' => e = .returned (.tuple #[]) ∧ Made b w w') := slow_any b pl hpb x6 w hS hgb hpl hbl hp h3 h4 h6 f3 f4 f6
  have hl := run_call_load (P := Tryd.prog) Tryd.func83 (by kernel_rfl) (by kernel_rfl) (by kernel_rfl) .u32 (by kernel_rfl) h3
  have hnot : ∀ (x : Bool) (w : World), (Op.unary .not (.bool x)).run Tryd.prog w = .ok (.bool (!x)) w := fun _ _ => rfl
  clear hS
  go_enter Tryd.func64, Tryd.ntmps64
  go_wp2_with (first | (go_at_call 75; (with_reducible refine HSL.out.mono ?_); rintro e w' ⟨rfl, hm⟩) | (go_at_call 74; go_in))
  go_end0
  exact ⟨rfl, hm⟩

set_option maxRecDepth 1000000 in
set_option maxHeartbeats 4000000 in
theorem do_done (b : Nat) (fv : Value) (w : World) (h0 : w.cell? ⟨b, 3, none⟩ = some (.int .u32 1)) :
    Calls Tryd.prog 64 #[.pointer (some ⟨b, 3, none⟩), fv] w fun e w' => e = .returned (.tuple #[]) ∧ w' = w := by
  have hl := run_call_load (P := Tryd.prog) Tryd.func83 (by kernel_rfl) (by kernel_rfl) (by kernel_rfl) .u32 (by kernel_rfl) h0
  have hnot : ∀ (x : Bool) (w : World), (Op.unary .not (.bool x)).run Tryd.prog w = .ok (.bool (!x)) w := fun _ _ => rfl
  go_enter Tryd.func64, Tryd.ntmps64
  go_wp2
  go_end0
  exact ⟨rfl, rfl⟩
end Go.Proofs.YtphejjghgalkpaaDoor
