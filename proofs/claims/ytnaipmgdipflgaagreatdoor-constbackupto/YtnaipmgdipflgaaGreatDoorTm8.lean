import Derived.Test.YtnaipmgdipflgaaGreatDoorRlE
import Derived.Tactics
import Derived.Tactics2
import Derived.Defers
import Derived.Laws.Pointers
import Derived.Laws.LoneSync
import Derived.RegionTactic
import Derived.RegionCalls
import Derived.ChangeAlike
import Derived.Laws.NewBlocks
import Derived.Laws.EntriesVeiled
namespace Go.Proofs.YtnaipmgdipflgaaGreatDoor
open Go.ChangeShapes Go.WideShapes Go.ChangeAt Go.RowKit Go.Maps Go.WideMaps
set_option linter.unusedVariables false
set_option linter.unusedSimpArgs false

theorem o_disable (w : World) : (callFunc 158 #[]).run Tryz.prog w = .ok (.value (.tuple #[])) w := run_call_mark0 Tryz.func158 (by kernel_rfl) (by kernel_rfl) (by kernel_rfl) .disable (by kernel_rfl) w
theorem o_enable (w : World) : (callFunc 160 #[]).run Tryz.prog w = .ok (.value (.tuple #[])) w := run_call_mark0 Tryz.func160 (by kernel_rfl) (by kernel_rfl) (by kernel_rfl) .enable (by kernel_rfl) w
theorem o_acquire (a : Addr) (w : World) : (callFunc 161 #[.pointer (some a)]).run Tryz.prog w = .ok (.value (.tuple #[])) w := run_call_marked Tryz.func161 (by kernel_rfl) (by kernel_rfl) (by kernel_rfl) .acquire (by kernel_rfl) a w
theorem o_release (a : Addr) (w : World) : (callFunc 163 #[.pointer (some a)]).run Tryz.prog w = .ok (.value (.tuple #[])) w := run_call_marked Tryz.func163 (by kernel_rfl) (by kernel_rfl) (by kernel_rfl) .releaseMerge (by kernel_rfl) a w

/-- done is stored, as a deferred call -/
theorem o_store (a : Addr) (x : Value) (u : FrameMode) (w : World) (hc : w.cell? a = some x) (hz : w.frozen? a = false) :
    CallsD Tryz.prog 153 #[.pointer (some a), .bool true] u w fun e u' w' => u' = u ∧ (e = .returned (.tuple #[]) ∧ w' = w.drew.setCell a (.int .u32 1)) := by
  have hc' : w.drew.cell? a = some x := by go_simp
  have hz' : w.drew.frozen? a = false := by go_simp
  have hst := run_call_store (P := Tryz.prog) Tryz.func156 (by kernel_rfl) (by kernel_rfl) (by kernel_rfl) (by kernel_rfl) (k := .u32) (y := 1) hc' hz'
  go_enter_d Tryz.func153, Tryz.ntmps153
  go_wp2
  go_region_calls
  all_goals (go_end0; exact ⟨rfl, rfl⟩)
set_option maxRecDepth 1000000 in
set_option maxHeartbeats 4000000 in
/-- the lock is let go, as a deferred call -/
theorem o_unlock (a : Addr) (u : FrameMode) (w : World) (hc : w.cell? a = some (.int .i32 1)) (hz : w.frozen? a = false) :
    CallsD Tryz.prog 152 #[.pointer (some a)] u w fun e u' w' => u' = u ∧ (e = .returned (.tuple #[]) ∧ w' = w.setCell a (.int .i32 0)) := by
  have hd := o_disable
  have he := o_enable
  have hr := o_release
  have hadd := run_call_add (P := Tryz.prog) Tryz.func164 (by kernel_rfl) (by kernel_rfl) (by kernel_rfl) .i32 (by kernel_rfl) (y := -1) (s := 0) hc hz (by simp [go_sem]; rfl)
  have hcv := run_convert_to_unsafe (P := Tryz.prog) (src := 210) (dst := 214) Tryz.underlying210 Tryz.underlying214 (by kernel_rfl) hc
  go_enter_d Tryz.func152, Tryz.ntmps152
  go_wp2
  go_end0
  go_wp2
set_option maxRecDepth 1000000 in
set_option maxHeartbeats 4000000 in
/-- the lock is taken -/
theorem o_lock (a : Addr) (w : World) (hc : w.cell? a = some (.int .i32 0)) (hz : w.frozen? a = false) :
    Calls Tryz.prog 151 #[.pointer (some a)] w fun e w' => e = .returned (.tuple #[]) ∧ w' = w.setCell a (.int .i32 1) := by
  have hd := o_disable
  have he := o_enable
  have ha := o_acquire
  have hcas := run_call_cas_hit (P := Tryz.prog) Tryz.func159 (by kernel_rfl) (by kernel_rfl) (by kernel_rfl) .i32 (by kernel_rfl) (y := 1) hc hz
  have hc' : (w.setCell a (.int .i32 1)).cell? a = some (.int .i32 1) := World.cell?_setCell_same w a _ hc
  have hcv := run_convert_to_unsafe (P := Tryz.prog) (src := 210) (dst := 214) Tryz.underlying210 Tryz.underlying214 (by kernel_rfl) hc'
  go_enter Tryz.func151, Tryz.ntmps151
  go_wp2
  first | go_end0 | (simp only [Exit.inBlock, Exit.then]; refine bodyPost_ret (results_none rfl _ _ _) rfl ?_) | refine bodyPost_ret (results_none rfl _ _ _) rfl ?_
  go_wp2
end Go.Proofs.YtnaipmgdipflgaaGreatDoor

namespace Go.Proofs.YtnaipmgdipflgaaGreatDoor
open Go.ChangeShapes Go.WideShapes Go.ChangeAt Go.RowKit Go.Maps Go.WideMaps
set_option linter.unusedVariables false
set_option linter.unusedSimpArgs false

set_option maxRecDepth 1000000 in
set_option maxHeartbeats 4000000 in
/-- the tree is made and kept -/
theorem tree1_any (b : Nat) (pl : Addr) (x6 : Value) (w : World) (hS : Spl w) (hpl : pl.block < w.heap.size) (hbl : b < w.heap.size) (hp : w.cell? pl = some (.pointer (some ⟨b, 0, none⟩))) (h6 : w.cell? ⟨b, 6, none⟩ = some x6) (f6 : w.frozen? ⟨b, 6, none⟩ = false) :
    Calls Tryz.prog 138 #[.pointer (some pl)] w fun e w' => ∃ w1, e = .returned (.tuple #[]) ∧ (∃ A V, A 0 = w.heap.size ∧ Tre w1 w.heap.size (mkT 48) A V) ∧ Below w.heap.size w w1 ∧ w' = w1.setCell ⟨b, 6, none⟩ (.pointer (some ⟨w.heap.size, 0, none⟩)) := by
  have HM : Hid (Calls Tryz.prog 139 #[] w.drew fun e w' => e = .returned (.pointer (some ⟨w.heap.size, 0, none⟩)) ∧ (∃ A V, A 0 = w.heap.size ∧ Tre w' w.heap.size (mkT 48) A V) ∧ Below w.heap.size w w') := by
    have hd : Below w.heap.size w w.drew := (Below.refl _ w).drew
    refine (markTree_any w.drew (hS.below hd)).mono fun e w' h => ?_
    obtain ⟨A, V, rfl, hA, ht, hb⟩ := h
    have hA' : A 0 = w.heap.size := hA
    exact ⟨by unfold ptrT; rw [hA'], ⟨A, V, hA, ht⟩, hd.trans hb⟩
  have HC : Hid (∀ v, Below w.heap.size w v → v.cell? pl = some (.pointer (some ⟨b, 0, none⟩)) ∧ v.cell? ⟨b, 6, none⟩ = some x6 ∧ v.frozen? ⟨b, 6, none⟩ = false ∧ b < v.heap.size ∧ pl.block < v.heap.size) := fun v hv =>
    ⟨(hv.cell hpl).trans hp, (hv.cell (p := ⟨b, 6, none⟩) hbl).trans h6, (World.frozen?_of_block (a := ⟨b, 6, none⟩) (hv.block b hbl)).trans f6, by have := hv.size; omega, by have := hv.size; omega⟩
  clear hS
  go_enter Tryz.func138, Tryz.ntmps138
  go_region_with (go_at_call 139; (with_reducible refine HM.out.mono ?_); rintro e w1 ⟨rfl, ht1, hb1⟩; obtain ⟨q0, q6, g6, qb, qp⟩ := HC.out w1 hb1; have HT1 : Hid (∃ A V, A 0 = w.heap.size ∧ Tre w1 w.heap.size (mkT 48) A V) := ht1; have HB1 : Hid (Below w.heap.size w w1) := hb1; clear ht1 hb1)
  all_goals
    go_wp2
    go_end0
    exact ⟨_, ⟨rfl, HT1.out, HB1.out, rfl⟩⟩
end Go.Proofs.YtnaipmgdipflgaaGreatDoor

namespace Go.Proofs.YtnaipmgdipflgaaGreatDoor
open Go.ChangeShapes Go.WideShapes Go.ChangeAt Go.RowKit Go.Maps Go.WideMaps
set_option linter.unusedVariables false
set_option linter.unusedSimpArgs false

theorem fz_set {w : World} {a c : Addr} {v : Value} (h : w.frozen? c = false) : (w.setCell a v).frozen? c = false := by simp [h]
theorem ne_off {b i j : Nat} (h : i ≠ j) : (⟨b, i, none⟩ : Addr) ≠ ⟨b, j, none⟩ := by intro e; exact h (congrArg Addr.off e)
theorem set_other {w : World} {b i j : Nat} {v : Value} (h : i ≠ j) : (w.setCell ⟨b, i, none⟩ v).cell? ⟨b, j, none⟩ = w.cell? ⟨b, j, none⟩ := World.cell?_setCell_other _ ⟨b, i, none⟩ ⟨b, j, none⟩ _ (fun e => ne_off h e)
/-- what is made the first time -/
def Made (b : Nat) (w w' : World) : Prop := ∃ w1, (∃ A V, A 0 = w.heap.size ∧ Tre w1 w.heap.size (mkT 48) A V) ∧ Below w.heap.size (w.setCell ⟨b, 4, none⟩ (.int .i32 1)) w1 ∧ w' = ((w1.setCell ⟨b, 6, none⟩ (.pointer (some ⟨w.heap.size, 0, none⟩))).drew.setCell ⟨b, 3, none⟩ (.int .u32 1)).setCell ⟨b, 4, none⟩ (.int .i32 0)

set_option maxRecDepth 1000000 in
set_option maxHeartbeats 8000000 in
theorem slow_any (b : Nat) (pl : Addr) (hpb : pl.block ≠ b) (x6 : Value) (w : World) (hS : Spl w) (hgb : 3 ≠ b) (hpl : pl.block < w.heap.size) (hbl : b < w.heap.size) (hp : w.cell? pl = some (.pointer (some ⟨b, 0, none⟩)))
    (h3 : w.cell? ⟨b, 3, none⟩ = some (.int .u32 0)) (h4 : w.cell? ⟨b, 4, none⟩ = some (.int .i32 0)) (h6 : w.cell? ⟨b, 6, none⟩ = some x6)
    (f3 : w.frozen? ⟨b, 3, none⟩ = false) (f4 : w.frozen? ⟨b, 4, none⟩ = false) (f6 : w.frozen? ⟨b, 6, none⟩ = false) :
    Calls Tryz.prog 147 #[.pointer (some ⟨b, 3, none⟩), .func (.func 138) #[] #[.pointer (some pl)]] w fun e w' => e = .returned (.tuple #[]) ∧ Made b w w' := by
  obtain ⟨w0, e0⟩ : ∃ w0, w.setCell ⟨b, 4, none⟩ (.int .i32 1) = w0 := ⟨_, rfl⟩
  have hz0 : w0.heap.size = w.heap.size := by rw [← e0]; simp
  have c3 : w0.cell? ⟨b, 3, none⟩ = some (.int .u32 0) := by rw [← e0, set_other (by decide)]; exact h3
  have c4 : w0.cell? ⟨b, 4, none⟩ = some (.int .i32 1) := by rw [← e0]; exact World.cell?_setCell_same w _ _ h4
  have c6 : w0.cell? ⟨b, 6, none⟩ = some x6 := by rw [← e0, set_other (by decide)]; exact h6
  have cp : w0.cell? pl = some (.pointer (some ⟨b, 0, none⟩)) := by rw [← e0, World.cell?_setCell_other _ _ _ _ (fun e => hpb (by rw [← e]))]; exact hp
  have z3 : w0.frozen? ⟨b, 3, none⟩ = false := by rw [← e0]; exact fz_set f3
  have z4 : w0.frozen? ⟨b, 4, none⟩ = false := by rw [← e0]; exact fz_set f4
  have z6 : w0.frozen? ⟨b, 6, none⟩ = false := by rw [← e0]; exact fz_set f6
  have hS0 : Spl w0 := by
    refine ⟨by rw [hz0]; exact hS.1, fun i hi => ?_⟩
    rw [← e0, World.cell?_setCell_other _ _ _ _ (fun e => hgb (by have := congrArg Addr.block e; exact this.symm))]
    exact hS.2 i hi
  have HT : Hid (Calls Tryz.prog 138 #[.pointer (some pl)] w0 fun e w' => ∃ w1, e = .returned (.tuple #[]) ∧ (∃ A V, A 0 = w0.heap.size ∧ Tre w1 w0.heap.size (mkT 48) A V) ∧ Below w0.heap.size w0 w1 ∧ w' = w1.setCell ⟨b, 6, none⟩ (.pointer (some ⟨w0.heap.size, 0, none⟩))) := tree1_any b pl x6 w0 hS0 (by omega) (by omega) cp c6 z6
  rw [hz0] at HT
  have HE0 : Hid (w.setCell ⟨b, 4, none⟩ (.int .i32 1) = w0) := e0
  have HL : Hid (Calls Tryz.prog 151 #[.pointer (some ⟨b, 4, none⟩)] w fun e w' => e = .returned (.tuple #[]) ∧ w' = w0) := by
    have := o_lock ⟨b, 4, none⟩ w h4 f4
    rw [e0] at this
    exact this
  have hl := run_call_load (P := Tryz.prog) Tryz.func150 (by kernel_rfl) (by kernel_rfl) (by kernel_rfl) .u32 (by kernel_rfl) (w := w0) (a := ⟨b, 3, none⟩) (x := 0) c3
  have hnot : ∀ (x : Bool) (w : World), (Op.unary .not (.bool x)).run Tryz.prog w = .ok (.bool (!x)) w := fun _ _ => rfl
  have HZ : Hid (b < w0.heap.size) := by unfold Hid; omega
  clear hS hS0 hp h3 h4 h6 f3 f4 f6 cp e0
  go_enter_defers Tryz.func147, Tryz.ntmps147
  go_wp2_with (first
    | (go_at_call 151; (with_reducible refine HL.out.mono ?_); rintro e w3 ⟨rfl, hw3⟩; subst hw3)
    | (go_at_call 146; go_in)
    | (go_at_call 138; (with_reducible refine HT.out.mono ?_); rintro e w5 ⟨w1, rfl, ht1, hb1, rfl⟩))
  have d3 : w1.cell? ⟨b, 3, none⟩ = some (.int .u32 0) := (hb1.cell (p := ⟨b, 3, none⟩) hbl).trans c3
  have d4 : w1.cell? ⟨b, 4, none⟩ = some (.int .i32 1) := (hb1.cell (p := ⟨b, 4, none⟩) hbl).trans c4
  have g3 : w1.frozen? ⟨b, 3, none⟩ = false := (World.frozen?_of_block (a := ⟨b, 3, none⟩) (hb1.block b hbl)).trans z3
  have g4 : w1.frozen? ⟨b, 4, none⟩ = false := (World.frozen?_of_block (a := ⟨b, 4, none⟩) (hb1.block b hbl)).trans z4
  have HM : Hid (Made b w (((w1.setCell ⟨b, 6, none⟩ (.pointer (some ⟨w.heap.size, 0, none⟩))).drew.setCell ⟨b, 3, none⟩ (.int .u32 1)).setCell ⟨b, 4, none⟩ (.int .i32 0))) := ⟨w1, ht1, by rw [HE0.out]; exact hb1, rfl⟩
  clear ht1 hb1 HT HL hl
  first | go_end0 | skip
  refine leaves_cons (f := 153) (args := #[.pointer (some ⟨b, 3, none⟩), .bool true]) (by simp) (by simp [go_sem]) ?_
  refine (o_store ⟨b, 3, none⟩ (.int .u32 0) .returning _ ?_ (by simp [g3])).mono ?_
  · exact (set_other (by decide)).trans d3
  rintro e u' w'' ⟨rfl, rfl, rfl⟩
  refine leaves_cons (f := 152) (args := #[.pointer (some ⟨b, 4, none⟩)]) (by simp [settle]) (by simp [go_sem]) ?_
  refine (o_unlock ⟨b, 4, none⟩ _ _ ?_ (by simp [g4])).mono ?_
  · refine (set_other (by decide)).trans ?_
    rw [World.cell?_drew]
    exact (set_other (by decide)).trans d4
  rintro e u' w'' ⟨rfl, rfl, rfl⟩
  simp [Leaves, settle, results, Tryz.results147]
  exact HM.out

set_option maxRecDepth 1000000 in
set_option maxHeartbeats 8000000 in
theorem do_first (b : Nat) (pl : Addr) (hpb : pl.block ≠ b) (x6 : Value) (w : World) (hS : Spl w) (hgb : 3 ≠ b) (hpl : pl.block < w.heap.size) (hbl : b < w.heap.size) (hp : w.cell? pl = some (.pointer (some ⟨b, 0, none⟩)))
    (h3 : w.cell? ⟨b, 3, none⟩ = some (.int .u32 0)) (h4 : w.cell? ⟨b, 4, none⟩ = some (.int .i32 0)) (h6 : w.cell? ⟨b, 6, none⟩ = some x6)
    (f3 : w.frozen? ⟨b, 3, none⟩ = false) (f4 : w.frozen? ⟨b, 4, none⟩ = false) (f6 : w.frozen? ⟨b, 6, none⟩ = false) :
    Calls Tryz.prog 137 #[.pointer (some ⟨b, 3, none⟩), .func (.func 138) #[] #[.pointer (some pl)]] w fun e w' => e = .returned (.tuple #[]) ∧ Made b w w' := by
  have HSL : Hid (Calls Tryz.prog 147 #[.pointer (some ⟨b, 3, none⟩), .func (.func 138) #[] #[.pointer (some pl)]] w fun e w' => e = .returned (.tuple #[]) ∧ Made b w w') := slow_any b pl hpb x6 w hS hgb hpl hbl hp h3 h4 h6 f3 f4 f6
  have hl := run_call_load (P := Tryz.prog) Tryz.func150 (by kernel_rfl) (by kernel_rfl) (by kernel_rfl) .u32 (by kernel_rfl) h3
  have hnot : ∀ (x : Bool) (w : World), (Op.unary .not (.bool x)).run Tryz.prog w = .ok (.bool (!x)) w := fun _ _ => rfl
  clear hS
  go_enter Tryz.func137, Tryz.ntmps137
  go_wp2_with (first | (go_at_call 147; (with_reducible refine HSL.out.mono ?_); rintro e w' ⟨rfl, hm⟩) | (go_at_call 146; go_in))
  go_end0
  exact ⟨rfl, hm⟩

set_option maxRecDepth 1000000 in
set_option maxHeartbeats 4000000 in
theorem do_done (b : Nat) (fv : Value) (w : World) (h0 : w.cell? ⟨b, 3, none⟩ = some (.int .u32 1)) :
    Calls Tryz.prog 137 #[.pointer (some ⟨b, 3, none⟩), fv] w fun e w' => e = .returned (.tuple #[]) ∧ w' = w := by
  have hl := run_call_load (P := Tryz.prog) Tryz.func150 (by kernel_rfl) (by kernel_rfl) (by kernel_rfl) .u32 (by kernel_rfl) h0
  have hnot : ∀ (x : Bool) (w : World), (Op.unary .not (.bool x)).run Tryz.prog w = .ok (.bool (!x)) w := fun _ _ => rfl
  go_enter Tryz.func137, Tryz.ntmps137
  go_wp2
  go_end0
  exact ⟨rfl, rfl⟩
end Go.Proofs.YtnaipmgdipflgaaGreatDoor
