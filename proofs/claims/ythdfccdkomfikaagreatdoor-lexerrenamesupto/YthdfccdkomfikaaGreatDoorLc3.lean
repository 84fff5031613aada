import Derived.Test.YthdfccdkomfikaaGreatDoorRlE
import Derived.Tactics
import Derived.Tactics2
import Derived.Defers
import Derived.Laws.Pointers
import Derived.Laws.LoneSync
import Derived.RegionTactic
import Derived.RegionCalls
import Derived.ChangeAlike
import Derived.Laws.NewBlocks
import Derived.Laws.EntriesVeiled
import Derived.Test.YthdfccdkomfikaaGreatDoorLc2
import Derived.Test.YthdfccdkomfikaaGreatDoorLmy
namespace Go.Proofs.YthdfccdkomfikaaGreatDoor
open Go.ChangeShapes Go.WideShapes Go.ChangeAt Go.RowKit Go.Maps Go.WideMaps
set_option linter.unusedVariables false
set_option linter.unusedSimpArgs false

theorem o_disable (w : World) : (callFunc 105 #[]).run Tryz.prog w = .ok (.value (.tuple #[])) w := run_call_mark0 Tryz.func105 (by kernel_rfl) (by kernel_rfl) (by kernel_rfl) .disable (by kernel_rfl) w
theorem o_enable (w : World) : (callFunc 107 #[]).run Tryz.prog w = .ok (.value (.tuple #[])) w := run_call_mark0 Tryz.func107 (by kernel_rfl) (by kernel_rfl) (by kernel_rfl) .enable (by kernel_rfl) w
theorem o_acquire (a : Addr) (w : World) : (callFunc 108 #[.pointer (some a)]).run Tryz.prog w = .ok (.value (.tuple #[])) w := run_call_marked Tryz.func108 (by kernel_rfl) (by kernel_rfl) (by kernel_rfl) .acquire (by kernel_rfl) a w
theorem o_release (a : Addr) (w : World) : (callFunc 110 #[.pointer (some a)]).run Tryz.prog w = .ok (.value (.tuple #[])) w := run_call_marked Tryz.func110 (by kernel_rfl) (by kernel_rfl) (by kernel_rfl) .releaseMerge (by kernel_rfl) a w

/-- done is stored, as a deferred call -/
theorem o_store (a : Addr) (x : Value) (u : FrameMode) (w : World) (hc : w.cell? a = some x) (hz : w.frozen? a = false) :
    CallsD Tryz.prog 98 #[.pointer (some a), .bool true] u w fun e u' w' => u' = u ∧ (e = .returned (.tuple #[]) ∧ w' = w.drew.setCell a (.int .u32 1)) := by
  have hc' : w.drew.cell? a = some x := by go_simp
  have hz' : w.drew.frozen? a = false := by go_simp
  have hst := run_call_store (P := Tryz.prog) Tryz.func103 (by kernel_rfl) (by kernel_rfl) (by kernel_rfl) (by kernel_rfl) (k := .u32) (y := 1) hc' hz'
  go_enter_d Tryz.func98, Tryz.ntmps98
  go_wp2
  go_region_calls
  all_goals (go_end0; exact ⟨rfl, rfl⟩)
set_option maxRecDepth 1000000 in
set_option maxHeartbeats 4000000 in
/-- the lock is let go, as a deferred call -/
theorem o_unlock (a : Addr) (u : FrameMode) (w : World) (hc : w.cell? a = some (.int .i32 1)) (hz : w.frozen? a = false) :
    CallsD Tryz.prog 97 #[.pointer (some a)] u w fun e u' w' => u' = u ∧ (e = .returned (.tuple #[]) ∧ w' = w.setCell a (.int .i32 0)) := by
  have hd := o_disable
  have he := o_enable
  have hr := o_release
  have hadd := run_call_add (P := Tryz.prog) Tryz.func111 (by kernel_rfl) (by kernel_rfl) (by kernel_rfl) .i32 (by kernel_rfl) (y := -1) (s := 0) hc hz (by simp [go_sem]; rfl)
  have hcv := run_convert_to_unsafe (P := Tryz.prog) (src := 151) (dst := 155) Tryz.underlying151 Tryz.underlying155 (by kernel_rfl) hc
  go_enter_d Tryz.func97, Tryz.ntmps97
  go_wp2
  go_end0
  go_wp2
set_option maxRecDepth 1000000 in
set_option maxHeartbeats 4000000 in
/-- the lock is taken -/
theorem o_lock (a : Addr) (w : World) (hc : w.cell? a = some (.int .i32 0)) (hz : w.frozen? a = false) :
    Calls Tryz.prog 96 #[.pointer (some a)] w fun e w' => e = .returned (.tuple #[]) ∧ w' = w.setCell a (.int .i32 1) := by
  have hd := o_disable
  have he := o_enable
  have ha := o_acquire
  have hcas := run_call_cas_hit (P := Tryz.prog) Tryz.func106 (by kernel_rfl) (by kernel_rfl) (by kernel_rfl) .i32 (by kernel_rfl) (y := 1) hc hz
  have hc' : (w.setCell a (.int .i32 1)).cell? a = some (.int .i32 1) := World.cell?_setCell_same w a _ hc
  have hcv := run_convert_to_unsafe (P := Tryz.prog) (src := 151) (dst := 155) Tryz.underlying151 Tryz.underlying155 (by kernel_rfl) hc'
  go_enter Tryz.func96, Tryz.ntmps96
  go_wp2
  first | go_end0 | (simp only [Exit.inBlock, Exit.then]; refine bodyPost_ret (results_none rfl _ _ _) rfl ?_) | refine bodyPost_ret (results_none rfl _ _ _) rfl ?_
  go_wp2
end Go.Proofs.YthdfccdkomfikaaGreatDoor

namespace Go.Proofs.YthdfccdkomfikaaGreatDoor
open Go.ChangeShapes Go.WideShapes Go.ChangeAt Go.RowKit Go.Maps Go.WideMaps
set_option linter.unusedVariables false
set_option linter.unusedSimpArgs false

set_option maxRecDepth 1000000 in
set_option maxHeartbeats 4000000 in
/-- the tree is made and kept -/
theorem tree1_any (b : Nat) (pl : Addr) (x6 : Value) (w : World) (hS : Spl w) (hpl : pl.block < w.heap.size) (hbl : b < w.heap.size) (hp : w.cell? pl = some (.pointer (some ⟨b, 0, none⟩))) (h6 : w.cell? ⟨b, 6, none⟩ = some x6) (f6 : w.frozen? ⟨b, 6, none⟩ = false) :
    Calls Tryz.prog 74 #[.pointer (some pl)] w fun e w' => ∃ w1, e = .returned (.tuple #[]) ∧ (∃ A V, A 0 = w.heap.size ∧ Tre w1 w.heap.size (mkT 48) A V) ∧ Below w.heap.size w w1 ∧ w' = w1.setCell ⟨b, 6, none⟩ (.pointer (some ⟨w.heap.size, 0, none⟩)) := by
  have HM : Hid (Calls Tryz.prog 75 #[] w.drew fun e w' => e = .returned (.pointer (some ⟨w.heap.size, 0, none⟩)) ∧ (∃ A V, A 0 = w.heap.size ∧ Tre w' w.heap.size (mkT 48) A V) ∧ Below w.heap.size w w') := by
    have hd : Below w.heap.size w w.drew := (Below.refl _ w).drew
    refine (markTree_any w.drew (hS.below hd)).mono fun e w' h => ?_
    obtain ⟨A, V, rfl, hA, ht, hb⟩ := h
    have hA' : A 0 = w.heap.size := hA
    exact ⟨by unfold ptrT; rw [hA'], ⟨A, V, hA, ht⟩, hd.trans hb⟩
  have HC : Hid (∀ v, Below w.heap.size w v → v.cell? pl = some (.pointer (some ⟨b, 0, none⟩)) ∧ v.cell? ⟨b, 6, none⟩ = some x6 ∧ v.frozen? ⟨b, 6, none⟩ = false ∧ b < v.heap.size ∧ pl.block < v.heap.size) := fun v hv =>
    ⟨(hv.cell hpl).trans hp, (hv.cell (p := ⟨b, 6, none⟩) hbl).trans h6, (World.frozen?_of_block (a := ⟨b, 6, none⟩) (hv.block b hbl)).trans f6, by have := hv.size; omega, by have := hv.size; omega⟩
  clear hS
  go_enter Tryz.func74, Tryz.ntmps74
  go_region_with (go_at_call 75; (with_reducible refine HM.out.mono ?_); rintro e w1 ⟨rfl, ht1, hb1⟩; obtain ⟨q0, q6, g6, qb, qp⟩ := HC.out w1 hb1; have HT1 : Hid (∃ A V, A 0 = w.heap.size ∧ Tre w1 w.heap.size (mkT 48) A V) := ht1; have HB1 : Hid (Below w.heap.size w w1) := hb1; clear ht1 hb1)
  all_goals
    go_wp2
    go_end0
    exact ⟨_, ⟨rfl, HT1.out, HB1.out, rfl⟩⟩
end Go.Proofs.YthdfccdkomfikaaGreatDoor

namespace Go.Proofs.YthdfccdkomfikaaGreatDoor
open Go.ChangeShapes Go.WideShapes Go.ChangeAt Go.RowKit Go.Maps Go.WideMaps
set_option linter.unusedVariables false
set_option linter.unusedSimpArgs false

theorem fz_set {w : World} {a c : Addr} {v : Value} (h : w.frozen? c = false) : (w.setCell a v).frozen? c = false := by simp [h]
theorem ne_off {b i j : Nat} (h : i ≠ j) : (⟨b, i, none⟩ : Addr) ≠ ⟨b, j, none⟩ := by intro e; exact h (congrArg Addr.off e)
theorem set_other {w : World} {b i j : Nat} {v : Value} (h : i ≠ j) : (w.setCell ⟨b, i, none⟩ v).cell? ⟨b, j, none⟩ = w.cell? ⟨b, j, none⟩ := World.cell?_setCell_other _ ⟨b, i, none⟩ ⟨b, j, none⟩ _ (fun e => ne_off h e)
/-- what is made the first time -/
def Made (b : Nat) (w w' : World) : Prop := ∃ w1, (∃ A V, A 0 = w.heap.size ∧ Tre w1 w.heap.size (mkT 48) A V) ∧ Below w.heap.size (w.setCell ⟨b, 4, none⟩ (.int .i32 1)) w1 ∧ w' = ((w1.setCell ⟨b, 6, none⟩ (.pointer (some ⟨w.heap.size, 0, none⟩))).drew.setCell ⟨b, 3, none⟩ (.int .u32 1)).setCell ⟨b, 4, none⟩ (.int .i32 0)

set_option maxRecDepth 1000000 in
set_option maxHeartbeats 8000000 in
theorem slow_any (b : Nat) (pl : Addr) (hpb : pl.block ≠ b) (x6 : Value) (w : World) (hS : Spl w) (hgb : 0 ≠ b) (hpl : pl.block < w.heap.size) (hbl : b < w.heap.size) (hp : w.cell? pl = some (.pointer (some ⟨b, 0, none⟩)))
    (h3 : w.cell? ⟨b, 3, none⟩ = some (.int .u32 0)) (h4 : w.cell? ⟨b, 4, none⟩ = some (.int .i32 0)) (h6 : w.cell? ⟨b, 6, none⟩ = some x6)
    (f3 : w.frozen? ⟨b, 3, none⟩ = false) (f4 : w.frozen? ⟨b, 4, none⟩ = false) (f6 : w.frozen? ⟨b, 6, none⟩ = false) :
    Calls Tryz.prog 87 #[.pointer (some ⟨b, 3, none⟩), .func (.func 74) #[] #[.pointer (some pl)]] w fun e w' => e = .returned (.tuple #[]) ∧ Made b w w' := by
  obtain ⟨w0, e0⟩ : ∃ w0, w.setCell ⟨b, 4, none⟩ (.int .i32 1) = w0 := ⟨_, rfl⟩
  have hz0 : w0.heap.size = w.heap.size := by rw [← e0]; simp
  have c3 : w0.cell? ⟨b, 3, none⟩ = some (.int .u32 0) := by rw [← e0, set_other (by decide)]; exact h3
  have c4 : w0.cell? ⟨b, 4, none⟩ = some (.int .i32 1) := by rw [← e0]; exact World.cell?_setCell_same w _ _ h4
  have c6 : w0.cell? ⟨b, 6, none⟩ = some x6 := by rw [← e0, set_other (by decide)]; exact h6
  have cp : w0.cell? pl = some (.pointer (some ⟨b, 0, none⟩)) := by rw [← e0, World.cell?_setCell_other _ _ _ _ (fun e => hpb (by rw [← e]))]; exact hp
  have z3 : w0.frozen? ⟨b, 3, none⟩ = false := by rw [← e0]; exact fz_set f3
  have z4 : w0.frozen? ⟨b, 4, none⟩ = false := by rw [← e0]; exact fz_set f4
  have z6 : w0.frozen? ⟨b, 6, none⟩ = false := by rw [← e0]; exact fz_set f6
  have hS0 : Spl w0 := by
    refine ⟨by rw [hz0]; exact hS.1, fun i hi => ?_⟩
    rw [← e0, World.cell?_setCell_other _ _ _ _ (fun e => hgb (by have := congrArg Addr.block e; exact this.symm))]
    exact hS.2 i hi
  have HT : Hid (Calls Tryz.prog 74 #[.pointer (some pl)] w0 fun e w' => ∃ w1, e = .returned (.tuple #[]) ∧ (∃ A V, A 0 = w0.heap.size ∧ Tre w1 w0.heap.size (mkT 48) A V) ∧ Below w0.heap.size w0 w1 ∧ w' = w1.setCell ⟨b, 6, none⟩ (.pointer (some ⟨w0.heap.size, 0, none⟩))) := tree1_any b pl x6 w0 hS0 (by omega) (by omega) cp c6 z6
  rw [hz0] at HT
  have HE0 : Hid (w.setCell ⟨b, 4, none⟩ (.int .i32 1) = w0) := e0
  have HL : Hid (Calls Tryz.prog 96 #[.pointer (some ⟨b, 4, none⟩)] w fun e w' => e = .returned (.tuple #[]) ∧ w' = w0) := by
    have := o_lock ⟨b, 4, none⟩ w h4 f4
    rw [e0] at this
    exact this
  have hl := run_call_load (P := Tryz.prog) Tryz.func95 (by kernel_rfl) (by kernel_rfl) (by kernel_rfl) .u32 (by kernel_rfl) (w := w0) (a := ⟨b, 3, none⟩) (x := 0) c3
  have hnot : ∀ (x : Bool) (w : World), (Op.unary .not (.bool x)).run Tryz.prog w = .ok (.bool (!x)) w := fun _ _ => rfl
  have HZ : Hid (b < w0.heap.size) := by unfold Hid; omega
  clear hS hS0 hp h3 h4 h6 f3 f4 f6 cp e0
  go_enter_defers Tryz.func87, Tryz.ntmps87
  go_wp2_with (first
    | (go_at_call 96; (with_reducible refine HL.out.mono ?_); rintro e w3 ⟨rfl, hw3⟩; subst hw3)
    | (go_at_call 86; go_in)
    | (go_at_call 74; (with_reducible refine HT.out.mono ?_); rintro e w5 ⟨w1, rfl, ht1, hb1, rfl⟩))
  have d3 : w1.cell? ⟨b, 3, none⟩ = some (.int .u32 0) := (hb1.cell (p := ⟨b, 3, none⟩) hbl).trans c3
  have d4 : w1.cell? ⟨b, 4, none⟩ = some (.int .i32 1) := (hb1.cell (p := ⟨b, 4, none⟩) hbl).trans c4
  have g3 : w1.frozen? ⟨b, 3, none⟩ = false := (World.frozen?_of_block (a := ⟨b, 3, none⟩) (hb1.block b hbl)).trans z3
  have g4 : w1.frozen? ⟨b, 4, none⟩ = false := (World.frozen?_of_block (a := ⟨b, 4, none⟩) (hb1.block b hbl)).trans z4
  have HM : Hid (Made b w (((w1.setCell ⟨b, 6, none⟩ (.pointer (some ⟨w.heap.size, 0, none⟩))).drew.setCell ⟨b, 3, none⟩ (.int .u32 1)).setCell ⟨b, 4, none⟩ (.int .i32 0))) := ⟨w1, ht1, by rw [HE0.out]; exact hb1, rfl⟩
  clear ht1 hb1 HT HL hl
  first | go_end0 | skip
  refine leaves_cons (f := 98) (args := #[.pointer (some ⟨b, 3, none⟩), .bool true]) (by simp) (by simp [go_sem]) ?_
  refine (o_store ⟨b, 3, none⟩ (.int .u32 0) .returning _ ?_ (by simp [g3])).mono ?_
  · exact (set_other (by decide)).trans d3
  rintro e u' w'' ⟨rfl, rfl, rfl⟩
  refine leaves_cons (f := 97) (args := #[.pointer (some ⟨b, 4, none⟩)]) (by simp [settle]) (by simp [go_sem]) ?_
  refine (o_unlock ⟨b, 4, none⟩ _ _ ?_ (by simp [g4])).mono ?_
  · refine (set_other (by decide)).trans ?_
    rw [World.cell?_drew]
    exact (set_other (by decide)).trans d4
  rintro e u' w'' ⟨rfl, rfl, rfl⟩
  simp [Leaves, settle, results, Tryz.results87]
  exact HM.out

set_option maxRecDepth 1000000 in
set_option maxHeartbeats 8000000 in
theorem do_first (b : Nat) (pl : Addr) (hpb : pl.block ≠ b) (x6 : Value) (w : World) (hS : Spl w) (hgb : 0 ≠ b) (hpl : pl.block < w.heap.size) (hbl : b < w.heap.size) (hp : w.cell? pl = some (.pointer (some ⟨b, 0, none⟩)))
    (h3 : w.cell? ⟨b, 3, none⟩ = some (.int .u32 0)) (h4 : w.cell? ⟨b, 4, none⟩ = some (.int .i32 0)) (h6 : w.cell? ⟨b, 6, none⟩ = some x6)
    (f3 : w.frozen? ⟨b, 3, none⟩ = false) (f4 : w.frozen? ⟨b, 4, none⟩ = false) (f6 : w.frozen? ⟨b, 6, none⟩ = false) :
    Calls Tryz.prog 73 #[.pointer (some ⟨b, 3, none⟩), .func (.func 74) #[] #[.pointer (some pl)]] w fun e w' => e = .returned (.tuple #[]) ∧ Made b w w' := by
  have HSL : Hid (Calls Tryz.prog 87 #[.pointer (some ⟨b, 3, none⟩), .func (.func 74) #[] #[.pointer (some pl)]] w fun e w' => e = .returned (.tuple #[]) ∧ Made b w w') := slow_any b pl hpb x6 w hS hgb hpl hbl hp h3 h4 h6 f3 f4 f6
  have hl := run_call_load (P := Tryz.prog) Tryz.func95 (by kernel_rfl) (by kernel_rfl) (by kernel_rfl) .u32 (by kernel_rfl) h3
  have hnot : ∀ (x : Bool) (w : World), (Op.unary .not (.bool x)).run Tryz.prog w = .ok (.bool (!x)) w := fun _ _ => rfl
  clear hS
  go_enter Tryz.func73, Tryz.ntmps73
  go_wp2_with (first | (go_at_call 87; (with_reducible refine HSL.out.mono ?_); rintro e w' ⟨rfl, hm⟩) | (go_at_call 86; go_in))
  go_end0
  exact ⟨rfl, hm⟩

set_option maxRecDepth 1000000 in
set_option maxHeartbeats 4000000 in
theorem do_done (b : Nat) (fv : Value) (w : World) (h0 : w.cell? ⟨b, 3, none⟩ = some (.int .u32 1)) :
    Calls Tryz.prog 73 #[.pointer (some ⟨b, 3, none⟩), fv] w fun e w' => e = .returned (.tuple #[]) ∧ w' = w := by
  have hl := run_call_load (P := Tryz.prog) Tryz.func95 (by kernel_rfl) (by kernel_rfl) (by kernel_rfl) .u32 (by kernel_rfl) h0
  have hnot : ∀ (x : Bool) (w : World), (Op.unary .not (.bool x)).run Tryz.prog w = .ok (.bool (!x)) w := fun _ _ => rfl
  go_enter Tryz.func73, Tryz.ntmps73
  go_wp2
  go_end0
  exact ⟨rfl, rfl⟩
end Go.Proofs.YthdfccdkomfikaaGreatDoor

namespace Go.Proofs.YthdfccdkomfikaaGreatDoor
open Go.ChangeShapes Go.WideShapes Go.ChangeAt Go.RowKit
set_option linter.unusedVariables false
set_option linter.unusedSimpArgs false

/-- tokens follow one another without a gap up to the end; only autos are empty; no blanks side by side; each token is itself when cut anew -/
def Chn (s : ByteArray) : Nat → Bool → List Tk → Prop
  | p, _, [] => p = s.size
  | p, b, q :: r => ∃ k t : Nat, q = ⟨k, p, t⟩ ∧ p ≤ t ∧ t ≤ s.size ∧ k < 80 ∧ (k = 6 ↔ p = t) ∧ (b = true → k ≠ 0) ∧ (2 ≤ k → k ≠ 6 → cut (s.extract p t) 0 = ([(⟨k, 0, (s.extract p t).size⟩ : Tk)], none)) ∧ Chn s t (decide (k = 0)) r
theorem chn_cut (s : ByteArray) : ∀ m p (b : Bool), s.size - p ≤ m → p ≤ s.size → (cut s p).2 = none → (b = true → blk (bt s p) = false) → Chn s p b (wau s (cut s p).1)
  | m, p, b, hm, hps, h, hb => by
    by_cases hp : p < s.size
    · cases hc : pce s p with
      | no y z => rw [cut_no hp hc] at h; cases h
      | ok k t =>
        rw [cut_ok hp hc] at h ⊢
        obtain ⟨t1, t2, t3⟩ := pce_ok hp hc
        have hs := pce_stop hp hc
        have hsh := pce_shape hp hc
        have k6 : k ≠ 6 := by
          rcases hsh with e | e | e | e | e | e <;> omega
        have ih : Chn s t (decide (k = 0)) (wau s (cut s t).1) := by
          match m, hm with
          | 0, hm => omega
          | m + 1, hm =>
            refine chn_cut s m t _ (by omega) t2 h fun h0 => hs.1 (of_decide_eq_true h0)
        rw [wau]
        simp only [Int.toNat_natCast]
        refine ⟨k, t, rfl, by omega, t2, t3, by omega, fun hb' => ?_, fun _ _ => cut_self hp hc, ?_⟩
        · intro h0
          rcases hsh with e | e | e | e | e | e
          · rw [hb hb'] at e; exact absurd e.2.1 (by simp)
          all_goals omega
        · by_cases ha : (ask k && aft s (cut s t).1) = true
          · have hk0 : k ≠ 0 := by
              intro h0
              subst h0
              have : ask 0 = false := by decide
              rw [this] at ha
              cases ha
            rw [if_pos ha]
            refine ⟨6, t, rfl, by omega, t2, by omega, by omega, by omega, by omega, ?_⟩
            have e : decide (k = 0) = false := by simp [hk0]
            rw [e] at ih
            exact ih
          · rw [if_neg ha]
            simpa using ih
    · rw [cut_end hp]
      show p = s.size
      omega
theorem chn_at {s : ByteArray} : ∀ (L : List Tk) (p : Nat) (b : Bool) (i : Nat), Chn s p b L → i < L.length → ∃ p' b', Chn s p' b' (L.drop i) ∧ (i = 0 → p' = p ∧ b' = b)
  | q :: r, p, b, 0, h, hi => ⟨p, b, h, fun _ => ⟨rfl, rfl⟩⟩
  | q :: r, p, b, i + 1, h, hi => by
    obtain ⟨k, t, -, -, -, -, -, -, -, h8⟩ := h
    cases r with
    | nil => simp at hi
    | cons q' r' =>
      obtain ⟨p', b', h1, -⟩ := chn_at (q' :: r') t _ i h8 (by simpa using hi)
      exact ⟨p', b', h1, fun h => by omega⟩
end Go.Proofs.YthdfccdkomfikaaGreatDoor
