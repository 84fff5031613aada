import Derived.Test.YtmnbakalcpanlaaGreatDoorTm5
import Derived.Test.YtmnbakalcpanlaaGreatDoorLc6
import Derived.Test.YtmnbakalcpanlaaGreatDoorRs4a
import Derived.Test.YtmnbakalcpanlaaGreatDoorTm6
namespace Go.Proofs.YtmnbakalcpanlaaGreatDoor
set_option linter.unusedVariables false
set_option linter.unusedSimpArgs false

/-- the old pieces from one's beginning on -/
theorem cut_from (s : ByteArray) : ∀ m p w, s.size - p ≤ m → (cut s p).2 = none → p ≤ w → (∃ q ∈ (cut s p).1, q.f = (w : Int)) →
    (cut s p).1.dropWhile (fun q => decide (q.f < (w : Int))) = (cut s w).1 ∧ (cut s w).2 = none ∧ w < s.size
  | m, p, w, hm, hn, hw, ⟨q, hq, he⟩ => by
    by_cases hp : p < s.size
    · cases hc : pce s p with
      | no y z => rw [cut_no hp hc] at hq; cases hq
      | ok k t =>
        obtain ⟨t1, t2, -⟩ := pce_ok hp hc
        have ec := cut_ok hp hc
        by_cases e : p = w
        · subst e
          refine ⟨?_, hn, hp⟩
          rw [ec, List.dropWhile_cons_of_neg (by simp)]
        · rw [ec] at hq hn ⊢
          rw [List.dropWhile_cons_of_pos (by simp; omega)]
          rcases List.mem_cons.1 hq with rfl | hq
          · simp at he; omega
          · obtain ⟨k', f', t', rfl, -, h1, -, -⟩ := cut_inF s _ t (Nat.le_refl _) q hq
            simp at he
            exact cut_from s (m - 1) t w (by omega) hn (by omega) ⟨_, hq, by simpa using he⟩
    · rw [cut_end hp] at hq; cases hq
  termination_by m p => s.size - p

/-- what a text is behind an edit -/
structure Edt (s s' : ByteArray) (f t n : Nat) : Prop where
  ft : f ≤ t
  ts : t ≤ s.size
  low : ∀ j, j < f → bt s' j = bt s j
  high : Fg s s' t (f + n)
  size : s'.size = f + n + (s.size - t)

/-- where the old pieces are known again -/
def kno (old : List Tk) (t : Nat) (mv : Int) (a : Nat) : Bool := decide ((t : Int) ≤ (a : Int) - mv) && old.any (fun q => decide (q.f = (a : Int) - mv))

/-- the new text's pieces: those that stand, those cut anew, the old ones moved -/
theorem rescan_pure {s s' : ByteArray} {f t n : Nat} (E : Edt s s' f t n) (hn : (cut s 0).2 = none) {mv : Int} (hmv : mv = (n : Int) - ((t : Int) - (f : Int))) :
    ∃ a : Nat, ute f 0 (cut s 0).1 = a ∧ a ≤ s'.size ∧ a ≤ f ∧
      (∀ y z, (ctK s' (kno (cut s 0).1 t mv) a).2.2 = some (y, z) → (cut s' 0).2 = some (y, z)) ∧
      ((ctK s' (kno (cut s 0).1 t mv) a).2.2 = none → ∃ b : Nat, (ctK s' (kno (cut s 0).1 t mv) a).2.1 = b ∧ b ≤ s'.size ∧
        (b = s'.size → cut s' 0 = (unt f (cut s 0).1 ++ (ctK s' (kno (cut s 0).1 t mv) a).1, none)) ∧
        (b ≠ s'.size → kno (cut s 0).1 t mv b = true ∧ cut s' 0 = (unt f (cut s 0).1 ++ (ctK s' (kno (cut s 0).1 t mv) a).1 ++ ((cut s 0).1.dropWhile (fun q => decide (q.f < (b : Int) - mv))).map (mvZ mv), none))) := by
  have hf := E.ft
  have hts := E.ts
  have hsz := E.size
  obtain ⟨a, a1, a2, a3, a4, -⟩ := cut_near (s := s) (s' := s') (fr := f) (by omega) E.low _ 0 (Nat.le_refl _) (by omega) hn
  have has : a ≤ s'.size := by rcases a3 with h | h <;> omega
  obtain ⟨c1, c2⟩ := ctK_cut (s := s') (K := kno (cut s 0).1 t mv) _ a (Nat.le_refl _) has
  refine ⟨a, a1, has, by rcases a3 with h | h <;> omega, fun y z h => by rw [a4]; exact c1 y z h, fun h => ?_⟩
  obtain ⟨b, b1, b2, b3, b4, b5⟩ := c2 h
  refine ⟨b, b1, b3, fun e => ?_, fun e => ?_⟩
  · rw [a4, b5, cut_end (s := s') (p := b) (by omega)]; simp
  · have hk : kno (cut s 0).1 t mv b = true := by rcases b4 with h | h; exact absurd h e; exact h
    refine ⟨hk, ?_⟩
    unfold kno at hk
    simp only [Bool.and_eq_true, decide_eq_true_eq, List.any_eq_true] at hk
    obtain ⟨k1, q, k2, k3⟩ := hk
    obtain ⟨w, hw⟩ : ∃ w : Nat, (b : Int) - mv = w := ⟨((b : Int) - mv).toNat, by omega⟩
    rw [hw] at k1 k3 ⊢
    obtain ⟨g1, g2, g3⟩ := cut_from s _ 0 w (Nat.le_refl _) hn (by omega) ⟨q, k2, k3⟩
    have hb : b = f + n + (w - t) := by omega
    have F : Fg s s' w b := by
      have := E.high.on (w - t)
      rw [← hb, show t + (w - t) = w by omega] at this
      exact this
    have := Fg.cut _ w b (Nat.le_refl _) F g2
    rw [show (b : Int) - (w : Int) = mv by omega] at this
    rw [a4, b5, this, g1]
    simp

theorem cut_k6 (s : ByteArray) : ∀ m p, s.size - p ≤ m → ∀ q ∈ (cut s p).1, q.k ≠ 6
  | m, p, hm, q, hq => by
    by_cases hp : p < s.size
    · cases hc : pce s p with
      | no y z => rw [cut_no hp hc] at hq; cases hq
      | ok k t =>
        obtain ⟨t1, t2, -⟩ := pce_ok hp hc
        rw [cut_ok hp hc] at hq
        rcases List.mem_cons.1 hq with rfl | hq
        · have : k ≠ 6 := by rcases pce_shape hp hc with h | h | h | h | h | h <;> omega
          simp; omega
        · exact cut_k6 s (m - 1) t (by omega) q hq
    · rw [cut_end hp] at hq; cases hq
  termination_by m p => s.size - p
theorem wau_back (s : ByteArray) : ∀ ts : List Tk, (∀ q ∈ ts, q.k ≠ 6) → (wau s ts).filter (fun q => decide (q.k ≠ 6)) = ts
  | [], _ => rfl
  | p :: r, h => by
    have hp := h p (List.mem_cons_self ..)
    have ih := wau_back s r (fun q hq => h q (List.mem_cons_of_mem _ hq))
    rw [wau, List.filter_append, ih, List.filter_cons_of_pos (by simpa using hp)]
    split <;> simp
end Go.Proofs.YtmnbakalcpanlaaGreatDoor

namespace Go.Proofs.YtmnbakalcpanlaaGreatDoor
open Go.ChangeShapes Go.WideShapes Go.ChangeAt Go.RowKit Go.Maps Go.WideMaps
set_option linter.unusedVariables false
set_option linter.unusedSimpArgs false

theorem bt_app (a b : ByteArray) (j : Nat) : bt (a ++ b) j = if j < a.size then bt a j else bt b (j - a.size) := by
  have hz : (a ++ b).size = a.size + b.size := ByteArray.size_append
  by_cases h : j < a.size
  · rw [if_pos h, bt_in (show j < (a ++ b).size by omega), bt_in h, ByteArray.getElem_append_left h]
  · rw [if_neg h]
    by_cases h2 : j < (a ++ b).size
    · rw [bt_in h2, bt_in (show j - a.size < b.size by omega), ByteArray.getElem_append_right (by omega)]
    · rw [bt_out h2, bt_out (by omega)]
theorem rn_of (s n : ByteArray) (f t : Nat) (hft : f ≤ t) (ht : t ≤ s.size) : Rn s n (s.extract 0 f ++ n ++ s.extract t s.size) f t := by
  have z1 : (s.extract 0 f).size = f := off_size (by omega)
  have z2 : (s.extract t s.size).size = s.size - t := by rw [ByteArray.size_extract]; omega
  have z3 : (s.extract 0 f ++ n).size = f + n.size := by rw [ByteArray.size_append, z1]
  refine ⟨hft, ht, by rw [ByteArray.size_append, z3, z2], fun j hj => ?_, fun j hj => ?_, fun j => ?_⟩
  · rw [bt_app, if_pos (by omega), bt_app, if_pos (by omega), off_bt (by omega), if_pos hj]
  · rw [bt_app, if_pos (by omega), bt_app, if_neg (by omega), z1]
    congr 1
    omega
  · rw [bt_app, if_neg (by omega), z3, bt_ex _ _ _ _ (Nat.le_refl _)]
    rw [show t + (f + n.size + j - (f + n.size)) = t + j by omega]
    by_cases h : t + j < s.size
    · rw [if_pos h]
    · rw [if_neg h, bt_out h]
/-- a text behind an edit -/
def edE (s n : ByteArray) (f t : Nat) : ByteArray := s.extract 0 f ++ n ++ s.extract t s.size
theorem edE_edt (s n : ByteArray) (f t : Nat) (hft : f ≤ t) (ht : t ≤ s.size) : Edt s (edE s n f t) f t n.size := by
  have h := rn_of s n f t hft ht
  exact ⟨hft, ht, h.one, h.three, h.size⟩
theorem edE_size (s n : ByteArray) (f t : Nat) (hft : f ≤ t) (ht : t ≤ s.size) : (edE s n f t).size = f + n.size + (s.size - t) := (rn_of s n f t hft ht).size
theorem edE_list (s n : ByteArray) (f t : Nat) : (⟨((s.extract 0 f).data.toList ++ n.data.toList ++ (s.extract t s.size).data.toList).toArray⟩ : ByteArray) = edE s n f t := by
  unfold edE
  ext1
  simp
theorem edited_any (s n : ByteArray) (f t : Nat) (hs : s.size ≤ 4294967280) (hn : n.size ≤ 4294967280) (hft : f ≤ t) (ht : t ≤ s.size) (w : World) :
    Calls Tryz.prog 23 #[.string s, .agg #[.int .i64 (f : Int), .int .i64 (t : Int), .string n]] w fun e w' => e = .returned (.string (edE s n f t)) ∧ Below w.heap.size w w' := by
  rw [← edE_list s n f t]
  exact edited_raw s n f t hs hn hft ht w
end Go.Proofs.YtmnbakalcpanlaaGreatDoor

namespace Go.Proofs.YtmnbakalcpanlaaGreatDoor
open Go.ChangeShapes Go.WideShapes Go.ChangeAt Go.RowKit Go.Maps Go.WideMaps
set_option linter.unusedVariables false
set_option linter.unusedSimpArgs false

set_option maxRecDepth 1000000 in
set_option maxHeartbeats 4000000 in
/-- the tree is made and kept -/
theorem tree1_any (b : Nat) (pl : Addr) (x6 : Value) (w : World) (hS : Spl w) (hpl : pl.block < w.heap.size) (hbl : b < w.heap.size) (hp : w.cell? pl = some (.pointer (some ⟨b, 0, none⟩))) (h6 : w.cell? ⟨b, 6, none⟩ = some x6) (f6 : w.frozen? ⟨b, 6, none⟩ = false) :
    Calls Tryz.prog 72 #[.pointer (some pl)] w fun e w' => ∃ w1, e = .returned (.tuple #[]) ∧ (∃ A V, A 0 = w.heap.size ∧ Tre w1 w.heap.size (mkT 48) A V) ∧ Below w.heap.size w w1 ∧ w' = w1.setCell ⟨b, 6, none⟩ (.pointer (some ⟨w.heap.size, 0, none⟩)) := by
  have HM : Hid (Calls Tryz.prog 73 #[] w.drew fun e w' => e = .returned (.pointer (some ⟨w.heap.size, 0, none⟩)) ∧ (∃ A V, A 0 = w.heap.size ∧ Tre w' w.heap.size (mkT 48) A V) ∧ Below w.heap.size w w') := by
    have hd : Below w.heap.size w w.drew := (Below.refl _ w).drew
    refine (markTree_any w.drew (hS.below hd)).mono fun e w' h => ?_
    obtain ⟨A, V, rfl, hA, ht, hb⟩ := h
    have hA' : A 0 = w.heap.size := hA
    exact ⟨by unfold ptrT; rw [hA'], ⟨A, V, hA, ht⟩, hd.trans hb⟩
  have HC : Hid (∀ v, Below w.heap.size w v → v.cell? pl = some (.pointer (some ⟨b, 0, none⟩)) ∧ v.cell? ⟨b, 6, none⟩ = some x6 ∧ v.frozen? ⟨b, 6, none⟩ = false ∧ b < v.heap.size ∧ pl.block < v.heap.size) := fun v hv =>
    ⟨(hv.cell hpl).trans hp, (hv.cell (p := ⟨b, 6, none⟩) hbl).trans h6, (World.frozen?_of_block (a := ⟨b, 6, none⟩) (hv.block b hbl)).trans f6, by have := hv.size; omega, by have := hv.size; omega⟩
  clear hS
  go_enter Tryz.func72, Tryz.ntmps72
  go_region_with (go_at_call 73; (with_reducible refine HM.out.mono ?_); rintro e w1 ⟨rfl, ht1, hb1⟩; obtain ⟨q0, q6, g6, qb, qp⟩ := HC.out w1 hb1; have HT1 : Hid (∃ A V, A 0 = w.heap.size ∧ Tre w1 w.heap.size (mkT 48) A V) := ht1; have HB1 : Hid (Below w.heap.size w w1) := hb1; clear ht1 hb1)
  all_goals
    go_wp2
    go_end0
    exact ⟨_, ⟨rfl, HT1.out, HB1.out, rfl⟩⟩
end Go.Proofs.YtmnbakalcpanlaaGreatDoor

namespace Go.Proofs.YtmnbakalcpanlaaGreatDoor
open Go.ChangeShapes Go.WideShapes Go.ChangeAt Go.RowKit Go.Maps Go.WideMaps
set_option linter.unusedVariables false
set_option linter.unusedSimpArgs false

theorem fz_set {w : World} {a c : Addr} {v : Value} (h : w.frozen? c = false) : (w.setCell a v).frozen? c = false := by simp [h]
theorem ne_off {b i j : Nat} (h : i ≠ j) : (⟨b, i, none⟩ : Addr) ≠ ⟨b, j, none⟩ := by intro e; exact h (congrArg Addr.off e)
theorem set_other {w : World} {b i j : Nat} {v : Value} (h : i ≠ j) : (w.setCell ⟨b, i, none⟩ v).cell? ⟨b, j, none⟩ = w.cell? ⟨b, j, none⟩ := World.cell?_setCell_other _ ⟨b, i, none⟩ ⟨b, j, none⟩ _ (fun e => ne_off h e)
/-- what is made the first time -/
def Made (b : Nat) (w w' : World) : Prop := ∃ w1, (∃ A V, A 0 = w.heap.size ∧ Tre w1 w.heap.size (mkT 48) A V) ∧ Below w.heap.size (w.setCell ⟨b, 4, none⟩ (.int .i32 1)) w1 ∧ w' = ((w1.setCell ⟨b, 6, none⟩ (.pointer (some ⟨w.heap.size, 0, none⟩))).drew.setCell ⟨b, 3, none⟩ (.int .u32 1)).setCell ⟨b, 4, none⟩ (.int .i32 0)

set_option maxRecDepth 1000000 in
set_option maxHeartbeats 8000000 in
theorem slow_any (b : Nat) (pl : Addr) (hpb : pl.block ≠ b) (x6 : Value) (w : World) (hS : Spl w) (hgb : 0 ≠ b) (hpl : pl.block < w.heap.size) (hbl : b < w.heap.size) (hp : w.cell? pl = some (.pointer (some ⟨b, 0, none⟩)))
    (h3 : w.cell? ⟨b, 3, none⟩ = some (.int .u32 0)) (h4 : w.cell? ⟨b, 4, none⟩ = some (.int .i32 0)) (h6 : w.cell? ⟨b, 6, none⟩ = some x6)
    (f3 : w.frozen? ⟨b, 3, none⟩ = false) (f4 : w.frozen? ⟨b, 4, none⟩ = false) (f6 : w.frozen? ⟨b, 6, none⟩ = false) :
    Calls Tryz.prog 82 #[.pointer (some ⟨b, 3, none⟩), .func (.func 72) #[] #[.pointer (some pl)]] w fun e w' => e = .returned (.tuple #[]) ∧ Made b w w' := by
  obtain ⟨w0, e0⟩ : ∃ w0, w.setCell ⟨b, 4, none⟩ (.int .i32 1) = w0 := ⟨_, rfl⟩
  have hz0 : w0.heap.size = w.heap.size := by rw [← e0]; simp
  have c3 : w0.cell? ⟨b, 3, none⟩ = some (.int .u32 0) := by rw [← e0, set_other (by decide)]; exact h3
  have c4 : w0.cell? ⟨b, 4, none⟩ = some (.int .i32 1) := by rw [← e0]; exact World.cell?_setCell_same w _ _ h4
  have c6 : w0.cell? ⟨b, 6, none⟩ = some x6 := by rw [← e0, set_other (by decide)]; exact h6
  have cp : w0.cell? pl = some (.pointer (some ⟨b, 0, none⟩)) := by rw [← e0, World.cell?_setCell_other _ _ _ _ (fun e => hpb (by rw [← e]))]; exact hp
  have z3 : w0.frozen? ⟨b, 3, none⟩ = false := by rw [← e0]; exact fz_set f3
  have z4 : w0.frozen? ⟨b, 4, none⟩ = false := by rw [← e0]; exact fz_set f4
  have z6 : w0.frozen? ⟨b, 6, none⟩ = false := by rw [← e0]; exact fz_set f6
  have hS0 : Spl w0 := by
    refine ⟨by rw [hz0]; exact hS.1, fun i hi => ?_⟩
    rw [← e0, World.cell?_setCell_other _ _ _ _ (fun e => hgb (by have := congrArg Addr.block e; exact this.symm))]
    exact hS.2 i hi
  have HT : Hid (Calls Tryz.prog 72 #[.pointer (some pl)] w0 fun e w' => ∃ w1, e = .returned (.tuple #[]) ∧ (∃ A V, A 0 = w0.heap.size ∧ Tre w1 w0.heap.size (mkT 48) A V) ∧ Below w0.heap.size w0 w1 ∧ w' = w1.setCell ⟨b, 6, none⟩ (.pointer (some ⟨w0.heap.size, 0, none⟩))) := tree1_any b pl x6 w0 hS0 (by omega) (by omega) cp c6 z6
  rw [hz0] at HT
  have HE0 : Hid (w.setCell ⟨b, 4, none⟩ (.int .i32 1) = w0) := e0
  have HL : Hid (Calls Tryz.prog 91 #[.pointer (some ⟨b, 4, none⟩)] w fun e w' => e = .returned (.tuple #[]) ∧ w' = w0) := by
    have := o_lock ⟨b, 4, none⟩ w h4 f4
    rw [e0] at this
    exact this
  have hl := run_call_load (P := Tryz.prog) Tryz.func90 (by kernel_rfl) (by kernel_rfl) (by kernel_rfl) .u32 (by kernel_rfl) (w := w0) (a := ⟨b, 3, none⟩) (x := 0) c3
  have hnot : ∀ (x : Bool) (w : World), (Op.unary .not (.bool x)).run Tryz.prog w = .ok (.bool (!x)) w := fun _ _ => rfl
  have HZ : Hid (b < w0.heap.size) := by unfold Hid; omega
  clear hS hS0 hp h3 h4 h6 f3 f4 f6 cp e0
  go_enter_defers Tryz.func82, Tryz.ntmps82
  go_wp2_with (first
    | (go_at_call 91; (with_reducible refine HL.out.mono ?_); rintro e w3 ⟨rfl, hw3⟩; subst hw3)
    | (go_at_call 81; go_in)
    | (go_at_call 72; (with_reducible refine HT.out.mono ?_); rintro e w5 ⟨w1, rfl, ht1, hb1, rfl⟩))
  have d3 : w1.cell? ⟨b, 3, none⟩ = some (.int .u32 0) := (hb1.cell (p := ⟨b, 3, none⟩) hbl).trans c3
  have d4 : w1.cell? ⟨b, 4, none⟩ = some (.int .i32 1) := (hb1.cell (p := ⟨b, 4, none⟩) hbl).trans c4
  have g3 : w1.frozen? ⟨b, 3, none⟩ = false := (World.frozen?_of_block (a := ⟨b, 3, none⟩) (hb1.block b hbl)).trans z3
  have g4 : w1.frozen? ⟨b, 4, none⟩ = false := (World.frozen?_of_block (a := ⟨b, 4, none⟩) (hb1.block b hbl)).trans z4
  have HM : Hid (Made b w (((w1.setCell ⟨b, 6, none⟩ (.pointer (some ⟨w.heap.size, 0, none⟩))).drew.setCell ⟨b, 3, none⟩ (.int .u32 1)).setCell ⟨b, 4, none⟩ (.int .i32 0))) := ⟨w1, ht1, by rw [HE0.out]; exact hb1, rfl⟩
  clear ht1 hb1 HT HL hl
  first | go_end0 | skip
  refine leaves_cons (f := 93) (args := #[.pointer (some ⟨b, 3, none⟩), .bool true]) (by simp) (by simp [go_sem]) ?_
  refine (o_store ⟨b, 3, none⟩ (.int .u32 0) .returning _ ?_ (by simp [g3])).mono ?_
  · exact (set_other (by decide)).trans d3
  rintro e u' w'' ⟨rfl, rfl, rfl⟩
  refine leaves_cons (f := 92) (args := #[.pointer (some ⟨b, 4, none⟩)]) (by simp [settle]) (by simp [go_sem]) ?_
  refine (o_unlock ⟨b, 4, none⟩ _ _ ?_ (by simp [g4])).mono ?_
  · refine (set_other (by decide)).trans ?_
    rw [World.cell?_drew]
    exact (set_other (by decide)).trans d4
  rintro e u' w'' ⟨rfl, rfl, rfl⟩
  simp [Leaves, settle, results, Tryz.results82]
  exact HM.out

set_option maxRecDepth 1000000 in
set_option maxHeartbeats 8000000 in
theorem do_first (b : Nat) (pl : Addr) (hpb : pl.block ≠ b) (x6 : Value) (w : World) (hS : Spl w) (hgb : 0 ≠ b) (hpl : pl.block < w.heap.size) (hbl : b < w.heap.size) (hp : w.cell? pl = some (.pointer (some ⟨b, 0, none⟩)))
    (h3 : w.cell? ⟨b, 3, none⟩ = some (.int .u32 0)) (h4 : w.cell? ⟨b, 4, none⟩ = some (.int .i32 0)) (h6 : w.cell? ⟨b, 6, none⟩ = some x6)
    (f3 : w.frozen? ⟨b, 3, none⟩ = false) (f4 : w.frozen? ⟨b, 4, none⟩ = false) (f6 : w.frozen? ⟨b, 6, none⟩ = false) :
    Calls Tryz.prog 71 #[.pointer (some ⟨b, 3, none⟩), .func (.func 72) #[] #[.pointer (some pl)]] w fun e w' => e = .returned (.tuple #[]) ∧ Made b w w' := by
  have HSL : Hid (Calls Tryz.prog 82 #[.pointer (some ⟨b, 3, none⟩), .func (.func 72) #[] #[.pointer (some pl)]] w fun e w' => e = .returned (.tuple #[]) ∧ Made b w w') := slow_any b pl hpb x6 w hS hgb hpl hbl hp h3 h4 h6 f3 f4 f6
  have hl := run_call_load (P := Tryz.prog) Tryz.func90 (by kernel_rfl) (by kernel_rfl) (by kernel_rfl) .u32 (by kernel_rfl) h3
  have hnot : ∀ (x : Bool) (w : World), (Op.unary .not (.bool x)).run Tryz.prog w = .ok (.bool (!x)) w := fun _ _ => rfl
  clear hS
  go_enter Tryz.func71, Tryz.ntmps71
  go_wp2_with (first | (go_at_call 82; (with_reducible refine HSL.out.mono ?_); rintro e w' ⟨rfl, hm⟩) | (go_at_call 81; go_in))
  go_end0
  exact ⟨rfl, hm⟩

set_option maxRecDepth 1000000 in
set_option maxHeartbeats 4000000 in
theorem do_done (b : Nat) (fv : Value) (w : World) (h0 : w.cell? ⟨b, 3, none⟩ = some (.int .u32 1)) :
    Calls Tryz.prog 71 #[.pointer (some ⟨b, 3, none⟩), fv] w fun e w' => e = .returned (.tuple #[]) ∧ w' = w := by
  have hl := run_call_load (P := Tryz.prog) Tryz.func90 (by kernel_rfl) (by kernel_rfl) (by kernel_rfl) .u32 (by kernel_rfl) h0
  have hnot : ∀ (x : Bool) (w : World), (Op.unary .not (.bool x)).run Tryz.prog w = .ok (.bool (!x)) w := fun _ _ => rfl
  go_enter Tryz.func71, Tryz.ntmps71
  go_wp2
  go_end0
  exact ⟨rfl, rfl⟩
end Go.Proofs.YtmnbakalcpanlaaGreatDoor
