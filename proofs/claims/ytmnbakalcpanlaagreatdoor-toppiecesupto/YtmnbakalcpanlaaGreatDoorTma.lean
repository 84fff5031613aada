import Derived.Test.YtmnbakalcpanlaaGreatDoorTm8
namespace Go.Proofs.YtmnbakalcpanlaaGreatDoor
open Go.ChangeShapes Go.WideShapes Go.ChangeAt Go.RowKit Go.Maps Go.WideMaps
set_option linter.unusedVariables false
set_option linter.unusedSimpArgs false

theorem Tre.setLow {w : World} {B : Nat} {T : List Tn} {A : Nat → Nat} {V : Nat → Value} (h : Tre w B T A V) {a : Addr} (ha : a.block < B) (v : Value) : Tre (w.setCell a v) B T A V :=
  ⟨fun i t hi => ⟨(h.box i t hi).1, (h.box i t hi).2.other a (by have := (h.box i t hi).1; omega) v⟩, fun i t hi => ownsRow_setCell_below (h.row i t hi) ha v, h.one, h.apart, h.kid, h.lim⟩
theorem Tre.drew {w : World} {B : Nat} {T : List Tn} {A : Nat → Nat} {V : Nat → Value} (h : Tre w B T A V) : Tre w.drew B T A V :=
  ⟨fun i t hi => ⟨(h.box i t hi).1, (h.box i t hi).2⟩, fun i t hi => h.row i t hi, h.one, h.apart, h.kid, h.lim⟩
/-- the tree stands in a scanner's last cell -/
def Trd (w : World) (b : Nat) (d : Nat) (mk : Value) : Prop := (d = 0 ∧ mk = .pointer none) ∨ (d = 1 ∧ ∃ B A V, b < B ∧ Tre w B TT A V ∧ mk = .pointer (some ⟨A 0, 0, none⟩))
/-- a scanner of a text stands, its tree made or not -/
def Sg (w : World) (b M : Nat) (s : ByteArray) : Prop := ∃ d mk, Bx w b #[.string s, .slice (some ⟨b + 1, 0, none⟩) 6 6, .map (some M), .int .u32 (d : Nat), .int .i32 0, .int .u32 0, mk] 77 ∧ Bx w (b + 1) (sts b) 80 ∧ Trd w b d mk
theorem Trd.below {w w' : World} {b d : Nat} {mk : Value} (h : Trd w b d mk) (hb : Below w.heap.size w w') : Trd w' b d mk := by
  rcases h with h | ⟨h1, B, A, V, h2, h3, h4⟩
  · exact .inl h
  · exact .inr ⟨h1, B, A, V, h2, h3.below hb, h4⟩
theorem Sg.below {w w' : World} {b M : Nat} {s : ByteArray} (h : Sg w b M s) (hb : Below w.heap.size w w') : Sg w' b M s := by
  obtain ⟨d, mk, h1, h2, h3⟩ := h
  exact ⟨d, mk, h1.below hb h1.lt, h2.below hb h2.lt, h3.below hb⟩
theorem grownBy_of_below {w w' : World} (h : Below w.heap.size w w') (row : Option Nat) : w.grownBy w' row := ⟨h.os, h.tape, h.output, h.size, fun k hk _ => h.block k hk⟩
theorem grownBy_trans {a b c : World} {row : Option Nat} (h : a.grownBy b row) (k : b.grownBy c row) : a.grownBy c row :=
  ⟨k.os.trans h.os, k.tape.trans h.tape, k.output.trans h.output, Nat.le_trans h.size k.size, fun i hi hne => (k.block i (Nat.lt_of_lt_of_le hi h.size) hne).trans (h.block i hi hne)⟩
/-- behind what is made the first time -/
theorem Made.now {b M : Nat} {s : ByteArray} {w w' : World} (h : Made b w w') (X : Bx w b #[.string s, .slice (some ⟨b + 1, 0, none⟩) 6 6, .map (some M), .int .u32 0, .int .i32 0, .int .u32 0, .pointer none] 77) (Y : Bx w (b + 1) (sts b) 80) :
    (∃ A V, A 0 = w.heap.size ∧ Tre w' w.heap.size TT A V) ∧ Bx w' b #[.string s, .slice (some ⟨b + 1, 0, none⟩) 6 6, .map (some M), .int .u32 1, .int .i32 0, .int .u32 0, .pointer (some ⟨w.heap.size, 0, none⟩)] 77 ∧ Bx w' (b + 1) (sts b) 80 ∧ w.grownBy w' (some b) := by
  obtain ⟨w1, ⟨A, V, hA, ht⟩, hb, rfl⟩ := h
  rw [mkT_48] at ht
  have hbl := X.lt
  have X0 := X.set 4 (.int .i32 1)
  have X1 := X0.below hb (by simpa using hbl)
  have X2 := ((X1.set 6 (.pointer (some ⟨w.heap.size, 0, none⟩))).drew.set 3 (.int .u32 1)).set 4 (.int .i32 0)
  have hne : b + 1 ≠ b := by omega
  have Y1 := ((((((Y.other ⟨b, 4, none⟩ hne (.int .i32 1)).below hb Y.lt).other ⟨b, 6, none⟩ hne (.pointer (some ⟨w.heap.size, 0, none⟩)))).drew.other ⟨b, 3, none⟩ hne (.int .u32 1)).other ⟨b, 4, none⟩ hne (.int .i32 0))
  refine ⟨⟨A, V, hA, (((ht.setLow (a := ⟨b, 6, none⟩) hbl _).drew).setLow (a := ⟨b, 3, none⟩) hbl _).setLow (a := ⟨b, 4, none⟩) hbl _⟩, by simpa using X2, Y1, ?_⟩
  have sz : (w.setCell ⟨b, 4, none⟩ (.int .i32 1)).heap.size = w.heap.size := by simp
  refine ⟨hb.os, hb.tape, hb.output, ?_, fun k hk hkb => ?_⟩
  · have := hb.size
    simp
    omega
  · have hkb' : k ≠ b := fun e => hkb (by rw [e])
    rw [heap_setCell_other _ ⟨b, 4, none⟩ k _ hkb', heap_setCell_other _ ⟨b, 3, none⟩ k _ hkb']
    show (w1.setCell ⟨b, 6, none⟩ _).heap[k]? = _
    rw [heap_setCell_other _ ⟨b, 6, none⟩ k _ hkb', hb.block k hk, heap_setCell_other _ ⟨b, 4, none⟩ k _ hkb']

set_option maxRecDepth 1000000 in
set_option maxHeartbeats 8000000 in
theorem tree_first (b M : Nat) (s : ByteArray) (w : World) (hS : Spl w) (hgb : 0 ≠ b) (X : Bx w b #[.string s, .slice (some ⟨b + 1, 0, none⟩) 6 6, .map (some M), .int .u32 0, .int .i32 0, .int .u32 0, .pointer none] 77) (Y : Bx w (b + 1) (sts b) 80) :
    Calls Tryz.prog 58 #[.pointer (some ⟨b, 0, none⟩)] w fun e w' => e = .returned (.pointer (some ⟨w.heap.size + 1, 0, none⟩)) ∧ (∃ A V, A 0 = w.heap.size + 1 ∧ Tre w' (w.heap.size + 1) TT A V) ∧ Sg w' b M s ∧ w.grownBy w' (some b) := by
  have hbl := X.lt
  obtain ⟨w2, e2, hw2, hs2, B2⟩ := bx1 w #[.pointer (some ⟨b, 0, none⟩)] 43
  have X2 := X.below hw2 hbl
  have Y2 := Y.below hw2 Y.lt
  have hne : w.heap.size ≠ b := by omega
  have HD : Hid (Calls Tryz.prog 71 #[.pointer (some ⟨b, 3, none⟩), .func (.func 72) #[] #[.pointer (some ⟨w.heap.size, 0, none⟩)]] w2 fun e w' => e = .returned (.tuple #[]) ∧ Made b w2 w') :=
    do_first b ⟨w.heap.size, 0, none⟩ hne (.pointer none) w2 (hS.below hw2) hgb (by show w.heap.size < _; omega) (by omega) (B2.cell 0) (X2.cell 3) (X2.cell 4) (X2.cell 6) (X2.free 3) (X2.free 4) (X2.free 6)
  have HN : Hid (∀ w', Made b w2 w' → ((∃ A V, A 0 = w.heap.size + 1 ∧ Tre w' (w.heap.size + 1) TT A V) ∧ Bx w' b #[.string s, .slice (some ⟨b + 1, 0, none⟩) 6 6, .map (some M), .int .u32 1, .int .i32 0, .int .u32 0, .pointer (some ⟨w.heap.size + 1, 0, none⟩)] 77 ∧ Bx w' (b + 1) (sts b) 80 ∧ w.grownBy w' (some b) ∧ w'.cell? ⟨w.heap.size, 0, none⟩ = some (.pointer (some ⟨b, 0, none⟩)))) := fun w' hm => by
    have h := hm.now X2 Y2
    rw [hs2] at h
    exact ⟨h.1, h.2.1, h.2.2.1, grownBy_trans (grownBy_of_below hw2 _) h.2.2.2, (World.cell?_of_block (a := ⟨w.heap.size, 0, none⟩) (h.2.2.2.block w.heap.size (by omega) (by simp; omega))).trans (B2.cell 0)⟩
  have hmf : ∀ (fn : Fn) (first cap : Array Value) (w : World), (Instr.makeFunc fn first cap).run Tryz.prog w = .ok (.func fn first cap) w := fun _ _ _ _ => rfl
  have HE2 : Hid (w.alloc (.cells #[.pointer (some ⟨b, 0, none⟩)] 43) = w2) := e2
  have c0 : w2.cell? ⟨w.heap.size, 0, none⟩ = some (.pointer (some ⟨b, 0, none⟩)) := B2.cell 0
  have hb2 : b < w2.heap.size := by omega
  have hw2s : w.heap.size < w2.heap.size := by omega
  clear X Y X2 Y2 B2 hw2 hS e2
  go_enter Tryz.func58, Tryz.ntmps58
  go_upto_region 1 with fail
  rw [HE2.out]
  go_wp2_with (go_at_call 71; (with_reducible refine HD.out.mono ?_); rintro e w3 ⟨rfl, hm⟩; obtain ⟨k1, k2, k3, k4, k5⟩ := HN.out w3 hm; have H1 : Hid (∃ A V, A 0 = w.heap.size + 1 ∧ Tre w3 (w.heap.size + 1) TT A V) := k1; have H2 : Hid (Bx w3 b #[.string s, .slice (some ⟨b + 1, 0, none⟩) 6 6, .map (some M), .int .u32 1, .int .i32 0, .int .u32 0, .pointer (some ⟨w.heap.size + 1, 0, none⟩)] 77) := k2; have H3 : Hid (Bx w3 (b + 1) (sts b) 80) := k3; have H4 : Hid (w.grownBy w3 (some b)) := k4; have q6 := k2.cell 6; simp at q6; have hb3 := k2.lt; have hw3s : w.heap.size < w3.heap.size := (by have := World.block_lt_of_cell? _ _ k5; exact this); clear hm k1 k2 k3 k4)
  go_ret
  refine ⟨rfl, H1.out, ?_, H4.out⟩
  obtain ⟨A, V, hA, hT⟩ := H1.out
  exact ⟨1, _, H2.out, H3.out, .inr ⟨rfl, _, A, V, by omega, hT, by rw [hA]⟩⟩
end Go.Proofs.YtmnbakalcpanlaaGreatDoor

namespace Go.Proofs.YtmnbakalcpanlaaGreatDoor
open Go.ChangeShapes Go.WideShapes Go.ChangeAt Go.RowKit Go.Maps Go.WideMaps
set_option linter.unusedVariables false
set_option linter.unusedSimpArgs false

set_option maxRecDepth 1000000 in
set_option maxHeartbeats 8000000 in
theorem tree_done (b M P : Nat) (s : ByteArray) (w : World) (X : Bx w b #[.string s, .slice (some ⟨b + 1, 0, none⟩) 6 6, .map (some M), .int .u32 1, .int .i32 0, .int .u32 0, .pointer (some ⟨P, 0, none⟩)] 77) :
    Calls Tryz.prog 58 #[.pointer (some ⟨b, 0, none⟩)] w fun e w' => e = .returned (.pointer (some ⟨P, 0, none⟩)) ∧ Below w.heap.size w w' := by
  have hbl := X.lt
  obtain ⟨w2, e2, hw2, hs2, B2⟩ := bx1 w #[.pointer (some ⟨b, 0, none⟩)] 43
  have X2 := X.below hw2 hbl
  have HD : Hid (∀ fv, Calls Tryz.prog 71 #[.pointer (some ⟨b, 3, none⟩), fv] w2 fun e w' => e = .returned (.tuple #[]) ∧ w' = w2) := fun fv => do_done b fv w2 (X2.cell 3)
  have hmf : ∀ (fn : Fn) (first cap : Array Value) (w : World), (Instr.makeFunc fn first cap).run Tryz.prog w = .ok (.func fn first cap) w := fun _ _ _ _ => rfl
  have HE2 : Hid (w.alloc (.cells #[.pointer (some ⟨b, 0, none⟩)] 43) = w2) := e2
  have c0 : w2.cell? ⟨w.heap.size, 0, none⟩ = some (.pointer (some ⟨b, 0, none⟩)) := B2.cell 0
  have q6 := X2.cell 6
  simp at q6
  have hb2 : b < w2.heap.size := by omega
  have hw2s : w.heap.size < w2.heap.size := by omega
  have HW : Hid (Below w.heap.size w w2) := hw2
  clear X X2 B2 hw2 e2
  go_enter Tryz.func58, Tryz.ntmps58
  go_upto_region 1 with fail
  rw [HE2.out]
  go_wp2_with (go_at_call 71; (with_reducible refine (HD.out _).mono ?_); rintro e w3 ⟨rfl, hw3⟩; subst hw3)
  go_ret
  exact ⟨rfl, HW.out⟩
/-- the tree stands, as it is told -/
def Tat (w : World) (P : Nat) : Prop := ∃ B A V, A 0 = P ∧ Tre w B TT A V
theorem Tat.below {w w' : World} {P : Nat} (h : Tat w P) (hb : Below w.heap.size w w') : Tat w' P := by
  obtain ⟨B, A, V, h1, h2⟩ := h
  exact ⟨B, A, V, h1, h2.below hb⟩
theorem tree_any (b M : Nat) (s : ByteArray) (w : World) (hS : Spl w) (hgb : 0 ≠ b) (h : Sg w b M s) :
    Calls Tryz.prog 58 #[.pointer (some ⟨b, 0, none⟩)] w fun e w' => ∃ P, e = .returned (.pointer (some ⟨P, 0, none⟩)) ∧ Tat w' P ∧ Sg w' b M s ∧ w.grownBy w' (some b) := by
  obtain ⟨d, mk, h1, h2, h3⟩ := h
  rcases h3 with ⟨rfl, rfl⟩ | ⟨rfl, B, A, V, hb, ht, rfl⟩
  · refine (tree_first b M s w hS hgb h1 h2).mono fun e w' h => ?_
    obtain ⟨e1, ⟨A, V, hA, hT⟩, e3, e4⟩ := h
    exact ⟨_, e1, ⟨_, A, V, hA, hT⟩, e3, e4⟩
  · refine (tree_done b M (A 0) s w h1).mono fun e w' h => ?_
    obtain ⟨e1, e2⟩ := h
    exact ⟨_, e1, ⟨B, A, V, rfl, ht.below e2⟩, Sg.below ⟨1, _, h1, h2, .inr ⟨rfl, B, A, V, hb, ht, rfl⟩⟩ e2, grownBy_of_below e2 _⟩
def isP (u : Value) : Bool → Prop
  | true => ∃ a, u = .pointer (some a)
  | false => u = .pointer none
theorem on_root (P c : Nat) (hc : c < 256) (w : World) (h : Tat w P) :
    Calls Tryz.prog 59 #[.pointer (some ⟨P, 0, none⟩), .int .u8 (c : Int)] w fun e w' => (∃ v, e = .returned v ∧ isP v (onT TT 0 c).isSome) ∧ w' = w := by
  obtain ⟨B, A, V, hA, hT⟩ := h
  have h0 : TT[0]? = some (TT.getD 0 tz) := rfl
  have hl : TT.length ≤ 1000 := by rw [tt_len.1]; omega
  have := on_any B TT A V 0 c _ h0 hc hl w hT
  rw [hA] at this
  refine this.mono fun e w' h => ?_
  obtain ⟨rfl, hw⟩ := h
  refine ⟨⟨_, rfl, ?_⟩, hw⟩
  cases onT TT 0 c with
  | none => exact rfl
  | some j => exact ⟨_, rfl⟩

set_option maxRecDepth 1000000 in
set_option maxHeartbeats 8000000 in
theorem atMark_any (b M : Nat) (s : ByteArray) (p : Nat) (hs : s.size ≤ 4294967280) (hp : p < s.size) (w : World) (hS : Spl w) (hgb : 0 ≠ b) (h : Sg w b M s) :
    Calls Tryz.prog 38 #[.pointer (some ⟨b, 0, none⟩), .int .i64 (p : Int)] w fun e w' => e = .returned (.bool (onT TT 0 (bt s p)).isSome) ∧ Sg w' b M s ∧ w.grownBy w' (some b) := by
  have hp' : (p : Int) < (s.size : Int) := by omega
  obtain ⟨n, hn⟩ : ∃ n, (s[p]'hp).toNat = n := ⟨_, rfl⟩
  have hbt : bt s p = n := by rw [bt_in hp, hn]
  have hn256 : n < 256 := by rw [← hn]; exact (s[p]'hp).toNat_lt
  rw [hbt]
  have c0 : w.cell? ⟨b, 0, none⟩ = some (.string s) := by obtain ⟨d, mk, h1, -, -⟩ := h; exact h1.cell 0
  have hbl : b < w.heap.size := World.block_lt_of_cell? _ _ c0
  have HT : Hid (Calls Tryz.prog 58 #[.pointer (some ⟨b, 0, none⟩)] w.drew fun e w' => ∃ P, e = .returned (.pointer (some ⟨P, 0, none⟩)) ∧ Tat w' P ∧ Sg w' b M s ∧ w.grownBy w' (some b)) := by
    have hd : Below w.heap.size w w.drew := (Below.refl _ w).drew
    refine (tree_any b M s w.drew (hS.below hd) hgb (h.below hd)).mono fun e w' h => ?_
    obtain ⟨P, h1, h2, h3, h4⟩ := h
    exact ⟨P, h1, h2, h3, grownBy_trans (grownBy_of_below hd _) h4⟩
  obtain ⟨z, hz⟩ : ∃ z, (onT TT 0 n).isSome = z := ⟨_, rfl⟩
  have HR : Hid (∀ P v, Tat v P → Calls Tryz.prog 59 #[.pointer (some ⟨P, 0, none⟩), .int .u8 (n : Int)] v fun e w' => (∃ u, e = .returned u ∧ isP u z) ∧ w' = v) := fun P v hv => by
    have := on_root P n hn256 v hv
    rw [hz] at this
    exact this
  rw [hz]
  have HC : Hid (∀ v, Sg v b M s → v.cell? ⟨b, 0, none⟩ = some (.string s) ∧ b < v.heap.size) := fun v hv => by
    obtain ⟨d, mk, h1, -, -⟩ := hv; exact ⟨h1.cell 0, h1.lt⟩
  clear hS h hbt hz
  cases z with
  | true =>
    have HR' : Hid (∀ P v, Tat v P → Calls Tryz.prog 59 #[.pointer (some ⟨P, 0, none⟩), .int .u8 (n : Int)] v fun e w' => (∃ a, e = .returned (.pointer (some a))) ∧ w' = v) := fun P v hv => by
      refine (HR.out P v hv).mono fun e w' h => ?_
      obtain ⟨⟨u, rfl, a, rfl⟩, hw⟩ := h
      exact ⟨⟨a, rfl⟩, hw⟩
    clear HR
    go_enter Tryz.func38, Tryz.ntmps38
    go_wp2
    go_region_with (first
      | (go_at_call 58; (with_reducible refine HT.out.mono ?_); rintro e w1 ⟨P, rfl, ht1, hg1, hw1⟩; obtain ⟨q0, qb⟩ := HC.out w1 hg1; have H1 : Hid (Tat w1 P) := ht1; have H2 : Hid (Sg w1 b M s) := hg1; have H3 : Hid (w.grownBy w1 (some b)) := hw1; clear ht1 hg1 hw1)
      | (go_at_call 59; (with_reducible refine (HR'.out _ _ H1.out).mono ?_); rintro e w2 ⟨⟨a2, rfl⟩, hw2⟩; subst hw2))
    all_goals
      go_wp2
      go_ret
      exact ⟨rfl, H2.out, H3.out⟩
  | false =>
    have HR' : Hid (∀ P v, Tat v P → Calls Tryz.prog 59 #[.pointer (some ⟨P, 0, none⟩), .int .u8 (n : Int)] v fun e w' => e = .returned (.pointer none) ∧ w' = v) := fun P v hv => by
      refine (HR.out P v hv).mono fun e w' h => ?_
      obtain ⟨⟨u, rfl, hu⟩, hw⟩ := h
      exact ⟨by rw [show u = .pointer none from hu], hw⟩
    clear HR
    go_enter Tryz.func38, Tryz.ntmps38
    go_wp2
    go_region_with (first
      | (go_at_call 58; (with_reducible refine HT.out.mono ?_); rintro e w1 ⟨P, rfl, ht1, hg1, hw1⟩; obtain ⟨q0, qb⟩ := HC.out w1 hg1; have H1 : Hid (Tat w1 P) := ht1; have H2 : Hid (Sg w1 b M s) := hg1; have H3 : Hid (w.grownBy w1 (some b)) := hw1; clear ht1 hg1 hw1)
      | (go_at_call 59; (with_reducible refine (HR'.out _ _ H1.out).mono ?_); rintro e w2 ⟨rfl, hw2⟩; subst hw2))
    all_goals
      go_wp2
      go_ret
      exact ⟨rfl, H2.out, H3.out⟩
end Go.Proofs.YtmnbakalcpanlaaGreatDoor
