import Derived.Test.YthdfccdkomfikaaDoorTm9
namespace Go.Proofs.YthdfccdkomfikaaDoor
open Go.ChangeShapes Go.WideShapes Go.ChangeAt Go.RowKit Go.Maps Go.WideMaps
set_option linter.unusedVariables false
set_option linter.unusedSimpArgs false

set_option maxRecDepth 1000000 in
set_option maxHeartbeats 8000000 in
theorem tree_done (b M P : Nat) (s : ByteArray) (w : World) (X : Bx w b #[.string s, .slice (some ⟨b + 1, 0, none⟩) 6 6, .map (some M), .int .u32 1, .int .i32 0, .int .u32 0, .pointer (some ⟨P, 0, none⟩)] 63) :
    Calls Tryd.prog 43 #[.pointer (some ⟨b, 0, none⟩)] w fun e w' => e = .returned (.pointer (some ⟨P, 0, none⟩)) ∧ Below w.heap.size w w' := by
  have hbl := X.lt
  obtain ⟨w2, e2, hw2, hs2, B2⟩ := bx1 w #[.pointer (some ⟨b, 0, none⟩)] 40
  have X2 := X.below hw2 hbl
  have HD : Hid (∀ fv, Calls Tryd.prog 55 #[.pointer (some ⟨b, 3, none⟩), fv] w2 fun e w' => e = .returned (.tuple #[]) ∧ w' = w2) := fun fv => do_done b fv w2 (X2.cell 3)
  have hmf : ∀ (fn : Fn) (first cap : Array Value) (w : World), (Instr.makeFunc fn first cap).run Tryd.prog w = .ok (.func fn first cap) w := fun _ _ _ _ => rfl
  have HE2 : Hid (w.alloc (.cells #[.pointer (some ⟨b, 0, none⟩)] 40) = w2) := e2
  have c0 : w2.cell? ⟨w.heap.size, 0, none⟩ = some (.pointer (some ⟨b, 0, none⟩)) := B2.cell 0
  have q6 := X2.cell 6
  simp at q6
  have hb2 : b < w2.heap.size := by omega
  have hw2s : w.heap.size < w2.heap.size := by omega
  have HW : Hid (Below w.heap.size w w2) := hw2
  clear X X2 B2 hw2 e2
  go_enter Tryd.func43, Tryd.ntmps43
  go_upto_region 1 with fail
  rw [HE2.out]
  go_wp2_with (go_at_call 55; (with_reducible refine (HD.out _).mono ?_); rintro e w3 ⟨rfl, hw3⟩; subst hw3)
  go_ret
  exact ⟨rfl, HW.out⟩
/-- the tree stands, as it is told -/
def Tat (w : World) (P : Nat) : Prop := ∃ B A V, A 0 = P ∧ Tre w B TT A V
theorem Tat.below {w w' : World} {P : Nat} (h : Tat w P) (hb : Below w.heap.size w w') : Tat w' P := by
  obtain ⟨B, A, V, h1, h2⟩ := h
  exact ⟨B, A, V, h1, h2.below hb⟩
theorem tree_any (b M : Nat) (s : ByteArray) (w : World) (hS : Spl w) (hgb : 0 ≠ b) (h : Sg w b M s) :
    Calls Tryd.prog 43 #[.pointer (some ⟨b, 0, none⟩)] w fun e w' => ∃ P, e = .returned (.pointer (some ⟨P, 0, none⟩)) ∧ Tat w' P ∧ Sg w' b M s ∧ w.grownBy w' (some b) := by
  obtain ⟨d, mk, h1, h2, h3⟩ := h
  rcases h3 with ⟨rfl, rfl⟩ | ⟨rfl, B, A, V, hb, ht, rfl⟩
  · refine (tree_first b M s w hS hgb h1 h2).mono fun e w' h => ?_
    obtain ⟨e1, ⟨A, V, hA, hT⟩, e3, e4⟩ := h
    exact ⟨_, e1, ⟨_, A, V, hA, hT⟩, e3, e4⟩
  · refine (tree_done b M (A 0) s w h1).mono fun e w' h => ?_
    obtain ⟨e1, e2⟩ := h
    exact ⟨_, e1, ⟨B, A, V, rfl, ht.below e2⟩, Sg.below ⟨1, _, h1, h2, .inr ⟨rfl, B, A, V, hb, ht, rfl⟩⟩ e2, grownBy_of_below e2 _⟩
def isP (u : Value) : Bool → Prop
  | true => ∃ a, u = .pointer (some a)
  | false => u = .pointer none
theorem on_root (P c : Nat) (hc : c < 256) (w : World) (h : Tat w P) :
    Calls Tryd.prog 44 #[.pointer (some ⟨P, 0, none⟩), .int .u8 (c : Int)] w fun e w' => (∃ v, e = .returned v ∧ isP v (onT TT 0 c).isSome) ∧ w' = w := by
  obtain ⟨B, A, V, hA, hT⟩ := h
  have h0 : TT[0]? = some (TT.getD 0 tz) := rfl
  have hl : TT.length ≤ 1000 := by rw [tt_len.1]; omega
  have := on_any B TT A V 0 c _ h0 hc hl w hT
  rw [hA] at this
  refine this.mono fun e w' h => ?_
  obtain ⟨rfl, hw⟩ := h
  refine ⟨⟨_, rfl, ?_⟩, hw⟩
  cases onT TT 0 c with
  | none => exact rfl
  | some j => exact ⟨_, rfl⟩

set_option maxRecDepth 1000000 in
set_option maxHeartbeats 8000000 in
theorem atMark_any (b M : Nat) (s : ByteArray) (p : Nat) (hs : s.size ≤ 4294967280) (hp : p < s.size) (w : World) (hS : Spl w) (hgb : 0 ≠ b) (h : Sg w b M s) :
    Calls Tryd.prog 28 #[.pointer (some ⟨b, 0, none⟩), .int .i64 (p : Int)] w fun e w' => e = .returned (.bool (onT TT 0 (bt s p)).isSome) ∧ Sg w' b M s ∧ w.grownBy w' (some b) := by
  have hp' : (p : Int) < (s.size : Int) := by omega
  obtain ⟨n, hn⟩ : ∃ n, (s[p]'hp).toNat = n := ⟨_, rfl⟩
  have hbt : bt s p = n := by rw [bt_in hp, hn]
  have hn256 : n < 256 := by rw [← hn]; exact (s[p]'hp).toNat_lt
  rw [hbt]
  have c0 : w.cell? ⟨b, 0, none⟩ = some (.string s) := by obtain ⟨d, mk, h1, -, -⟩ := h; exact h1.cell 0
  have hbl : b < w.heap.size := World.block_lt_of_cell? _ _ c0
  have HT : Hid (Calls Tryd.prog 43 #[.pointer (some ⟨b, 0, none⟩)] w.drew fun e w' => ∃ P, e = .returned (.pointer (some ⟨P, 0, none⟩)) ∧ Tat w' P ∧ Sg w' b M s ∧ w.grownBy w' (some b)) := by
    have hd : Below w.heap.size w w.drew := (Below.refl _ w).drew
    refine (tree_any b M s w.drew (hS.below hd) hgb (h.below hd)).mono fun e w' h => ?_
    obtain ⟨P, h1, h2, h3, h4⟩ := h
    exact ⟨P, h1, h2, h3, grownBy_trans (grownBy_of_below hd _) h4⟩
  obtain ⟨z, hz⟩ : ∃ z, (onT TT 0 n).isSome = z := ⟨_, rfl⟩
  have HR : Hid (∀ P v, Tat v P → Calls Tryd.prog 44 #[.pointer (some ⟨P, 0, none⟩), .int .u8 (n : Int)] v fun e w' => (∃ u, e = .returned u ∧ isP u z) ∧ w' = v) := fun P v hv => by
    have := on_root P n hn256 v hv
    rw [hz] at this
    exact this
  rw [hz]
  have HC : Hid (∀ v, Sg v b M s → v.cell? ⟨b, 0, none⟩ = some (.string s) ∧ b < v.heap.size) := fun v hv => by
    obtain ⟨d, mk, h1, -, -⟩ := hv; exact ⟨h1.cell 0, h1.lt⟩
  clear hS h hbt hz
  cases z with
  | true =>
    have HR' : Hid (∀ P v, Tat v P → Calls Tryd.prog 44 #[.pointer (some ⟨P, 0, none⟩), .int .u8 (n : Int)] v fun e w' => (∃ a, e = .returned (.pointer (some a))) ∧ w' = v) := fun P v hv => by
      refine (HR.out P v hv).mono fun e w' h => ?_
      obtain ⟨⟨u, rfl, a, rfl⟩, hw⟩ := h
      exact ⟨⟨a, rfl⟩, hw⟩
    clear HR
    go_enter Tryd.func28, Tryd.ntmps28
    go_wp2
    go_region_with (first
      | (go_at_call 43; (with_reducible refine HT.out.mono ?_); rintro e w1 ⟨P, rfl, ht1, hg1, hw1⟩; obtain ⟨q0, qb⟩ := HC.out w1 hg1; have H1 : Hid (Tat w1 P) := ht1; have H2 : Hid (Sg w1 b M s) := hg1; have H3 : Hid (w.grownBy w1 (some b)) := hw1; clear ht1 hg1 hw1)
      | (go_at_call 44; (with_reducible refine (HR'.out _ _ H1.out).mono ?_); rintro e w2 ⟨⟨a2, rfl⟩, hw2⟩; subst hw2))
    all_goals
      go_wp2
      go_ret
      exact ⟨rfl, H2.out, H3.out⟩
  | false =>
    have HR' : Hid (∀ P v, Tat v P → Calls Tryd.prog 44 #[.pointer (some ⟨P, 0, none⟩), .int .u8 (n : Int)] v fun e w' => e = .returned (.pointer none) ∧ w' = v) := fun P v hv => by
      refine (HR.out P v hv).mono fun e w' h => ?_
      obtain ⟨⟨u, rfl, hu⟩, hw⟩ := h
      exact ⟨by rw [show u = .pointer none from hu], hw⟩
    clear HR
    go_enter Tryd.func28, Tryd.ntmps28
    go_wp2
    go_region_with (first
      | (go_at_call 43; (with_reducible refine HT.out.mono ?_); rintro e w1 ⟨P, rfl, ht1, hg1, hw1⟩; obtain ⟨q0, qb⟩ := HC.out w1 hg1; have H1 : Hid (Tat w1 P) := ht1; have H2 : Hid (Sg w1 b M s) := hg1; have H3 : Hid (w.grownBy w1 (some b)) := hw1; clear ht1 hg1 hw1)
      | (go_at_call 44; (with_reducible refine (HR'.out _ _ H1.out).mono ?_); rintro e w2 ⟨rfl, hw2⟩; subst hw2))
    all_goals
      go_wp2
      go_ret
      exact ⟨rfl, H2.out, H3.out⟩
end Go.Proofs.YthdfccdkomfikaaDoor
