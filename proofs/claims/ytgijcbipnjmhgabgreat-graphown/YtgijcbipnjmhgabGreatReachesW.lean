import Derived.Test.YtgijcbipnjmhgabGreatGr5c
import Derived.Test.YtgijcbipnjmhgabGreatGr3
import Derived.Sort.OwnSorted
import Derived.Test.YtgijcbipnjmhgabGreatGc1
import Derived.Test.YtgijcbipnjmhgabGreatGp4
import Derived.Test.YtgijcbipnjmhgabGreatGr3c
import Derived.Test.YtgijcbipnjmhgabGreatInfT
namespace Go.Proofs.YtgijcbipnjmhgabGreat
open Go.ChangeShapes Go.WideShapes Go.ChangeAt Go.RowKit Go.Sort
set_option linter.unusedVariables false
set_option linter.unusedSimpArgs false

abbrev ivs (xs : List Int) : List Value := xs.map (Value.int .i64)
abbrev sortI (xs : List Int) : List Int := xs.mergeSort fun x y => decide (x ≤ y)
theorem holds_ints {w : World} {g : Nat} {cur : Array Value} {e : TypeId} {ss : List Int} (hb : w.heap[g]? = some (.cells cur e (0, 0))) (ht : cur.toList.take ss.length = ivs ss) : Holds (Value.int .i64) w g 0 ss.toArray := by
  intro j hj
  have hj' : j < ss.length := by simpa using hj
  refine ⟨?_, by simp [World.frozen?, hb]⟩
  have h1 : (cur.toList.take ss.length)[j]? = (ivs ss)[j]? := by rw [ht]
  rw [List.getElem?_take_of_lt hj'] at h1
  simp only [World.cell?, hb, Nat.zero_add]
  simp only [Option.isSome_none, Bool.false_eq_true, if_false]
  rw [← Array.getElem?_toList, h1]
  simp [ivs, hj']
theorem sorted_heap {w : World} {g n : Nat} {os : Array Obj} {cur : Array Value} {e : TypeId} {fr : Nat × Nat} (d : Array Int) (hb : w.heap[g]? = some (.cells cur e fr)) :
    (grow (putRow (Value.int .i64) (Sort.ahead w n) g 0 d) os).heap[g]? = some (.cells (putCells (Value.int .i64) 0 d cur) e fr) := by
  have hg : g < w.heap.size := (Array.getElem?_eq_some_iff.1 hb).1
  rw [heap_grow_old _ _ (by simpa using hg)]
  simp [putRow, mapBlock, Sort.ahead, Array.getElem?_modify, hb, onCells]
theorem sorted_grown {w : World} {g n : Nat} {os : Array Obj} (d : Array Int) : w.grownBy (grow (putRow (Value.int .i64) (Sort.ahead w n) g 0 d) os) (some g) := by
  refine ⟨rfl, rfl, rfl, by simp, fun k hk hne => ?_⟩
  rw [heap_grow_old _ _ (by simpa using hk)]
  have : g ≠ k := fun e => hne (by rw [e])
  simp [putRow, mapBlock, Sort.ahead, Array.getElem?_modify, this]
theorem sorted_cells (cur : Array Value) (ts : List Int) (h : ts.length ≤ cur.size) : (putCells (Value.int .i64) 0 ts.toArray cur).toList.take ts.length = ivs ts := by
  apply List.ext_getElem?
  intro j
  by_cases hj : j < ts.length
  · rw [List.getElem?_take_of_lt hj, Array.getElem?_toList]
    simp [putCells, hj, show j < cur.size by omega]
  · rw [List.getElem?_take_eq_none (by omega), List.getElem?_eq_none (by simp; omega)]
theorem risingI_any (B : Nat) (v : Value) (xs : List Int) (z : World) (h : z.ownsRow B 3 1 v xs.length (ivs xs)) (hn : xs.length ≤ 70368744177664) :
    Calls Tryz.prog 26 #[v] z fun e z' => e = .returned v ∧ z'.ownsRow B 3 1 v xs.length (ivs (sortI xs)) ∧ z.grownBy z' v.ownBlock := by
  rcases h.2 with ⟨hv, h0⟩ | ⟨g, cap, cur, rfl, hbase, hb, h1, h2, h3, h4⟩
  · subst hv
    have hx : xs = [] := List.eq_nil_of_length_eq_zero h0
    subst hx
    have HS := Tryz.slices_Sort_int_none Option.none 0 z
    go_enter Tryz.func26, Tryz.ntmps26
    go_wp2_with (go_at_call 58; (with_reducible refine HS.mono ?_); rintro e v1 ⟨rfl, rfl⟩)
    go_ret
    refine ⟨rfl, ?_, World.grownBy.refl _ _⟩
    rw [show sortI [] = [] from List.mergeSort_nil]
    exact World.ownsRow_nil _ _ _ _
  · rw [Nat.mul_one] at h4
    have HS := Tryz.slices_Sort_int g 0 cap xs z (holds_ints hb h4) (Array.getElem?_eq_some_iff.1 hb).1 (by omega)
    have HF : Hid (∀ n os, (grow (putRow (Value.int .i64) (Sort.ahead z n) g 0 (sortI xs).toArray) os).ownsRow B 3 1 (.slice (some ⟨g, 0, none⟩) xs.length cap) xs.length (ivs (sortI xs)) ∧ z.grownBy (grow (putRow (Value.int .i64) (Sort.ahead z n) g 0 (sortI xs).toArray) os) (some g)) := fun n os => by
      have hl : (sortI xs).length = xs.length := by simp [sortI]
      refine ⟨⟨by simp [ivs, hl], .inr ⟨g, cap, _, rfl, hbase, sorted_heap _ hb, h1, h2, by simp [putCells, h3], ?_⟩⟩, sorted_grown _⟩
      have h9 := sorted_cells cur (sortI xs) (by rw [hl]; omega)
      rw [hl] at h9
      rw [Nat.mul_one]
      exact h9
    have HS2 : Hid (Calls Tryz.prog 58 #[.slice (some ⟨g, 0, none⟩) xs.length cap] z fun e w' => e = .returned (.tuple #[]) ∧ w'.ownsRow B 3 1 (.slice (some ⟨g, 0, none⟩) xs.length cap) xs.length (ivs (sortI xs)) ∧ z.grownBy w' (some g)) := HS.mono (fun e w' ⟨h1, n, os, h2⟩ => ⟨h1, by rw [h2]; exact (HF.out n os).1, by rw [h2]; exact (HF.out n os).2⟩)
    clear HS HF h h1 h2 h3 h4 hb
    go_enter Tryz.func26, Tryz.ntmps26
    go_wp2_with (go_at_call 58; (with_reducible refine HS2.out.mono ?_); rintro e v1 ⟨rfl, ho, hg⟩; have HO : Hid (v1.ownsRow B 3 1 (.slice (some ⟨g, 0, none⟩) xs.length cap) xs.length (ivs (sortI xs)) ∧ z.grownBy v1 (some g)) := ⟨ho, hg⟩; clear ho hg)
    go_ret
    exact ⟨rfl, HO.out.1, HO.out.2⟩
theorem own_lower {w : World} {B B' e s n : Nat} {v : Value} {xs : List Value} (h : w.ownsRow B e s v n xs) (hb : B' ≤ B) : w.ownsRow B' e s v n xs :=
  ⟨h.1, h.2.imp id fun ⟨g, cap, cur, h1, h2, h3⟩ => ⟨g, cap, cur, h1, Nat.le_trans hb h2, h3⟩⟩
theorem Lv.lower {B B' gV n : Nat} {w0 w0' w : World} {rs : List Rr} (h : Lv B gV n w0 w rs) (hb : B' ≤ B) (h0 : Below B' w0' w) : Lv B' gV n w0' w rs :=
  ⟨⟨own_lower h.she.outV hb, own_lower h.she.outU hb, fun r hr => own_lower (h.she.each r hr) hb, h.she.apart, h.she.outs⟩, h.len, h0, Nat.le_trans hb h.base⟩
/-- the list of what can be come to -/
def RL (n : Nat) (ps : List Pr) (x : Nat) (zs : List Int) : Prop := zs.Pairwise (· < ·) ∧ zs.length ≤ n ∧ ∀ y : Int, y ∈ zs ↔ ∃ k : Nat, y = (k : Int) ∧ Rch ps x k

set_option maxRecDepth 1000000 in
set_option maxHeartbeats 4000000 in
theorem reach_ok (n x cap : Nat) (a : Option Addr) (ps : List Pr) (w : World) (hL : LiesA w a ps) (hm : ps.length ≤ 17592186044416) (ht : things (n : Int) ps = true) (hx : x < n) :
    Calls Tryz.prog 7 #[.int .i64 (n : Int), .slice a ps.length cap, .int .i64 (x : Int)] w fun e w' => ∃ v, e = .returned (.tuple #[v, .int .i64 0]) ∧ Below w.heap.size w w' ∧ ∃ zs, w'.ownsRow w.heap.size 3 1 v zs.length (ivs zs) ∧ RL n ps x zs := by
  have hmf : ∀ (fn : Fn) (first cap : Array Value) (w : World), (Instr.makeFunc fn first cap).run Tryz.prog w = .ok (.func fn first cap) w := fun _ _ _ _ => rfl
  obtain ⟨hn, hps⟩ := things_spec ht
  have HL : Hid (LiesA w a ps) := hL
  have HPS : Hid (∀ p ∈ ps, (0 ≤ p.a ∧ p.a < (n : Int)) ∧ (0 ≤ p.b ∧ p.b < (n : Int))) := hps
  have htx : thg (n : Int) (x : Int) = true := by unfold thg; simp; omega
  have AT : Hid (Calls Tryz.prog 17 #[.int .i64 (n : Int), .slice a ps.length cap] w fun e w' => e = .returned (.bool true) ∧ Below w.heap.size w w') := by unfold Hid; rw [← ht]; exact areThings_any (n : Int) a cap ps w hL hm
  have IT : Hid (∀ w, Calls Tryz.prog 23 #[.int .i64 (n : Int), .int .i64 (x : Int)] w fun e w' => e = .returned (.bool true) ∧ w' = w) := fun w => by rw [← htx]; exact isThing_any _ _ w
  obtain ⟨B0, hB0⟩ : ∃ B0, w.heap.size = B0 := ⟨_, rfl⟩
  have HB0 : Hid (w.heap.size = B0) := hB0
  clear hL hps htx hB0 ht
  go_enter Tryz.func7, Tryz.ntmps7
  go_upto_region 4 with (first
    | (go_at_call 17; (with_reducible refine AT.out.mono ?_); rintro e v1 ⟨rfl, hb1⟩; have HB1 : Hid (Below w.heap.size w v1) := hb1; clear hb1)
    | (go_at_call 23; (with_reducible refine (IT.out _).mono ?_); rintro e v2 ⟨rfl, hv⟩; have hv2 := hv.symm; clear hv; subst hv2))
  obtain ⟨w2, e2, hb2, hs2, B2⟩ := bx1 v1 #[.slice none 0 0] 32
  rw [e2]
  obtain ⟨bo, hbo⟩ : ∃ bo, v1.heap.size = bo := ⟨_, rfl⟩
  rw [hbo] at B2 hs2 ⊢
  have HB2 : Hid (Below bo v1 w2) := by unfold Hid; rw [← hbo]; exact hb2
  have HX2 : Hid (Bx w2 bo #[.slice none 0 0] 32) := B2
  have HQ2 : Hid (v1.heap.size = bo ∧ w2.heap.size = bo + 1) := ⟨hbo, hs2⟩
  have L2 : Hid (LiesA w2 a ps) := by
    have h1 := HL.out
    have h2 : Below w.heap.size w w2 := HB1.out.trans (hb2.mono HB1.out.size)
    exact h1.below h2
  have LS : Hid (Calls Tryz.prog 18 #[.int .i64 (n : Int), .slice a ps.length cap] w2 fun e w' => e = .returned (.slice (some ⟨w2.heap.size, 0, none⟩) n n) ∧ ∃ rs, Lv w2.heap.size w2.heap.size n w2 w' rs ∧ Ad .i32 ps rs) := lists_any n cap a ps w2 L2.out hn hm HPS.out
  obtain ⟨gV, hgV⟩ : ∃ g, w2.heap.size = g := ⟨_, rfl⟩
  have HGV : Hid (w2.heap.size = gV) := hgV
  rw [hgV] at LS
  clear e2 hb2 B2 hs2 hbo hgV
  have CONT : Hid (∀ w3 rs, Lv gV gV n w2 w3 rs → Lv bo gV n v1 w3 rs ∧ TR bo bo [] w3) := by
    intro w3 rs h3
    have h1 : Below bo v1 w3 := HB2.out.trans (h3.bel.mono (by have := HQ2.out.2; have := HGV.out; omega))
    have h4 : Bx w3 bo #[.slice none 0 0] 32 := HX2.out.below h3.bel (by have := HQ2.out.2; have := HGV.out; omega)
    exact ⟨h3.lower (by have := HQ2.out.2; have := HGV.out; omega) h1, ⟨⟨_, h4, World.ownsRow_nil _ _ _ _⟩, Nat.le_refl _, Nat.zero_le _⟩⟩
  go_upto_region 5 with (first
    | (go_at_call 18; (with_reducible refine LS.out.mono ?_); rintro e w3 ⟨rfl, rs, hl3, ha3⟩; obtain ⟨h31, h32⟩ := CONT.out w3 rs hl3; have LV3 : Hid (Lv bo gV n v1 w3 rs) := h31; have T3 : Hid (TR bo bo [] w3) := h32; have A3 : Hid (Ad .i32 ps rs) := ha3; clear h31 h32 hl3 ha3)
    | (go_at_call 24; (with_reducible refine (walkerR_any bo gV n bo v1 w3 rs hn LV3.out).mono ?_); rintro e w4 ⟨bm, bn, bk, bt, gm, rfl, hw4, hb4⟩; have W4 : Hid (Wc bo bm bn bk bt gm gV n (.func (.func 25) #[] #[.pointer (some ⟨bo, 0, none⟩)]) v1 rs (List.replicate n false) w4) := hw4; have T4 : Hid (TR bo bo [] w4) := (by obtain ⟨v, h1, h2⟩ := T3.out.ex; exact ⟨⟨v, h1.below hb4 h1.lt, ownsRow_below h2 hb4 (Nat.le_refl _)⟩, T3.out.base, T3.out.most⟩); clear hw4 hb4)
    | (go_at_call 57; (with_reducible refine (walkR_any bo bm bn bk bt gm gV n bo v1 rs ps (TR bo bo) hn A3.out (fun p hp => (HPS.out p hp).2) hm (fun m t z x h1 h2 => TR.mark h1 h2) (fun m t z x h1 h2 h3 h4 => tellR bo bm bn bk bt gm gV n bo x _ v1 z rs m t (by omega) h3 h4 (by omega)) _ x _ [] w4 hx (Nat.le_refl _) (by simp [unm]) W4.out T4.out).mono ?_); rintro e w5 ⟨⟨v, rfl⟩, m5, t5, hw5, ht5, hd5, hm5⟩; have W5 : Hid (Wc bo bm bn bk bt gm gV n (.func (.func 25) #[] #[.pointer (some ⟨bo, 0, none⟩)]) v1 rs m5 w5) := hw5; have T5 : Hid (TR bo bo t5 w5) := ht5; have D5 : Hid (t5.Nodup ∧ ∀ y, y ∈ t5 ↔ Rch ps x y) := hd5.all hm5; have N5 : Hid (t5.length ≤ n) := (by have h9 := hd5.cnt; simp [unm] at h9; unfold Hid; omega); clear hw5 ht5 hd5 hm5))
  obtain ⟨vo, hxo, hoo⟩ := T5.out.ex
  have c5 := hxo.one
  have hiv : (t5.map fun (x : Nat) => Value.int .i64 (x : Int)) = ivs (t5.map fun (x : Nat) => (x : Int)) := by simp [ivs]
  rw [hiv] at hoo
  have hoo2 : w5.ownsRow bo 3 1 vo (t5.map fun (x : Nat) => (x : Int)).length (ivs (t5.map fun (x : Nat) => (x : Int))) := by rw [List.length_map]; exact hoo
  have RS : Hid (Calls Tryz.prog 26 #[vo] w5 fun e z' => e = .returned vo ∧ z'.ownsRow bo 3 1 vo (t5.map fun (x : Nat) => (x : Int)).length (ivs (sortI (t5.map fun (x : Nat) => (x : Int)))) ∧ w5.grownBy z' vo.ownBlock) := risingI_any bo vo _ w5 hoo2 (by rw [List.length_map]; have := N5.out; omega)
  have HOO : Hid (w5.ownsRow bo 3 1 vo (t5.map fun (x : Nat) => (x : Int)).length (ivs (t5.map fun (x : Nat) => (x : Int)))) := hoo2
  clear hxo hoo hoo2 hiv
  go_wp2_with (go_at_call 26; (with_reducible refine RS.out.mono ?_); rintro e w6 ⟨rfl, ho6, hg6⟩; have O6 : Hid (w6.ownsRow bo 3 1 vo (t5.map fun (x : Nat) => (x : Int)).length (ivs (sortI (t5.map fun (x : Nat) => (x : Int)))) ∧ w5.grownBy w6 vo.ownBlock) := ⟨ho6, hg6⟩; clear ho6 hg6)
  go_ret2
  have hwb : w.heap.size ≤ bo := by rw [← HQ2.out.1]; exact HB1.out.size
  have hbf : Below bo v1 w6 := W5.out.lv.bel.grown O6.out.2 W5.out.lv.base (fun k hk => (HOO.out.lt k hk).1)
  have hnd : (t5.map fun (x : Nat) => (x : Int)).Nodup := by
    refine List.Pairwise.map _ (fun a b h => ?_) D5.out.1
    omega
  obtain ⟨hs1, hs2⟩ := sorted_strict _ hnd
  refine ⟨vo, rfl, HB1.out.trans (hbf.mono hwb), sortI (t5.map fun (x : Nat) => (x : Int)), ?_, hs1, by simp [sortI]; exact N5.out, fun y => ?_⟩
  · have h9 := own_lower O6.out.1 hwb
    rw [show (sortI (t5.map fun (x : Nat) => (x : Int))).length = (t5.map fun (x : Nat) => (x : Int)).length by simp [sortI]]
    exact h9
  · rw [hs2, List.mem_map]
    constructor
    · rintro ⟨k, hk, rfl⟩
      exact ⟨k, rfl, (D5.out.2 k).1 hk⟩
    · rintro ⟨k, rfl, hk⟩
      exact ⟨k, (D5.out.2 k).2 hk, rfl⟩
end Go.Proofs.YtgijcbipnjmhgabGreat

namespace Go.Proofs.YtgijcbipnjmhgabGreat
open Go.ChangeShapes Go.WideShapes Go.ChangeAt Go.RowKit
set_option linter.unusedVariables false
set_option linter.unusedSimpArgs false

/-- what lineUp answers -/
structure Ln (N : Nat → List Int) (n : Nat) (os : List Int) : Prop where
  gd : Gd N n os
  no : ∀ x, ¬ Rdy N n os x
  nod : os.Nodup
  rng : ∀ y ∈ os, 0 ≤ y ∧ y < (n : Int)
theorem Bth.lenN {N D : Nat → List Int} {n : Nat} (h : Bth N D n) {x : Nat} (hx : x < n) : (N x).length ≤ n := nodup_le (h.nn x hx) (h.nr x hx)
theorem Bth.lenD {N D : Nat → List Int} {n : Nat} (h : Bth N D n) {x : Nat} (hx : x < n) : (D x).length ≤ n := nodup_le (h.dn x hx) (fun y hy => have := (h.iff x hx y).1 hy; ⟨this.1, this.2.1⟩)

set_option maxRecDepth 1000000 in
set_option maxHeartbeats 8000000 in
theorem lineUp_any (gV gD n : Nat) (N D : Nat → List Int) (w : World) (hN : Rl w.heap.size w gV n N) (hD : Rl w.heap.size w gD n D) (hb : Bth N D n) (hn : n ≤ 131072) :
    Calls Tryz.prog 20 #[.slice (some ⟨gV, 0, none⟩) n n, .slice (some ⟨gD, 0, none⟩) n n] w fun e w' => ∃ O os, e = .returned O ∧ w'.ownsRow w.heap.size 3 1 O os.length (flat os) ∧ Below w.heap.size w w' ∧ Ln N n os := by
  obtain ⟨i0, hi0, hz0, hz1, hz2⟩ := info_parts infoIntH
  have HN : Hid (Rl w.heap.size w gV n N) := hN
  have HD : Hid (Rl w.heap.size w gD n D) := hD
  have HBT : Hid (Bth N D n) := hb
  clear hN hD hb
  go_enter Tryz.func20, Tryz.ntmps20
  go_upto_region 2 with (fail)
  obtain ⟨w1, e1, hb1, hs1, X1⟩ := bx1 w #[.slice none 0 0] 78
  rw [e1]
  obtain ⟨B, hB⟩ : ∃ B, w.heap.size = B := ⟨_, rfl⟩
  obtain ⟨gm, hgm⟩ : ∃ gm, w1.heap.size = gm := ⟨_, rfl⟩
  rw [hB] at HN HD hb1 X1 ⊢
  have HB1 : Hid (Below B w w1) := hb1
  have HX1 : Hid (Bx w1 B #[.slice none 0 0] 78) := X1
  have HS1 : Hid (w.heap.size = B ∧ w1.heap.size = gm ∧ gm = B + 1) := ⟨hB, hgm, by omega⟩
  have hBle : B ≤ w1.heap.size := by omega
  clear e1 hb1 hs1 X1 hB
  have MK : Hid (∀ v1, v1.ownsRow B 3 1 (.slice (some ⟨gm, 0, none⟩) n n) n (madeCells (Value.int .i64 0).cells (n * 1)).toList → w1.grownBy v1 none → Lw2 B B gm n v1 (.slice none 0 0) [] (List.replicate n 0) (.slice none 0 0) [] ∧ Below B w v1) := fun v1 h1 h2 => by
    have hs := HS1.out
    refine ⟨⟨⟨HX1.out.grw h2 (by simp), World.ownsRow_nil _ _ _ _, Nat.le_refl _⟩, ?_, World.ownsRow_nil _ _ _ _, by simp [Value.ownBlock], by simp [Value.ownBlock], fun g h => by simp [Value.ownBlock] at h⟩, (HB1.out.grown h2 hBle (fun k h => by cases h))⟩
    rw [show (Value.int .i64 0).cells = #[.int .i64 0] by rfl, rep_made] at h1
    rw [show flat (List.replicate n (0 : Int)) = List.replicate n (Value.int .i64 0) by rw [flat_ints, List.map_replicate]]
    exact h1
  go_wp2_with (at_make; refine wpList_make_full _ rfl _ _ 32 rfl B 3 i0 (.int .i64 0) 1 Tryz.underlying32 hi0 hz0 hz1 _ _ _ _ n rfl rfl rfl rfl (by rw [hz2]; omega) (by unfold maxLen; omega) hBle ?_; intro v1 hown1 hgr1; rw [hgm] at hown1 ⊢; obtain ⟨h9, h8⟩ := MK.out v1 hown1 hgr1; have L1 := hidH h9; have E1 := hidH h8; clear h9 h8 hown1 hgr1)
  clear MK HX1 HB1
  go_loopg [18] n (fun gk si wr => ∃ (k : Nat) (V : Value) (xs ms : List Int), gk = n - k ∧ si = .int .i64 (k : Int) ∧ k ≤ n ∧ Lw2 B B gm n wr V xs ms (.slice none 0 0) [] ∧ Lf N n k xs ms ∧ Below B w wr)
  case atStart => exact ⟨0, _, _, _, rfl, rfl, Nat.zero_le _, L1.out, Lf.start N n, E1.out⟩
  case round =>
    clear L1 E1
    obtain ⟨k, V, xs, ms, hgk, rfl, hk, hL, hF, hE⟩ := hrel
    have LW := hidH hL
    have LF := hidH hF
    have HE := hidH hE
    clear hL hF hE
    by_cases hkn : k < n
    · have hkn' : (k : Int) < (n : Int) := by omega
      obtain ⟨aR, cR, cN, -⟩ := (HN.out.below HE.out).row k hkn
      obtain ⟨m, hm⟩ : ∃ m, (N k).length = m := ⟨_, rfl⟩
      rw [hm] at cN
      have hmn : m ≤ n := by rw [← hm]; exact HBT.out.lenN hkn
      have HM := hidH hm
      obtain ⟨cM, fM⟩ := LW.out.get hkn
      have LS := hidH (LW.out.set k (m : Int))
      have FS : Hid (∀ ys, (if m = 0 then ys = xs ++ [(k : Int)] else ys = xs) → Lf N n (k + 1) ys (ms.set k (m : Int))) := fun ys hy => by have h9 := LF.out.step hkn (ys := ys) (by rw [HM.out]; exact hy); rw [HM.out] at h9; exact h9
      have ES : Hid (Below B w (wr.setCell ⟨gm, k, none⟩ (.int .i64 (m : Int)))) := HE.out.setCell (p := ⟨gm, k, none⟩) (by have := HS1.out; simp; omega) _
      have kk : IntKind.i64.wrap ((k : Int) + 1) = ((k + 1 : Nat) : Int) := by rw [IntWalk.i64_in _ ⟨by omega, by omega⟩]; omega
      clear hm
      have gmN : n ≠ 0 := by omega
      by_cases hm0 : m = 0
      · subst hm0
        have LS0 : Hid (Lw2 B B gm n (wr.setCell ⟨gm, k, none⟩ (.int .i64 0)) V xs (ms.set k 0) (.slice none 0 0) []) := LS.out
        have ES0 : Hid (Below B w (wr.setCell ⟨gm, k, none⟩ (.int .i64 0))) := ES.out
        have FS0 := hidH (FS.out (xs ++ [(k : Int)]) (by rw [if_pos rfl]))
        clear LS ES FS
        go_upto_region 8 with (fail)
        obtain ⟨w2, hw2⟩ : ∃ w2, wr.setCell ⟨gm, k, none⟩ (.int .i64 0) = w2 := ⟨_, rfl⟩
        rw [hw2] at LS0 ES0 ⊢
        clear hw2
        obtain ⟨a, c, hV, -⟩ := LS0.out.hq.form
        subst hV
        obtain ⟨p, hp⟩ : ∃ p, xs.length = p := ⟨_, rfl⟩
        have hpk : p ≤ k := by rw [← hp]; exact LF.out.few
        have c0 := LS0.out.hq.at0
        have f0 := LS0.out.hq.box.free 0
        have z0 := LS0.out.hq.box.lt
        obtain ⟨zA, eA, hbA, hsA, BA⟩ := bx1 w2 #[.int .i64 (k : Int)] 3
        have LA := hidH (LS0.out.below hbA)
        have EA := hidH (ES0.out.trans (hbA.mono (by have := HS1.out; omega)))
        have NA : Hid (∀ j u, [Value.int .i64 (k : Int)][j]? = some u → zA.cell? ((⟨w2.heap.size, 0, none⟩ : Addr).add j) = some u) := by unfold Hid; rw [← eA]; exact cells_newH w2 [Value.int .i64 (k : Int)] 3
        have HEA := hidH eA
        have HSA := hidH hsA
        have HPP := hidH hp
        rw [hp] at c0 LA
        clear eA hbA hsA BA hp
        go_wp2_with (at_builtin; rw [HEA.out]; refine wpList_append_lies _ rfl _ _ 78 rfl B 3 i0 (.int .i64 0) 1 8 Tryz.underlying78 hi0 hz0 hz1 hz2 rfl (by decide) (.slice a p c) p (flat xs) rfl (by have h9 := LA.out.hq.row; rw [HPP.out] at h9; exact h9) ⟨w2.heap.size, 0, none⟩ 1 1 [Value.int .i64 (k : Int)] rfl rfl NA.out (by intro u hu; simp at hu; subst hu; rfl) (by decide) (by unfold maxLen; omega) (by omega) (by have := HSA.out; omega) (w2.heap.size + 1) HSA.out ?_; intro gg cp w9 hown9 hgrow9 hat9 hlt9; have L9 := hidH (LA.out.ready (V' := .slice (some ⟨gg, 0, none⟩) (p + 1) cp) (xs' := xs ++ [(k : Int)]) (by rw [flat_append, List.length_append, List.length_singleton, HPP.out]; exact hown9) hgrow9 (by have h7 := HSA.out; rcases hat9 with e | e; exact .inl e.symm; exact .inr ⟨gg, rfl, by omega⟩)); have X9 := LA.out.hq.box.grw hgrow9 (fun e => LA.out.hq.box.neR LA.out.hq.row (by decide) e rfl); have c9 := X9.one; have f9 := X9.free 0; have E9 := hidH ((EA.out.grown hgrow9 (by have := HSA.out; omega) (fun g e => (LA.out.hq.row.lt g e).1)).setCell (p := ⟨B, 0, none⟩) (Nat.le_refl _) (.slice (some ⟨gg, 0, none⟩) (p + 1) cp)); clear X9 hown9 hgrow9 hat9 hlt9)
        go_roundg (n - (k + 1))
        case measure => omega
        case rel => exact ⟨k + 1, _, _, _, rfl, rfl, by omega, L9.out, FS0.out, E9.out⟩
      · have hm1 : ((m : Int) == 0) = false := by rw [beq_eq_false_iff_ne]; omega
        have hm2 : ¬ (m : Int) = 0 := by omega
        go_wp2
        go_roundg (n - (k + 1))
        case measure => omega
        case rel => exact ⟨k + 1, V, xs, _, rfl, rfl, by omega, LS.out, FS.out xs (by rw [if_neg hm0]), ES.out⟩
    · have hkn' : ¬ (k : Int) < (n : Int) := by omega
      have hkn2 : k = n := by omega
      subst hkn2
      have LU := hidH LF.out.lu
      have HP := hidH LF.out.heap
      clear LF hk hkn hgk
      go_wp2
      go_loopg [9] k (fun gk s9 wq => ∃ (V : Value) (xs ms : List Int) (O : Value) (os : List Int), gk = k - os.length ∧ s9 = O ∧ Lw2 B B gm k wq V xs ms O os ∧ Lu N k os xs ms [] ∧ Hpp xs xs.length ∧ Below B w wq)
      case atStart => exact ⟨V, xs, ms, _, [], rfl, rfl, LW.out, LU.out, HP.out, HE.out⟩
      case round =>
        clear LU HP LW HE
        obtain ⟨V, xs, ms, O, os, hgk, hO, hL, hU, hP, hE⟩ := hrel
        subst hO
        have LW := hidH hL
        have LU := hidH hU
        have HP := hidH hP
        have HE := hidH hE
        have hfew := hU.few
        clear hL hU hP hE
        obtain ⟨a, c, hV, -⟩ := LW.out.hq.form
        have c0 := LW.out.hq.at0
        rw [hV] at c0
        have z0 := LW.out.hq.box.lt
        by_cases hx : xs = []
        · subst hx
          have c0' : wr.cell? ⟨B, 0, none⟩ = some (.slice a 0 c) := c0
          clear c0
          go_wp2
          go_ret
          refine ⟨_, os, rfl, ?_, ?_, LU.out.gd, LU.out.stop, LU.out.nos, LU.out.rng⟩
          · rw [HS1.out.1]; exact LW.out.ou
          · rw [HS1.out.1]; exact HE.out
        · obtain ⟨p, hp⟩ : ∃ p, xs.length = p + 1 := ⟨xs.length - 1, by have := List.length_pos_iff.2 hx; omega⟩
          rw [hp] at c0
          have hpk : p + 1 ≤ k := by omega
          have h0p : (0 : Int) < (p : Int) + 1 := by omega
          have HL := hidH hp
          have PP : Hid (Hpp xs (p + 1)) := by have h9 := HP.out; rw [hp] at h9; exact h9
          clear hp hV
          go_upto_region 13 with (first
            | (go_at_call 46; (with_reducible refine (pop_any p HL.out LW.out.hq PP.out (by omega)).mono ?_); rintro e w2 ⟨m, rfl, hmin, V2, ys, hq2, hp2, hl2, hr2, hn2, hm2⟩; have hta := ta_int m; have L2 := hidH (LW.out.heap hq2 (.inl hn2) hm2); have U2 := hidH (LU.out.pop HBT.out hr2 hmin); have P2 : Hid (Hpp ys ys.length) := (by unfold Hid; rw [hl2]; exact hp2); have E2 := hidH (HE.out.trans hm2.bel); have R2 := hidH ((LU.out.is m).1 (hr2.mem_iff.1 List.mem_cons_self)); clear hmin hq2 hp2 hl2 hr2 hn2 hm2))
          have R3 := R2.out
          obtain ⟨x, rfl⟩ : ∃ x : Nat, m = (x : Int) := ⟨m.toNat, by have := R3.1; omega⟩
          have hxk : x < k := by have := R3.2.1; omega
          have U3 : Hid (Lu N k (os ++ [(x : Int)]) ys ms (D x)) := U2.out
          clear R3 R2 U2 LW LU HP HE PP c0 hta
          obtain ⟨a2, c2, hO2, -, -⟩ := own_slice L2.out.ou
          subst hO2
          obtain ⟨q, hq⟩ : ∃ q, os.length = q := ⟨_, rfl⟩
          obtain ⟨zA, eA, hbA, hsA, BA⟩ := bx1 w2 #[.int .i64 (x : Int)] 3
          have LA := hidH (L2.out.below hbA)
          have EA := hidH (E2.out.trans (hbA.mono (by have h8 := L2.out.hq.box.lt; omega)))
          have NA : Hid (∀ j u, [Value.int .i64 (x : Int)][j]? = some u → zA.cell? ((⟨w2.heap.size, 0, none⟩ : Addr).add j) = some u) := by unfold Hid; rw [← eA]; exact cells_newH w2 [Value.int .i64 (x : Int)] 3
          have HEA := hidH eA
          have HSA := hidH hsA
          have HQ := hidH hq
          have hBz : B ≤ zA.heap.size := by have h8 := L2.out.hq.box.lt; omega
          rw [hq] at LA hfew ⊢
          have OA : Hid (zA.ownsRow B 3 1 (.slice a2 q c2) q (flat os)) := by have h9 := LA.out.ou; rw [HQ.out] at h9; exact h9
          clear eA hbA hsA BA hq L2 E2
          go_upto_region 14 with (at_builtin; rw [HEA.out]; refine wpList_append_lies _ rfl _ _ 32 rfl B 3 i0 (.int .i64 0) 1 8 Tryz.underlying32 hi0 hz0 hz1 hz2 rfl (by decide) (.slice a2 q c2) q (flat os) rfl OA.out ⟨w2.heap.size, 0, none⟩ 1 1 [Value.int .i64 (x : Int)] rfl rfl NA.out (by intro u hu; simp at hu; subst hu; rfl) (by decide) (by unfold maxLen; omega) (by omega) hBz (w2.heap.size + 1) HSA.out ?_; intro gg cp w9 hown9 hgrow9 hat9 hlt9; have L9 := hidH (LA.out.out (O' := .slice (some ⟨gg, 0, none⟩) (q + 1) cp) (os' := os ++ [(x : Int)]) (by rw [flat_append, List.length_append, List.length_singleton, HQ.out]; exact hown9) hgrow9 (by have h7 := HSA.out; rcases hat9 with e | e; exact .inl e.symm; exact .inr ⟨gg, rfl, by omega⟩)); have E9 := hidH (EA.out.grown hgrow9 hBz (fun g e => (OA.out.lt g e).1)); clear hown9 hgrow9 hat9 hlt9)
          obtain ⟨aD, cD, cX0, hrow⟩ := HD.out.row x hxk
          have cX := (E9.out.cell (p := ⟨gD, x, none⟩) HD.out.lt).trans cX0
          clear cX0
          obtain ⟨r, hr⟩ : ∃ r, (D x).length = r := ⟨_, rfl⟩
          have hrk : r ≤ k := by rw [← hr]; exact HBT.out.lenD hxk
          have HR := hidH hr
          have HW := hidH hrow
          rw [hr] at cX
          clear LA EA NA HEA HSA OA hrow hr
          go_wp2
          go_loopg [51] r (fun g3 s51 wq => ∃ (j : Nat) (V : Value) (xs ms : List Int), g3 = r - j ∧ s51 = .int .i64 (j : Int) ∧ j ≤ r ∧ Lw2 B B gm k wq V xs ms (.slice (some ⟨gg, 0, none⟩) (q + 1) cp) (os ++ [(x : Int)]) ∧ Lu N k (os ++ [(x : Int)]) xs ms ((D x).drop j) ∧ Hpp xs xs.length ∧ Below B w wq)
          case atStart => exact ⟨0, _, _, _, rfl, rfl, Nat.zero_le _, L9.out, U3.out, P2.out, E9.out⟩
          case round =>
            clear L9 U3 P2 E9 cX
            obtain ⟨j, V, xs, ms, hg3, rfl, hj, hL, hU, hP, hE⟩ := hrel
            have LW := hidH hL
            have LU := hidH hU
            have HP := hidH hP
            have HE := hidH hE
            clear hL hU hP hE
            by_cases hjr : j < r
            · have hjr' : (j : Int) < (r : Int) := by omega
              obtain ⟨y, hy⟩ : ∃ y, (D x)[j]? = some y := ⟨_, List.getElem?_eq_getElem (by rw [HR.out]; exact hjr)⟩
              have hyr := (HBT.out.iff x hxk y).1 (List.mem_of_getElem? hy)
              obtain ⟨yy, rfl⟩ : ∃ yy : Nat, y = (yy : Int) := ⟨y.toNat, by omega⟩
              have hyk : yy < k := by omega
              have U4 : Hid (Lu N k (os ++ [(x : Int)]) xs ms ((yy : Int) :: (D x).drop (j + 1))) := by
                have h9 := LU.out
                obtain ⟨hj9, e9⟩ := List.getElem?_eq_some_iff.1 hy
                rw [List.drop_eq_getElem_cons hj9, e9] at h9
                exact h9
              obtain ⟨-, hp1, hp2⟩ := U4.out.pos
              have hln := HBT.out.lenN hyk
              obtain ⟨g, hag, hg, hcell⟩ := HW.out (by rw [HR.out]; omega)
              subst hag
              have cY := (HE.out.cell (p := ⟨g, j, none⟩) hg).trans (hcell j _ hy)
              obtain ⟨cM, fM⟩ := LW.out.get hyk
              obtain ⟨v, hv⟩ : ∃ v, ms[yy]! = v := ⟨_, rfl⟩
              obtain ⟨u, hu⟩ : ∃ u, v - 1 = u := ⟨_, rfl⟩
              rw [hv] at cM hp1 hp2
              have kv : IntKind.i64.wrap (v - 1) = u := by rw [IntWalk.i64_in _ ⟨by omega, by omega⟩]; exact hu
              have ky : IntKind.i64.wrap (yy : Int) = (yy : Int) := by rw [IntWalk.i64_in _ ⟨by omega, by omega⟩]
              have kj : IntKind.i64.wrap ((j : Int) + 1) = ((j + 1 : Nat) : Int) := by rw [IntWalk.i64_in _ ⟨by omega, by omega⟩]; omega
              have LS := hidH (LW.out.set yy u)
              obtain ⟨cM2, fM2⟩ := LS.out.get hyk
              rw [get_set ms yy yy u (by rw [LW.out.mlen]; exact hyk), if_pos rfl] at cM2
              have ES : Hid (Below B w (wr.setCell ⟨gm, yy, none⟩ (.int .i64 u))) := HE.out.setCell (p := ⟨gm, yy, none⟩) (by have := HS1.out; simp; omega) _
              have U5 : Hid (∀ zs, (if u = 0 then zs.Perm (xs ++ [(yy : Int)]) else zs = xs) → Lu N k (os ++ [(x : Int)]) zs (ms.set yy u) ((D x).drop (j + 1))) := fun zs hz => by
                have h9 := U4.out.dec (ys := zs) (by rw [hv, hu]; exact hz)
                rw [hv, hu] at h9
                exact h9
              have hf5 := U4.out.few.2.1
              have HF5 := hidH hf5
              clear hy hyr hp1 hp2 hln hcell hv hu U4 LU LW HE hf5
              by_cases hu0 : u = 0
              · subst hu0
                have z5 := LS.out.hq.box.lt
                go_wp2_with (first
                  | (go_at_call 47; (with_reducible refine (push_any (yy : Int) LS.out.hq HP.out (by have := HF5.out; omega)).mono ?_); rintro e w5 ⟨⟨r5, rfl⟩, V5, zs, hq5, hp5, hr5, hn5, hm5⟩; have L5 := hidH (LS.out.heap hq5 hn5 hm5); have P5 := hidH hp5; have R5 := hidH hr5; have E5 := hidH (ES.out.trans hm5.bel); clear hq5 hp5 hr5 hn5 hm5))
                go_roundg (r - (j + 1))
                case measure => omega
                case rel => exact ⟨j + 1, V5, zs, _, rfl, rfl, by omega, L5.out, U5.out zs (by first | (rw [if_pos rfl]; exact R5.out) | (rw [if_pos trivial]; exact R5.out)), P5.out, E5.out⟩
              · have hu1 : (u == 0) = false := by rw [beq_eq_false_iff_ne]; exact hu0
                go_wp2
                go_roundg (r - (j + 1))
                case measure => omega
                case rel => exact ⟨j + 1, V, xs, _, rfl, rfl, by omega, LS.out, U5.out xs (by rw [if_neg hu0]), HP.out, ES.out⟩
            · have hjr' : ¬ (j : Int) < (r : Int) := by omega
              have hjr2 : ((r : Int) ≤ (j : Int)) = True := by simp; omega
              go_wp2
              go_roundg (k - (q + 1))
              case measure => have h7 := HQ.out; have h8 := HL.out; omega
              case rel => exact ⟨V, xs, ms, _, os ++ [(x : Int)], by rw [List.length_append, HQ.out]; rfl, rfl, LW.out, by have h9 := LU.out; rw [List.drop_eq_nil_of_le (by rw [HR.out]; omega)] at h9; exact h9, HP.out, HE.out⟩
end Go.Proofs.YtgijcbipnjmhgabGreat

namespace Go.Proofs.YtgijcbipnjmhgabGreat
open Go.ChangeShapes Go.WideShapes Go.ChangeAt Go.RowKit Go.Sort
set_option linter.unusedVariables false
set_option linter.unusedSimpArgs false

theorem rreach_bad (n x : Int) (a : Option Addr) (cap : Nat) (ps : List Pr) (w : World) (hL : LiesA w a ps) (hm : ps.length ≤ 8796093022208) (h : (things n ps && thg n x) = false) :
    Calls Tryz.prog 11 #[.int .i64 n, .slice a ps.length cap, .int .i64 x] w fun e w' => e = .returned (.tuple #[.slice none 0 0, .int .i64 1]) ∧ w' = w := by
  have BD : Hid (Calls Tryz.prog 29 #[.int .i64 n, .slice a ps.length cap] w fun e w' => e = .returned (.bool (!things n ps)) ∧ w' = w) := rbad_any n a cap ps w hL (by omega)
  cases ht : things n ps with
  | false =>
    rw [ht] at BD
    go_enter Tryz.func11, Tryz.ntmps11
    go_wp2_with (go_at_call 29; (with_reducible refine BD.out.mono ?_); rintro e v1 ⟨rfl, rfl⟩)
    go_ret2
    exact ⟨rfl, rfl⟩
  | true =>
    rw [ht] at BD h
    have hx : thg n x = false := by simpa using h
    unfold thg at hx
    by_cases h0 : x < 0
    · go_enter Tryz.func11, Tryz.ntmps11
      go_wp2_with (go_at_call 29; (with_reducible refine BD.out.mono ?_); rintro e v1 ⟨rfl, rfl⟩)
      go_ret2
      exact ⟨rfl, rfl⟩
    · have h1 : n ≤ x := by
        rw [decide_eq_true (show 0 ≤ x by omega)] at hx
        simp at hx
        exact hx
      clear hx h
      go_enter Tryz.func11, Tryz.ntmps11
      go_wp2_with (go_at_call 29; (with_reducible refine BD.out.mono ?_); rintro e v1 ⟨rfl, rfl⟩)
      go_ret2
      exact ⟨rfl, rfl⟩
theorem reach_bad (n x : Int) (a : Option Addr) (cap : Nat) (ps : List Pr) (w : World) (hL : LiesA w a ps) (hm : ps.length ≤ 8796093022208) (h : (things n ps && thg n x) = false) :
    Calls Tryz.prog 7 #[.int .i64 n, .slice a ps.length cap, .int .i64 x] w fun e w' => e = .returned (.tuple #[.slice none 0 0, .int .i64 1]) ∧ Below w.heap.size w w' := by
  have AT : Hid (Calls Tryz.prog 17 #[.int .i64 n, .slice a ps.length cap] w fun e w' => e = .returned (.bool (things n ps)) ∧ Below w.heap.size w w') := areThings_any n a cap ps w hL (by omega)
  cases ht : things n ps with
  | false =>
    rw [ht] at AT
    go_enter Tryz.func7, Tryz.ntmps7
    go_wp2_with (go_at_call 17; (with_reducible refine AT.out.mono ?_); rintro e v1 ⟨rfl, hb1⟩; have HB1 : Hid (Below w.heap.size w v1) := hb1; clear hb1)
    go_ret2
    exact ⟨rfl, HB1.out⟩
  | true =>
    rw [ht] at AT h
    have hx : thg n x = false := by simpa using h
    go_enter Tryz.func7, Tryz.ntmps7
    go_wp2_with (first
      | (go_at_call 17; (with_reducible refine AT.out.mono ?_); rintro e v1 ⟨rfl, hb1⟩; have HB1 : Hid (Below w.heap.size w v1) := hb1; clear hb1)
      | (go_at_call 23; (with_reducible refine (isThing_any n x _).mono ?_); rintro e v2 ⟨rfl, hv⟩; have hv2 := hv.symm; clear hv; subst hv2; rw [hx]))
    go_ret2
    exact ⟨rfl, HB1.out⟩

set_option maxRecDepth 1000000 in
set_option maxHeartbeats 4000000 in
theorem rreach_ok (n x cap : Nat) (a : Option Addr) (ps : List Pr) (w : World) (hL : LiesA w a ps) (hm : ps.length ≤ 8796093022208) (ht : things (n : Int) ps = true) (hx : x < n) :
    Calls Tryz.prog 11 #[.int .i64 (n : Int), .slice a ps.length cap, .int .i64 (x : Int)] w fun e w' => ∃ v, e = .returned (.tuple #[v, .int .i64 0]) ∧ Below w.heap.size w w' ∧ ∃ zs, w'.ownsRow w.heap.size 3 1 v zs.length (ivs zs) ∧ RL n ps x zs := by
  obtain ⟨i0, hi, hz0, hz1, hz2⟩ := info_parts infoInt
  obtain ⟨hn, hps⟩ := things_spec ht
  have BD : Hid (Calls Tryz.prog 29 #[.int .i64 (n : Int), .slice a ps.length cap] w fun e w' => e = .returned (.bool false) ∧ w' = w) := by have h9 := rbad_any (n : Int) a cap ps w hL (by omega); rw [ht] at h9; exact h9
  have RW : Hid (Calls Tryz.prog 30 #[.int .i64 (n : Int), .slice a ps.length cap, .int .i64 1] w fun e w' => e = .returned (.slice (some ⟨w.heap.size, 0, none⟩) n n) ∧ ∃ rs, Lw w.heap.size w.heap.size n w w' rs ∧ Ad .i64 ps rs) := rows1_any n cap a ps w hL hn hm hps
  have HPS : Hid (∀ p ∈ ps, 0 ≤ p.b ∧ p.b < (n : Int)) := fun p hp => (hps p hp).2
  have h0 : ¬ (x : Int) < 0 := by omega
  have h1 : ¬ (n : Int) ≤ (x : Int) := by omega
  obtain ⟨B, hB⟩ : ∃ B, w.heap.size = B := ⟨_, rfl⟩
  have HBq : Hid (w.heap.size = B) := hB
  rw [hB] at RW
  clear hL hps hB
  go_enter Tryz.func11, Tryz.ntmps11
  go_upto_region 6 with (first
    | (go_at_call 29; (with_reducible refine BD.out.mono ?_); rintro e v1 ⟨rfl, hv⟩; have hv2 := hv.symm; clear hv; subst hv2)
    | (go_at_call 30; (with_reducible refine RW.out.mono ?_); rintro e w1 ⟨rfl, rs, hl1, ha1⟩; have L1 : Hid (Lw B B n w w1 rs) := hl1; have A1 : Hid (Ad .i64 ps rs) := ha1; clear hl1 ha1)
    | (go_at_call 36; (with_reducible refine (reached_any B B n x w w1 rs ps hn hx L1.out A1.out HPS.out hm).mono ?_); rintro e w2 ⟨rfl, hb2, m, ho2, hl2, hr2⟩; have HB2 : Hid (Below w1.heap.size w1 w2) := hb2; have O2 : Hid (w2.ownsRow w1.heap.size 4 1 (.slice (some ⟨w1.heap.size, 0, none⟩) n n) n (m.map Value.bool)) := ho2; have M2 : Hid (m.length = n ∧ ∀ y : Nat, m[y]? = some true ↔ Rch ps x y) := ⟨hl2, hr2⟩; clear hb2 ho2 hl2 hr2))
  obtain ⟨C, hC⟩ : ∃ C, w2.heap.size = C := ⟨_, rfl⟩
  obtain ⟨gm, hgm⟩ : ∃ g, w1.heap.size = g := ⟨_, rfl⟩
  have HC : Hid (w2.heap.size = C ∧ w1.heap.size = gm) := ⟨hC, hgm⟩
  rw [hgm] at O2 ⊢
  have HBW : Hid (Below B w w2) := L1.out.bel.trans (HB2.out.mono (by rw [← HBq.out] at L1 ⊢; exact L1.out.base))
  have HBC : Hid (B ≤ C) := by have h1 := L1.out.base; have h2 := HB2.out.size; unfold Hid; omega
  have CM : Hid (∀ z (k : Nat) b, Below C w2 z → m[k]? = some b → z.cell? ⟨gm, k, none⟩ = some (.bool b)) := by
    intro z k b hz hk
    have h1 := O2.out.cells rfl k (.bool b) (by rw [List.getElem?_map, hk]; rfl)
    rw [addr_add, Nat.zero_add] at h1
    exact (hz.cell (p := ⟨gm, k, none⟩) (by rw [← hC]; exact (O2.out.lt gm rfl).2)).trans h1
  clear hC hgm BD RW
  go_loopg [9, 10] n (fun gk s9 s10 wr => ∃ (i : Nat) (v9 : Value) (zs : List Int), s9 = v9 ∧ s10 = .int .i64 (i : Int) ∧ gk = n - i ∧ i ≤ n ∧ wr.ownsRow C 3 1 v9 zs.length (ivs zs) ∧ Below C w2 wr ∧ C ≤ wr.heap.size ∧ zs.Pairwise (· < ·) ∧ zs.length ≤ i ∧ ∀ y : Int, y ∈ zs ↔ ∃ k : Nat, y = (k : Int) ∧ k < i ∧ m[k]? = some true)
  case atStart => exact ⟨0, _, [], rfl, rfl, rfl, Nat.zero_le _, World.ownsRow_nil _ _ _ _, Below.refl _ _, by rw [HC.out.1]; exact Nat.le_refl _, List.Pairwise.nil, Nat.le_refl _, fun y => by simp⟩
  case round =>
    obtain ⟨i, v9, zs, hv9, rfl, hgk, hin, ho, hb, hc, hp, hl, hmem⟩ := hrel
    have hv9' := hv9.symm
    clear hv9
    subst hv9'
    obtain ⟨a9, c9, hv, -, -⟩ := own_slice ho
    subst hv
    have HO : Hid (wr.ownsRow C 3 1 (.slice a9 zs.length c9) zs.length (ivs zs)) := ho
    have HB : Hid (Below C w2 wr ∧ C ≤ wr.heap.size) := ⟨hb, hc⟩
    have HZ : Hid (zs.Pairwise (· < ·) ∧ zs.length ≤ i ∧ ∀ y : Int, y ∈ zs ↔ ∃ k : Nat, y = (k : Int) ∧ k < i ∧ m[k]? = some true) := ⟨hp, hl, hmem⟩
    have hzl : zs.length ≤ 131072 := by omega
    clear ho hb hc hp hl hmem
    by_cases hin2 : i < n
    · have hin2' : (i : Int) < (n : Int) := by omega
      obtain ⟨b, hb⟩ : ∃ b, m[i]? = some b := ⟨_, List.getElem?_eq_getElem (by rw [M2.out.1]; exact hin2)⟩
      have HMI : Hid (m[i]? = some b) := hb
      have cm := CM.out wr i b HB.out.1 hb
      clear hb
      cases b with
      | false =>
        go_wp2
        go_roundg (n - (i + 1))
        case measure => omega
        case rel =>
          refine ⟨i + 1, _, zs, rfl, by go_num, rfl, by omega, HO.out, HB.out.1, HB.out.2, HZ.out.1, by have := HZ.out.2.1; omega, fun y => ?_⟩
          rw [HZ.out.2.2 y]
          constructor
          · rintro ⟨k, h1, h2, h3⟩; exact ⟨k, h1, by omega, h3⟩
          · rintro ⟨k, h1, h2, h3⟩
            refine ⟨k, h1, ?_, h3⟩
            rcases Nat.lt_succ_iff_lt_or_eq.1 h2 with h | h
            · exact h
            · subst h; exact (tf h3 HMI.out).elim
      | true =>
        obtain ⟨zA, eA, hbA, hsA, BA⟩ := bx1 wr #[.int .i64 (i : Int)] 3
        have OA : Hid (zA.ownsRow C 3 1 (.slice a9 zs.length c9) zs.length (ivs zs)) := ownsRow_below HO.out hbA (Nat.le_refl _)
        have NA : Hid (∀ j u, [Value.int .i64 (i : Int)][j]? = some u → zA.cell? ((⟨wr.heap.size, 0, none⟩ : Addr).add j) = some u) := by unfold Hid; rw [← eA]; exact cells_newR wr [Value.int .i64 (i : Int)] 3
        have HSA : Hid (zA.heap.size = wr.heap.size + 1) := hsA
        have HEA : Hid (wr.alloc (.cells #[.int .i64 (i : Int)] 3) = zA) := eA
        have HBA : Hid (Below C w2 zA ∧ C ≤ zA.heap.size) := ⟨HB.out.1.trans (hbA.mono HB.out.2), Nat.le_trans HB.out.2 hbA.size⟩
        clear eA hbA hsA BA
        go_wp2_with (at_builtin; rw [HEA.out]; refine wpList_append_lies _ rfl _ _ 32 rfl C 3 i0 (.int .i64 0) 1 8 Tryz.underlying32 hi hz0 hz1 hz2 rfl (by decide) (.slice a9 zs.length c9) zs.length (ivs zs) rfl OA.out ⟨wr.heap.size, 0, none⟩ 1 1 [Value.int .i64 (i : Int)] rfl rfl NA.out (by intro u hu; simp at hu; subst hu; rfl) (by decide) (by unfold maxLen; omega) (by omega) HBA.out.2 (wr.heap.size + 1) HSA.out ?_; intro gg cp w9 hown9 hgrow9 hat9 hlt9; have O9 : Hid (w9.ownsRow C 3 1 (.slice (some ⟨gg, 0, none⟩) (zs.length + 1) cp) (zs.length + 1) (ivs zs ++ [Value.int .i64 (i : Int)])) := hown9; have B9 : Hid (Below C w2 w9 ∧ C ≤ w9.heap.size) := ⟨HBA.out.1.grown hgrow9 HBA.out.2 (fun k hk => (OA.out.lt k hk).1), Nat.le_trans HBA.out.2 hgrow9.size⟩; clear hown9 hgrow9 hat9 hlt9)
        go_roundg (n - (i + 1))
        case measure => omega
        case rel =>
          refine ⟨i + 1, _, zs ++ [(i : Int)], rfl, by go_num, rfl, by omega, ?_, B9.out.1, B9.out.2, ?_, ?_, fun y => ?_⟩
          · have h9 := O9.out
            rw [List.length_append, show ivs (zs ++ [(i : Int)]) = ivs zs ++ [Value.int .i64 (i : Int)] by simp [ivs]]
            exact h9
          · refine List.pairwise_append.2 ⟨HZ.out.1, by simp, fun p hp q hq => ?_⟩
            rw [List.mem_singleton] at hq
            obtain ⟨k, h1, h2, _⟩ := (HZ.out.2.2 p).1 hp
            omega
          · have := HZ.out.2.1; simp; omega
          · rw [List.mem_append, List.mem_singleton, HZ.out.2.2 y]
            constructor
            · rintro (⟨k, h1, h2, h3⟩ | h)
              · exact ⟨k, h1, by omega, h3⟩
              · exact ⟨i, h, by omega, HMI.out⟩
            · rintro ⟨k, h1, h2, h3⟩
              rcases Nat.lt_succ_iff_lt_or_eq.1 h2 with h | h
              · exact .inl ⟨k, h1, h, h3⟩
              · subst h; exact .inr h1
    · have hin2' : ¬ (i : Int) < (n : Int) := by omega
      go_wp2
      go_ret2
      refine ⟨_, rfl, ?_, zs, ?_, HZ.out.1, by have := HZ.out.2.1; omega, fun y => ?_⟩
      · rw [HBq.out]; exact HBW.out.trans (HB.out.1.mono HBC.out)
      · rw [HBq.out]; exact own_lower HO.out HBC.out
      · rw [HZ.out.2.2 y]
        constructor
        · rintro ⟨k, h1, h2, h3⟩; exact ⟨k, h1, (M2.out.2 k).1 h3⟩
        · rintro ⟨k, h1, h2⟩
          have h3 := (M2.out.2 k).2 h2
          refine ⟨k, h1, ?_, h3⟩
          have := (List.getElem?_eq_some_iff.1 h3).1
          rw [M2.out.1] at this
          omega
end Go.Proofs.YtgijcbipnjmhgabGreat

namespace Go.Proofs.YtgijcbipnjmhgabGreat
open Go.ChangeShapes Go.WideShapes Go.ChangeAt Go.RowKit Go.Sort
set_option linter.unusedVariables false
set_option linter.unusedSimpArgs false

theorem RL.one {n x : Nat} {ps : List Pr} {zs ys : List Int} (h : RL n ps x zs) (k : RL n ps x ys) : zs = ys := sorted_unique zs ys h.1 k.1 (fun y => (h.2.2 y).trans (k.2.2 y).symm)
end Go.Proofs.YtgijcbipnjmhgabGreat
