import Derived.Test.YtgijcbipnjmhgaaGr5
import Derived.Test.YtgijcbipnjmhgaaGr3
import Derived.Sort.OwnSorted
namespace Go.Proofs.Ytgijcbipnjmhgaa
open Go.ChangeShapes Go.WideShapes Go.ChangeAt Go.RowKit Go.Sort
set_option linter.unusedVariables false
set_option linter.unusedSimpArgs false

abbrev ivs (xs : List Int) : List Value := xs.map (Value.int .i64)
abbrev sortI (xs : List Int) : List Int := xs.mergeSort fun x y => decide (x ≤ y)
theorem holds_ints {w : World} {g : Nat} {cur : Array Value} {e : TypeId} {ss : List Int} (hb : w.heap[g]? = some (.cells cur e (0, 0))) (ht : cur.toList.take ss.length = ivs ss) : Holds (Value.int .i64) w g 0 ss.toArray := by
  intro j hj
  have hj' : j < ss.length := by simpa using hj
  refine ⟨?_, by simp [World.frozen?, hb]⟩
  have h1 : (cur.toList.take ss.length)[j]? = (ivs ss)[j]? := by rw [ht]
  rw [List.getElem?_take_of_lt hj'] at h1
  simp only [World.cell?, hb, Nat.zero_add]
  simp only [Option.isSome_none, Bool.false_eq_true, if_false]
  rw [← Array.getElem?_toList, h1]
  simp [ivs, hj']
theorem sorted_heap {w : World} {g n : Nat} {os : Array Obj} {cur : Array Value} {e : TypeId} {fr : Nat × Nat} (d : Array Int) (hb : w.heap[g]? = some (.cells cur e fr)) :
    (grow (putRow (Value.int .i64) (Sort.ahead w n) g 0 d) os).heap[g]? = some (.cells (putCells (Value.int .i64) 0 d cur) e fr) := by
  have hg : g < w.heap.size := (Array.getElem?_eq_some_iff.1 hb).1
  rw [heap_grow_old _ _ (by simpa using hg)]
  simp [putRow, mapBlock, Sort.ahead, Array.getElem?_modify, hb, onCells]
theorem sorted_grown {w : World} {g n : Nat} {os : Array Obj} (d : Array Int) : w.grownBy (grow (putRow (Value.int .i64) (Sort.ahead w n) g 0 d) os) (some g) := by
  refine ⟨rfl, rfl, rfl, by simp, fun k hk hne => ?_⟩
  rw [heap_grow_old _ _ (by simpa using hk)]
  have : g ≠ k := fun e => hne (by rw [e])
  simp [putRow, mapBlock, Sort.ahead, Array.getElem?_modify, this]
theorem sorted_cells (cur : Array Value) (ts : List Int) (h : ts.length ≤ cur.size) : (putCells (Value.int .i64) 0 ts.toArray cur).toList.take ts.length = ivs ts := by
  apply List.ext_getElem?
  intro j
  by_cases hj : j < ts.length
  · rw [List.getElem?_take_of_lt hj, Array.getElem?_toList]
    simp [putCells, hj, show j < cur.size by omega]
  · rw [List.getElem?_take_eq_none (by omega), List.getElem?_eq_none (by simp; omega)]
theorem risingI_any (B : Nat) (v : Value) (xs : List Int) (z : World) (h : z.ownsRow B 3 1 v xs.length (ivs xs)) (hn : xs.length ≤ 70368744177664) :
    Calls Try.prog 27 #[v] z fun e z' => e = .returned v ∧ z'.ownsRow B 3 1 v xs.length (ivs (sortI xs)) ∧ z.grownBy z' v.ownBlock := by
  rcases h.2 with ⟨hv, h0⟩ | ⟨g, cap, cur, rfl, hbase, hb, h1, h2, h3, h4⟩
  · subst hv
    have hx : xs = [] := List.eq_nil_of_length_eq_zero h0
    subst hx
    have HS := Try.slices_Sort_int_none Option.none 0 z
    go_enter Try.func27, Try.ntmps27
    go_wp2_with (go_at_call 42; (with_reducible refine HS.mono ?_); rintro e v1 ⟨rfl, rfl⟩)
    go_ret
    refine ⟨rfl, ?_, World.grownBy.refl _ _⟩
    rw [show sortI [] = [] from List.mergeSort_nil]
    exact World.ownsRow_nil _ _ _ _
  · rw [Nat.mul_one] at h4
    have HS := Try.slices_Sort_int g 0 cap xs z (holds_ints hb h4) (Array.getElem?_eq_some_iff.1 hb).1 (by omega)
    have HF : Hid (∀ n os, (grow (putRow (Value.int .i64) (Sort.ahead z n) g 0 (sortI xs).toArray) os).ownsRow B 3 1 (.slice (some ⟨g, 0, none⟩) xs.length cap) xs.length (ivs (sortI xs)) ∧ z.grownBy (grow (putRow (Value.int .i64) (Sort.ahead z n) g 0 (sortI xs).toArray) os) (some g)) := fun n os => by
      have hl : (sortI xs).length = xs.length := by simp [sortI]
      refine ⟨⟨by simp [ivs, hl], .inr ⟨g, cap, _, rfl, hbase, sorted_heap _ hb, h1, h2, by simp [putCells, h3], ?_⟩⟩, sorted_grown _⟩
      have h9 := sorted_cells cur (sortI xs) (by rw [hl]; omega)
      rw [hl] at h9
      rw [Nat.mul_one]
      exact h9
    have HS2 : Hid (Calls Try.prog 42 #[.slice (some ⟨g, 0, none⟩) xs.length cap] z fun e w' => e = .returned (.tuple #[]) ∧ w'.ownsRow B 3 1 (.slice (some ⟨g, 0, none⟩) xs.length cap) xs.length (ivs (sortI xs)) ∧ z.grownBy w' (some g)) := HS.mono (fun e w' ⟨h1, n, os, h2⟩ => ⟨h1, by rw [h2]; exact (HF.out n os).1, by rw [h2]; exact (HF.out n os).2⟩)
    clear HS HF h h1 h2 h3 h4 hb
    go_enter Try.func27, Try.ntmps27
    go_wp2_with (go_at_call 42; (with_reducible refine HS2.out.mono ?_); rintro e v1 ⟨rfl, ho, hg⟩; have HO : Hid (v1.ownsRow B 3 1 (.slice (some ⟨g, 0, none⟩) xs.length cap) xs.length (ivs (sortI xs)) ∧ z.grownBy v1 (some g)) := ⟨ho, hg⟩; clear ho hg)
    go_ret
    exact ⟨rfl, HO.out.1, HO.out.2⟩
theorem own_lower {w : World} {B B' e s n : Nat} {v : Value} {xs : List Value} (h : w.ownsRow B e s v n xs) (hb : B' ≤ B) : w.ownsRow B' e s v n xs :=
  ⟨h.1, h.2.imp id fun ⟨g, cap, cur, h1, h2, h3⟩ => ⟨g, cap, cur, h1, Nat.le_trans hb h2, h3⟩⟩
theorem Lv.lower {B B' gV n : Nat} {w0 w0' w : World} {rs : List Rr} (h : Lv B gV n w0 w rs) (hb : B' ≤ B) (h0 : Below B' w0' w) : Lv B' gV n w0' w rs :=
  ⟨⟨own_lower h.she.outV hb, own_lower h.she.outU hb, fun r hr => own_lower (h.she.each r hr) hb, h.she.apart, h.she.outs⟩, h.len, h0, Nat.le_trans hb h.base⟩
/-- the list of what can be come to -/
def RL (n : Nat) (ps : List Pr) (x : Nat) (zs : List Int) : Prop := zs.Pairwise (· < ·) ∧ zs.length ≤ n ∧ ∀ y : Int, y ∈ zs ↔ ∃ k : Nat, y = (k : Int) ∧ Rch ps x k

set_option maxRecDepth 1000000 in
set_option maxHeartbeats 4000000 in
theorem reach_ok (n x cap : Nat) (a : Option Addr) (ps : List Pr) (w : World) (hL : LiesA w a ps) (hm : ps.length ≤ 17592186044416) (ht : things (n : Int) ps = true) (hx : x < n) :
    Calls Try.prog 10 #[.int .i64 (n : Int), .slice a ps.length cap, .int .i64 (x : Int)] w fun e w' => ∃ v, e = .returned (.tuple #[v, .int .i64 0]) ∧ Below w.heap.size w w' ∧ ∃ zs, w'.ownsRow w.heap.size 3 1 v zs.length (ivs zs) ∧ RL n ps x zs := by
  have hmf : ∀ (fn : Fn) (first cap : Array Value) (w : World), (Instr.makeFunc fn first cap).run Try.prog w = .ok (.func fn first cap) w := fun _ _ _ _ => rfl
  obtain ⟨hn, hps⟩ := things_spec ht
  have HL : Hid (LiesA w a ps) := hL
  have HPS : Hid (∀ p ∈ ps, (0 ≤ p.a ∧ p.a < (n : Int)) ∧ (0 ≤ p.b ∧ p.b < (n : Int))) := hps
  have htx : thg (n : Int) (x : Int) = true := by unfold thg; simp; omega
  have AT : Hid (Calls Try.prog 22 #[.int .i64 (n : Int), .slice a ps.length cap] w fun e w' => e = .returned (.bool true) ∧ Below w.heap.size w w') := by unfold Hid; rw [← ht]; exact areThings_any (n : Int) a cap ps w hL hm
  have IT : Hid (∀ w, Calls Try.prog 23 #[.int .i64 (n : Int), .int .i64 (x : Int)] w fun e w' => e = .returned (.bool true) ∧ w' = w) := fun w => by rw [← htx]; exact isThing_any _ _ w
  obtain ⟨B0, hB0⟩ : ∃ B0, w.heap.size = B0 := ⟨_, rfl⟩
  have HB0 : Hid (w.heap.size = B0) := hB0
  clear hL hps htx hB0 ht
  go_enter Try.func10, Try.ntmps10
  go_upto_region 4 with (first
    | (go_at_call 22; (with_reducible refine AT.out.mono ?_); rintro e v1 ⟨rfl, hb1⟩; have HB1 : Hid (Below w.heap.size w v1) := hb1; clear hb1)
    | (go_at_call 23; (with_reducible refine (IT.out _).mono ?_); rintro e v2 ⟨rfl, hv⟩; have hv2 := hv.symm; clear hv; subst hv2))
  obtain ⟨w2, e2, hb2, hs2, B2⟩ := bx1 v1 #[.slice none 0 0] 24
  rw [e2]
  obtain ⟨bo, hbo⟩ : ∃ bo, v1.heap.size = bo := ⟨_, rfl⟩
  rw [hbo] at B2 hs2 ⊢
  have HB2 : Hid (Below bo v1 w2) := by unfold Hid; rw [← hbo]; exact hb2
  have HX2 : Hid (Bx w2 bo #[.slice none 0 0] 24) := B2
  have HQ2 : Hid (v1.heap.size = bo ∧ w2.heap.size = bo + 1) := ⟨hbo, hs2⟩
  have L2 : Hid (LiesA w2 a ps) := by
    have h1 := HL.out
    have h2 : Below w.heap.size w w2 := HB1.out.trans (hb2.mono HB1.out.size)
    exact h1.below h2
  have LS : Hid (Calls Try.prog 25 #[.int .i64 (n : Int), .slice a ps.length cap] w2 fun e w' => e = .returned (.slice (some ⟨w2.heap.size, 0, none⟩) n n) ∧ ∃ rs, Lv w2.heap.size w2.heap.size n w2 w' rs ∧ Ad .i32 ps rs) := lists_any n cap a ps w2 L2.out hn hm HPS.out
  obtain ⟨gV, hgV⟩ : ∃ g, w2.heap.size = g := ⟨_, rfl⟩
  have HGV : Hid (w2.heap.size = gV) := hgV
  rw [hgV] at LS
  clear e2 hb2 B2 hs2 hbo hgV
  have CONT : Hid (∀ w3 rs, Lv gV gV n w2 w3 rs → Lv bo gV n v1 w3 rs ∧ TR bo bo [] w3) := by
    intro w3 rs h3
    have h1 : Below bo v1 w3 := HB2.out.trans (h3.bel.mono (by have := HQ2.out.2; have := HGV.out; omega))
    have h4 : Bx w3 bo #[.slice none 0 0] 24 := HX2.out.below h3.bel (by have := HQ2.out.2; have := HGV.out; omega)
    exact ⟨h3.lower (by have := HQ2.out.2; have := HGV.out; omega) h1, ⟨⟨_, h4, World.ownsRow_nil _ _ _ _⟩, Nat.le_refl _, Nat.zero_le _⟩⟩
  go_upto_region 5 with (first
    | (go_at_call 25; (with_reducible refine LS.out.mono ?_); rintro e w3 ⟨rfl, rs, hl3, ha3⟩; obtain ⟨h31, h32⟩ := CONT.out w3 rs hl3; have LV3 : Hid (Lv bo gV n v1 w3 rs) := h31; have T3 : Hid (TR bo bo [] w3) := h32; have A3 : Hid (Ad .i32 ps rs) := ha3; clear h31 h32 hl3 ha3)
    | (go_at_call 24; (with_reducible refine (walkerR_any bo gV n bo v1 w3 rs hn LV3.out).mono ?_); rintro e w4 ⟨bm, bn, bk, bt, gm, rfl, hw4, hb4⟩; have W4 : Hid (Wc bo bm bn bk bt gm gV n (.func (.func 26) #[] #[.pointer (some ⟨bo, 0, none⟩)]) v1 rs (List.replicate n false) w4) := hw4; have T4 : Hid (TR bo bo [] w4) := (by obtain ⟨v, h1, h2⟩ := T3.out.ex; exact ⟨⟨v, h1.below hb4 h1.lt, ownsRow_below h2 hb4 (Nat.le_refl _)⟩, T3.out.base, T3.out.most⟩); clear hw4 hb4)
    | (go_at_call 39; (with_reducible refine (walkR_any bo bm bn bk bt gm gV n bo v1 rs ps (TR bo bo) hn A3.out (fun p hp => (HPS.out p hp).2) hm (fun m t z x h1 h2 => TR.mark h1 h2) (fun m t z x h1 h2 h3 h4 => tellR bo bm bn bk bt gm gV n bo x _ v1 z rs m t (by omega) h3 h4 (by omega)) _ x _ [] w4 hx (Nat.le_refl _) (by simp [unm]) W4.out T4.out).mono ?_); rintro e w5 ⟨⟨v, rfl⟩, m5, t5, hw5, ht5, hd5, hm5⟩; have W5 : Hid (Wc bo bm bn bk bt gm gV n (.func (.func 26) #[] #[.pointer (some ⟨bo, 0, none⟩)]) v1 rs m5 w5) := hw5; have T5 : Hid (TR bo bo t5 w5) := ht5; have D5 : Hid (t5.Nodup ∧ ∀ y, y ∈ t5 ↔ Rch ps x y) := hd5.all hm5; have N5 : Hid (t5.length ≤ n) := (by have h9 := hd5.cnt; simp [unm] at h9; unfold Hid; omega); clear hw5 ht5 hd5 hm5))
  obtain ⟨vo, hxo, hoo⟩ := T5.out.ex
  have c5 := hxo.one
  have hiv : (t5.map fun (x : Nat) => Value.int .i64 (x : Int)) = ivs (t5.map fun (x : Nat) => (x : Int)) := by simp [ivs]
  rw [hiv] at hoo
  have hoo2 : w5.ownsRow bo 3 1 vo (t5.map fun (x : Nat) => (x : Int)).length (ivs (t5.map fun (x : Nat) => (x : Int))) := by rw [List.length_map]; exact hoo
  have RS : Hid (Calls Try.prog 27 #[vo] w5 fun e z' => e = .returned vo ∧ z'.ownsRow bo 3 1 vo (t5.map fun (x : Nat) => (x : Int)).length (ivs (sortI (t5.map fun (x : Nat) => (x : Int)))) ∧ w5.grownBy z' vo.ownBlock) := risingI_any bo vo _ w5 hoo2 (by rw [List.length_map]; have := N5.out; omega)
  have HOO : Hid (w5.ownsRow bo 3 1 vo (t5.map fun (x : Nat) => (x : Int)).length (ivs (t5.map fun (x : Nat) => (x : Int)))) := hoo2
  clear hxo hoo hoo2 hiv
  go_wp2_with (go_at_call 27; (with_reducible refine RS.out.mono ?_); rintro e w6 ⟨rfl, ho6, hg6⟩; have O6 : Hid (w6.ownsRow bo 3 1 vo (t5.map fun (x : Nat) => (x : Int)).length (ivs (sortI (t5.map fun (x : Nat) => (x : Int)))) ∧ w5.grownBy w6 vo.ownBlock) := ⟨ho6, hg6⟩; clear ho6 hg6)
  go_ret2
  have hwb : w.heap.size ≤ bo := by rw [← HQ2.out.1]; exact HB1.out.size
  have hbf : Below bo v1 w6 := W5.out.lv.bel.grown O6.out.2 W5.out.lv.base (fun k hk => (HOO.out.lt k hk).1)
  have hnd : (t5.map fun (x : Nat) => (x : Int)).Nodup := by
    refine List.Pairwise.map _ (fun a b h => ?_) D5.out.1
    omega
  obtain ⟨hs1, hs2⟩ := sorted_strict _ hnd
  refine ⟨vo, rfl, HB1.out.trans (hbf.mono hwb), sortI (t5.map fun (x : Nat) => (x : Int)), ?_, hs1, by simp [sortI]; exact N5.out, fun y => ?_⟩
  · have h9 := own_lower O6.out.1 hwb
    rw [show (sortI (t5.map fun (x : Nat) => (x : Int))).length = (t5.map fun (x : Nat) => (x : Int)).length by simp [sortI]]
    exact h9
  · rw [hs2, List.mem_map]
    constructor
    · rintro ⟨k, hk, rfl⟩
      exact ⟨k, rfl, (D5.out.2 k).1 hk⟩
    · rintro ⟨k, rfl, hk⟩
      exact ⟨k, (D5.out.2 k).2 hk, rfl⟩
end Go.Proofs.Ytgijcbipnjmhgaa
