import Derived.Test.YtgijcbipnjmhgabGreatGr5c
import Derived.Test.YtgijcbipnjmhgabGreatCy1
import Derived.Test.YtgijcbipnjmhgabGreatSp6
import Derived.Test.YtgijcbipnjmhgabGreatReachesW
import Derived.Test.YtgijcbipnjmhgabGreatInfT
import Derived.BigQuiet
import Derived.Test.YtgijcbipnjmhgabGreatGc5
import Derived.Deep.RegionHeld3
import Derived.Test.YtgijcbipnjmhgabGreatFa4
import Derived.Test.YtgijcbipnjmhgabGreatGx
import Derived.Test.YtgijcbipnjmhgabGreatLq0
import Derived.Maps.Own
import Derived.Maps.OwnOps
import Derived.Maps.OwnSet
import Derived.Maps.Views
namespace Go.Proofs.YtgijcbipnjmhgabGreat
open Go.ChangeShapes Go.WideShapes Go.ChangeAt Go.RowKit
set_option linter.unusedVariables false
set_option linter.unusedSimpArgs false

/-- a row of numbers that is read, below C -/
def Rd1 (C : Nat) (w : World) (a : Option Addr) (ls : List Int) : Prop := 0 < ls.length → ∃ g, a = some ⟨g, 0, none⟩ ∧ g < C ∧ ∀ (j : Nat) y, ls[j]? = some y → w.cell? ⟨g, j, none⟩ = some (.int .i64 y)
theorem Rd1.below {C : Nat} {w w' : World} {a : Option Addr} {ls : List Int} (h : Rd1 C w a ls) (hb : Below C w w') : Rd1 C w' a ls := fun h0 => by
  obtain ⟨g, e, hg, hc⟩ := h h0
  exact ⟨g, e, hg, fun j y hj => (hb.cell (p := ⟨g, j, none⟩) hg).trans (hc j y hj)⟩
theorem Rd1.up {C C' : Nat} {w : World} {a : Option Addr} {ls : List Int} (h : Rd1 C w a ls) (hb : C ≤ C') : Rd1 C' w a ls := fun h0 => by
  obtain ⟨g, e, hg, hc⟩ := h h0
  exact ⟨g, e, Nat.lt_of_lt_of_le hg hb, hc⟩
theorem Rd1.lies {C : Nat} {w : World} {a : Option Addr} {ls : List Int} (h : Rd1 C w a ls) (hC : C ≤ w.heap.size) : LiesA w a ls := by
  by_cases h0 : ls = []
  · exact .inl h0
  · obtain ⟨g, rfl, hg, hc⟩ := h (List.length_pos_iff.2 h0)
    refine .inr ⟨g, 0, rfl, Nat.lt_of_lt_of_le hg hC, fun j u hj => ?_⟩
    rw [flat_ints, List.getElem?_map] at hj
    obtain ⟨y, hy, rfl⟩ := Option.map_eq_some_iff.1 hj
    rw [Nat.zero_add]
    exact hc j y hy
end Go.Proofs.YtgijcbipnjmhgabGreat

namespace Go.Proofs.YtgijcbipnjmhgabGreat
open Go.ChangeShapes Go.WideShapes Go.ChangeAt Go.RowKit
set_option linter.unusedVariables false
set_option linter.unusedSimpArgs false

/-- what Order answers: a line of all, or a cycle -/
def OrE (B n : Nat) (ps : List Pr) (w : World) (v u : Value) (E : Int) : Prop :=
  (E = 0 ∧ u = .slice none 0 0 ∧ ∃ N os, LstR n ps N ∧ Ln N n os ∧ os.length = n ∧ w.ownsRow B 3 1 v os.length (flat os)) ∨
  (E = 73 ∧ v = .slice none 0 0 ∧ ∃ (f : Nat) (l : List Int), w.ownsRow B 3 1 u ((f : Int) :: l).length (flat ((f : Int) :: l)) ∧ Fst ps f ∧ Cyc ps f f l)
theorem order_any (n cap : Nat) (a : Option Addr) (ps : List Pr) (w : World) (hL : LiesA w a ps) (hm : ps.length ≤ 8796093022208) (ht : things (n : Int) ps = true) :
    Calls Tryz.prog 5 #[.int .i64 (n : Int), .slice a ps.length cap] w fun e w' => ∃ v u E, e = .returned (.tuple #[v, u, .int .i64 E]) ∧ Below w.heap.size w w' ∧ OrE w.heap.size n ps w' v u E := by
  by_cases hex : ∃ x, OnC ps x
  · exact (order_cyc n cap a ps w hL hm ht hex).mono fun e w' ⟨v, h1, h2, f, l, h3, h4, h5⟩ => ⟨_, v, 73, h1, h2, .inr ⟨rfl, rfl, f, l, h3, h4, h5⟩⟩
  · exact (order_yes n cap a ps w hL hm ht (fun x hx => hex ⟨x, hx⟩)).mono fun e w' ⟨v, h1, h2, N, os, h3, h4, h5, h6⟩ => ⟨v, _, 0, h1, h2, .inl ⟨rfl, rfl, N, os, h3, h4, h5, h6⟩⟩
end Go.Proofs.YtgijcbipnjmhgabGreat

namespace Go.Proofs.YtgijcbipnjmhgabGreat
open Go.ChangeShapes Go.WideShapes Go.ChangeAt Go.RowKit
set_option linter.unusedVariables false
set_option linter.unusedSimpArgs false

/-- lists of whole numbers that are read: a row of rows, all below B -/
structure Rx6 (B : Nat) (w : World) (gV n : Nat) (N : Nat → List Int) : Prop where
  lt : gV < B
  row : ∀ x, x < n → ∃ a c, w.cell? ⟨gV, x, none⟩ = some (.slice a (N x).length c) ∧ Rd1 B w a (N x)
theorem Rx6.below {B gV n : Nat} {w w' : World} {N : Nat → List Int} (h : Rx6 B w gV n N) (hb : Below B w w') : Rx6 B w' gV n N :=
  ⟨h.lt, fun x hx => by
    obtain ⟨a, c, h1, h2⟩ := h.row x hx
    exact ⟨a, c, (hb.cell (p := ⟨gV, x, none⟩) h.lt).trans h1, h2.below hb⟩⟩
theorem Rx6.up {B B' gV n : Nat} {w : World} {N : Nat → List Int} (h : Rx6 B w gV n N) (hB : B ≤ B') : Rx6 B' w gV n N :=
  ⟨Nat.lt_of_lt_of_le h.lt hB, fun x hx => by
    obtain ⟨a, c, h1, h2⟩ := h.row x hx
    exact ⟨a, c, h1, h2.up hB⟩⟩
theorem lw_rx {B gV n : Nat} {w0 w : World} {rs : List Rr} {ps : List Pr} (h : Lw B gV n w0 w rs) (ha : AdX .i64 ps rs) : Rx6 w.heap.size w gV n (nd ps) := by
  refine ⟨(h.she.outV.lt gV rfl).2, fun x hx => ?_⟩
  obtain ⟨r, hr⟩ : ∃ r, rs[x]? = some r := ⟨_, List.getElem?_eq_getElem (by rw [h.len]; exact hx)⟩
  obtain ⟨ys, h1, h2, h3, h4⟩ := ha x r hr
  have ho := h.she.get hr
  obtain ⟨a, c, hv, hav, -⟩ := own_slice ho
  rw [← h4]
  refine ⟨a, c, by rw [(h.cell hr).1, hv, h1], fun h0 => ?_⟩
  obtain ⟨g, rfl⟩ := hav (by omega)
  refine ⟨g, rfl, (ho.lt g (by rw [hv]; rfl)).2, fun j y hj => ?_⟩
  rw [hv, h2] at ho
  have h8 := ho.cells rfl j (.int .i64 y) (by rw [List.getElem?_map, hj]; rfl)
  rwa [addr_add, Nat.zero_add] at h8
theorem rows1R (n cap : Nat) (a : Option Addr) (ps : List Pr) (w : World) (hL : LiesA w a ps) (hn : n ≤ 131072) (hm : ps.length ≤ 8796093022208) (hr : ∀ p ∈ ps, (0 ≤ p.a ∧ p.a < (n : Int)) ∧ (0 ≤ p.b ∧ p.b < (n : Int))) :
    Calls Tryz.prog 30 #[.int .i64 (n : Int), .slice a ps.length cap, .int .i64 1] w fun e w' => e = .returned (.slice (some ⟨w.heap.size, 0, none⟩) n n) ∧ Below w.heap.size w w' ∧ Rx6 w'.heap.size w' w.heap.size n (nd ps) :=
  (rows1X_any n cap a ps w hL hn hm hr).mono fun e w' ⟨h1, rs, h2, h3⟩ => ⟨h1, h2.bel, lw_rx h2 h3⟩
theorem rows0R (n cap : Nat) (a : Option Addr) (ps : List Pr) (w : World) (hL : LiesA w a ps) (hn : n ≤ 131072) (hm : ps.length ≤ 8796093022208) (hr : ∀ p ∈ ps, (0 ≤ p.a ∧ p.a < (n : Int)) ∧ (0 ≤ p.b ∧ p.b < (n : Int))) :
    Calls Tryz.prog 30 #[.int .i64 (n : Int), .slice a ps.length cap, .int .i64 0] w fun e w' => e = .returned (.slice (some ⟨w.heap.size, 0, none⟩) n n) ∧ Below w.heap.size w w' ∧ Rx6 w'.heap.size w' w.heap.size n (fun x => usr ps (x : Int)) :=
  (rows0X_any n cap a ps w hL hn hm hr).mono fun e w' ⟨h1, rs, h2, h3⟩ => ⟨h1, h2.bel, by have h9 := lw_rx h2 h3; rw [show nd (ps.map swapP) = (fun (x : Nat) => usr ps (x : Int)) from funext fun x => nd_swap ps x] at h9; exact h9⟩
theorem usr_len (ps : List Pr) (x : Int) : (usr ps x).length ≤ ps.length := by
  unfold usr
  rw [List.length_map]
  exact List.length_filter_le _ _
theorem cnE_take {ps : List Pr} {k : Nat} {p : Pr} (h : ps[k]? = some p) (y : Int) : cnE (ps.take (k + 1)) [] y = cnE (ps.take k) [] y + if p.a = y then 1 else 0 := by
  obtain ⟨h1, e1⟩ := List.getElem?_eq_some_iff.1 h
  unfold cnE
  rw [List.take_succ_eq_append_getElem h1, e1, List.filter_append, List.length_append]
  congr 1
  by_cases e : p.a = y
  · rw [if_pos e, List.filter_cons_of_pos (by simp [e])]; rfl
  · rw [if_neg e, List.filter_cons_of_neg (by simp [e])]; rfl
/-- the reference's line-up: the set, what is missing, what stands in line -/
structure Qw (B bL gC s gm n : Nat) (w : World) (S : Nat → Prop) (ms : List Int) : Prop where
  lz : Lz B bL gC s w S
  mi : w.ownsRow B 3 1 (.slice (some ⟨gm, 0, none⟩) n n) n (flat ms)
  d1 : gC ≠ gm
theorem Qw.below {B bL gC s gm n : Nat} {w w' : World} {S : Nat → Prop} {ms : List Int} (h : Qw B bL gC s gm n w S ms) (hb : Below w.heap.size w w') : Qw B bL gC s gm n w' S ms :=
  ⟨h.lz.below hb, own_belowR h.mi hb (Nat.le_refl _), h.d1⟩
theorem Qw.put {B bL gC s gm n : Nat} {w w' : World} {S S' : Nat → Prop} {ms : List Int} (h : Qw B bL gC s gm n w S ms) (hz : Lz B bL gC s w' S') (ho : One gC w w') : Qw B bL gC s gm n w' S' ms :=
  ⟨hz, own_same h.mi (fun g e => by cases e; exact ho.keep gm (h.mi.lt gm rfl).2 (fun e => h.d1 e.symm)), h.d1⟩
theorem Qw.set {B bL gC s gm n : Nat} {w : World} {S : Nat → Prop} {ms : List Int} (h : Qw B bL gC s gm n w S ms) (y : Nat) (v : Int) : Qw B bL gC s gm n (w.setCell ⟨gm, y, none⟩ (.int .i64 v)) S (ms.set y v) := by
  have hne : bL ≠ gm := h.lz.box.neR h.mi (by decide) rfl
  obtain ⟨cs, h1, h2⟩ := h.lz.row
  refine ⟨⟨h.lz.box.other ⟨gm, y, none⟩ hne _, ⟨cs, ownsRow_setCell_other h1 (a := ⟨gm, y, none⟩) (fun e => h.d1 (by injection e)) _, h2⟩, h.lz.le, h.lz.s1, h.lz.s2, h.lz.pw⟩, ?_, h.d1⟩
  have h3 := (World.ownsRow.stored h.mi y (.int .i64 v)).1
  rw [flat_setI] at h3
  exact h3
theorem Qw.grw {B bL gC s gm n : Nat} {w w' : World} {S : Nat → Prop} {ms : List Int} {g0 : Option Nat} (h : Qw B bL gC s gm n w S ms) (hg : w.grownBy w' g0) (h1 : g0 ≠ some bL) (h2 : g0 ≠ some gC) (h3 : g0 ≠ some gm) : Qw B bL gC s gm n w' S ms := by
  obtain ⟨cs, k1, k2⟩ := h.lz.row
  exact ⟨⟨h.lz.box.grw hg h1, ⟨cs, own_same k1 (fun g e => by cases e; exact hg.block gC (k1.lt gC rfl).2 (fun e => h2 e.symm)), k2⟩, h.lz.le, h.lz.s1, h.lz.s2, h.lz.pw⟩, own_same h.mi (fun g e => by cases e; exact hg.block gm (h.mi.lt gm rfl).2 (fun e => h3 e.symm)), h.d1⟩
theorem Qw.mlen {B bL gC s gm n : Nat} {w : World} {S : Nat → Prop} {ms : List Int} (h : Qw B bL gC s gm n w S ms) : ms.length = n := by
  have := h.mi.1
  rw [flat_length] at this
  exact Nat.eq_of_mul_eq_mul_right (by decide) this
theorem Qw.get {B bL gC s gm n : Nat} {w : World} {S : Nat → Prop} {ms : List Int} (h : Qw B bL gC s gm n w S ms) {y : Nat} (hy : y < n) : w.cell? ⟨gm, y, none⟩ = some (.int .i64 ms[y]!) ∧ w.frozen? ⟨gm, y, none⟩ = false :=
  row_cell h.mi (by rw [List.getElem?_eq_getElem (by rw [h.mlen]; exact hy), ← getElem!_pos ms y (by rw [h.mlen]; exact hy)])
/-- what Least answers -/
def Lea (s : Nat) (S : Nat → Prop) (z : Int) : Prop := (z = -1 ∧ ∀ y, y < s → ¬ S y) ∨ ∃ x : Nat, z = (x : Int) ∧ x < s ∧ S x ∧ ∀ y, y < s → S y → x ≤ y
theorem least_any (B bL gC s : Nat) (S : Nat → Prop) (w : World) (h : Lz B bL gC s w S) :
    Calls Tryz.prog 33 #[.pointer (some ⟨bL, 0, none⟩)] w fun e w' => w' = w ∧ ∃ z : Int, e = .returned (.int .i64 z) ∧ Lea s S z := by
  by_cases hS : ∃ y, y < s ∧ S y
  · exact (least_yes B bL gC s S w h hS).mono fun e w' ⟨h1, x, h2, h3, h4, h5⟩ => ⟨h1, (x : Int), h2, .inr ⟨x, rfl, h3, h4, h5⟩⟩
  · exact (least_no B bL gC s S w h (fun y hy hs => hS ⟨y, hy, hs⟩)).mono fun e w' ⟨h1, h2⟩ => ⟨h2, -1, h1, .inl ⟨rfl, fun y hy hs => hS ⟨y, hy, hs⟩⟩⟩
end Go.Proofs.YtgijcbipnjmhgabGreat

namespace Go.Proofs.YtgijcbipnjmhgabGreat
open Go.ChangeShapes Go.WideShapes Go.ChangeAt Go.RowKit
open Go.Maps (Keyed int_keyed keyOf_int_mk)
set_option linter.unusedVariables false
set_option linter.unusedSimpArgs false

theorem zeroI6 (w : World) : (zeroValue 3).run Tryz.prog w = .ok (.int .i64 0) w := by kernel_rfl
theorem wfN6 {x : Nat} (h : x ≤ 9223372036854775807) : (Lit.int .i64 (x : Int)).wf = true := by simp [Lit.wf, IntKind.min, IntKind.max, IntKind.bits, IntKind.signed]; omega
/-- a map that tells how far each of q is -/
def Mq (w : World) (b : Nat) (F : Nat → Nat) (q : List Nat) : Prop := ∃ (D : DataW Unit) (m : Nat), w.ownsMap Tryz.prog 3 (plainElem Tryz.prog 3) b m D ∧ m ≤ q.length ∧ (∃ es, D = .map es) ∧ (∀ x : Nat, Go.Maps.has D (.int .i64 (x : Int)) = decide (x ∈ q) ∧ (x ∈ q → D.atKey (.int .i64 (x : Int)) (.lit (.int .i64 0)) = .lit (.int .i64 (F x : Int)))) ∧ ∀ z : Int, Go.Maps.has D (.int .i64 z) = true → 0 ≤ z
theorem Mq.block {w w' : World} {b : Nat} {F : Nat → Nat} {q : List Nat} (h : Mq w b F q) (hb : w'.heap[b]? = w.heap[b]?) : Mq w' b F q := by
  obtain ⟨D, m, ⟨es, cl, h1, h2⟩, h3⟩ := h
  exact ⟨D, m, ⟨es, cl, hb.trans h1, h2⟩, h3⟩
theorem Mq.lt {w : World} {b : Nat} {F : Nat → Nat} {q : List Nat} (h : Mq w b F q) : b < w.heap.size := by
  obtain ⟨D, m, h1, -⟩ := h
  exact h1.lt
theorem Mq.below {w w' : World} {b : Nat} {F : Nat → Nat} {q : List Nat} (h : Mq w b F q) (hb : Below w.heap.size w w') : Mq w' b F q := h.block (hb.block b h.lt)
theorem Mq.look {w : World} {b x : Nat} {F : Nat → Nat} {q : List Nat} (h : Mq w b F q) (hx : x ∈ q) (hl : x ≤ 9223372036854775807) : (Instr.lookup 95 (.map (some b)) (.int .i64 (x : Int)) false).run Tryz.prog w = .ok (.int .i64 (F x : Int)) w := by
  obtain ⟨D, m, h1, -, h2, h3, -⟩ := h
  obtain ⟨c, hr, hat, hw⟩ := h1.lookup_int (int_keyed Tryz.underlying3) Tryz.underlying95 Tryz.underlying3 (zeroI6 w) (keyOf_int_mk Tryz.underlying3 (wfN6 hl))
  rw [(h3 x).2 hx] at hat
  cases hat
  exact hr
theorem Mq.look_yes {w : World} {b x : Nat} {F : Nat → Nat} {q : List Nat} (h : Mq w b F q) (hx : x ∈ q) (hl : x ≤ 9223372036854775807) : (Instr.lookup 95 (.map (some b)) (.int .i64 (x : Int)) true).run Tryz.prog w = .ok (.tuple #[.int .i64 (F x : Int), .bool true]) w := by
  obtain ⟨D, m, h1, -, h2, h3, -⟩ := h
  obtain ⟨v, ps, hr, hv⟩ := h1.look_ok (int_keyed Tryz.underlying3) Tryz.underlying95 (zeroI6 w) (plainElem_int Tryz.underlying3 (by decide)) (keyOf_int_mk Tryz.underlying3 (wfN6 hl))
  obtain ⟨c, rfl, hc, hwc⟩ := plainElem_int_inv Tryz.underlying3 hv
  have hat := congrArg Prod.fst hc
  simp only at hat
  rw [(h3 x).2 hx] at hat
  cases hat
  rw [(h3 x).1, decide_eq_true hx] at hr
  exact hr
theorem Mq.look_no {w : World} {b x : Nat} {F : Nat → Nat} {q : List Nat} (h : Mq w b F q) (hx : x ∉ q) (hl : x ≤ 9223372036854775807) : ∃ c : Int, (Instr.lookup 95 (.map (some b)) (.int .i64 (x : Int)) true).run Tryz.prog w = .ok (.tuple #[.int .i64 c, .bool false]) w := by
  obtain ⟨D, m, h1, -, h2, h3, -⟩ := h
  obtain ⟨v, ps, hr, hv⟩ := h1.look_ok (int_keyed Tryz.underlying3) Tryz.underlying95 (zeroI6 w) (plainElem_int Tryz.underlying3 (by decide)) (keyOf_int_mk Tryz.underlying3 (wfN6 hl))
  obtain ⟨c, rfl, hc, hwc⟩ := plainElem_int_inv Tryz.underlying3 hv
  rw [(h3 x).1, decide_eq_false hx] at hr
  exact ⟨c, hr⟩
theorem Mq.put {w : World} {b x v : Nat} {F : Nat → Nat} {q : List Nat} (h : Mq w b F q) (hl : x ≤ 9223372036854775807) (hv : v ≤ 9223372036854775807) (hq : q.length < maxLen) : ∃ w', (Instr.mapUpdate 95 (.map (some b)) (.int .i64 (x : Int)) (.int .i64 (v : Int))).run Tryz.prog w = .ok () w' ∧ Mq w' b (fun z => if z = x then v else F z) (q ++ [x]) ∧ w.grownBy w' (some b) := by
  obtain ⟨D, m, h1, hm, h2, h3, h4⟩ := h
  obtain ⟨w', hr, ho, hg⟩ := h1.update (int_keyed Tryz.underlying3) Tryz.underlying95 (Nat.lt_of_le_of_lt hm hq) (keyOf_int_mk Tryz.underlying3 (wfN6 hl)) (plainElem_int Tryz.underlying3 (wfN6 hv))
  refine ⟨w', hr, ⟨_, _, ho, by rw [List.length_append, List.length_singleton]; omega, Go.Maps.IsMap.put h2 _ _, fun y => ?_, fun z hz => ?_⟩, hg⟩
  rotate_left
  · by_cases e : z = (x : Int)
    · omega
    · have hne : (Lit.int .i64 z) ≠ Lit.int .i64 (x : Int) := by intro h; simp at h; omega
      rw [Go.Maps.has_put_other hne] at hz
      exact h4 z hz
  by_cases e : y = x
  · subst e
    exact ⟨by rw [Go.Maps.has_put_same h2 (by trivial)]; simp, fun _ => by rw [Go.Maps.atKey_put_same h2 (by trivial)]; simp⟩
  · have hne : (Lit.int .i64 (y : Int)) ≠ Lit.int .i64 (x : Int) := by intro h; simp at h; omega
    refine ⟨by rw [Go.Maps.has_put_other hne, (h3 y).1]; simp [e], fun hy => ?_⟩
    rw [Go.Maps.atKey_put_other hne]
    show _ = DataW.lit (Lit.int .i64 (((if y = x then v else F y : Nat)) : Int))
    rw [if_neg e]
    exact (h3 y).2 ((List.mem_append.1 hy).resolve_right (by simpa using e))
theorem Mq.made (w : World) (F : Nat → Nat) : Mq (w.alloc (.map #[] 0)) w.heap.size F [] := ⟨_, 0, World.ownsMap_made _ _ _ _, Nat.le_refl _, ⟨_, rfl⟩, fun x => ⟨by simp [Go.Maps.has], fun h => by cases h⟩, fun z hz => by simp [Go.Maps.has] at hz⟩
theorem Mq.ne {w : World} {b B e k n : Nat} {v : Value} {xs : List Value} {F : Nat → Nat} {q : List Nat} (h : Mq w b F q) (ho : w.ownsRow B e k v n xs) : v.ownBlock ≠ some b := by
  obtain ⟨D, m, ⟨es, cl, h1, h2⟩, h3⟩ := h
  rcases ho.2 with ⟨hv, h0⟩ | ⟨g, c, cur, hv, hg, hh, -⟩
  · rw [hv]; simp [Value.ownBlock]
  · rw [hv]
    intro e
    simp [Value.ownBlock] at e
    subst e
    rw [h1] at hh
    cases hh
/-- far's world: the map, the row that is looked at, the next one -/
structure Fq (B b : Nat) (w : World) (F : Nat → Nat) (q : List Nat) (V6 : Value) (row : List Nat) (V7 : Value) (nx : List Nat) : Prop where
  mp : Mq w b F q
  ro : w.ownsRow B 3 1 V6 row.length (flat (qI row))
  nx : w.ownsRow B 3 1 V7 nx.length (flat (qI nx))
  ap : ∀ g, V6.ownBlock = some g → V7.ownBlock ≠ some g
theorem Fq.below {B b : Nat} {w w' : World} {F : Nat → Nat} {q row nx : List Nat} {V6 V7 : Value} (h : Fq B b w F q V6 row V7 nx) (hb : Below w.heap.size w w') : Fq B b w' F q V6 row V7 nx :=
  ⟨h.mp.below hb, own_belowR h.ro hb (Nat.le_refl _), own_belowR h.nx hb (Nat.le_refl _), h.ap⟩
theorem Fq.upd {B b : Nat} {w w' : World} {F F' : Nat → Nat} {q q' row nx : List Nat} {V6 V7 : Value} (h : Fq B b w F q V6 row V7 nx) (hm : Mq w' b F' q') (hg : w.grownBy w' (some b)) : Fq B b w' F' q' V6 row V7 nx :=
  ⟨hm, own_same h.ro (fun g e => hg.block g (h.ro.lt g e).2 (fun e2 => h.mp.ne h.ro (by rw [e, e2]))), own_same h.nx (fun g e => hg.block g (h.nx.lt g e).2 (fun e2 => h.mp.ne h.nx (by rw [e, e2]))), h.ap⟩
theorem Fq.push {B b y : Nat} {w w' : World} {F : Nat → Nat} {q row nx : List Nat} {V6 V7 V' : Value} (h : Fq B b w F q V6 row V7 nx) (ho : w'.ownsRow B 3 1 V' (nx.length + 1) (flat (qI nx) ++ [.int .i64 (y : Int)])) (hg : w.grownBy w' V7.ownBlock) (hn : V'.ownBlock = V7.ownBlock ∨ ∃ g, V'.ownBlock = some g ∧ w.heap.size ≤ g) : Fq B b w' F q V6 row V' (nx ++ [y]) := by
  refine ⟨h.mp.block (hg.block b h.mp.lt (fun e => h.mp.ne h.nx e.symm)), own_same h.ro (fun g e => hg.block g (h.ro.lt g e).2 (fun e2 => h.ap g e e2.symm)), ?_, fun g e e2 => ?_⟩
  · rw [List.length_append, List.length_singleton, qI, List.map_append, flat_append]
    exact ho
  · rcases hn with e3 | ⟨g', e3, hg2⟩
    · rw [e3] at e2; exact h.ap g e e2
    · rw [e3] at e2
      injection e2 with e2
      have := (h.ro.lt g e).2
      omega
set_option maxRecDepth 1000000 in
set_option maxHeartbeats 4000000 in
theorem rfar_any (f n gV : Nat) (R : Nat → List Int) (ps : List Pr) (w : World) (hR : Rx6 w.heap.size w gV n R) (hm : ∀ x, x < n → (R x).length ≤ 8796093022208 ∧ ∀ y, y ∈ R x ↔ (⟨y, (x : Int)⟩ : Pr) ∈ ps) (hps : ∀ p ∈ ps, (0 ≤ p.a ∧ p.a < (n : Int)) ∧ (0 ≤ p.b ∧ p.b < (n : Int))) (hf : f < n) (hn : n ≤ 131072) :
    Calls Tryz.prog 60 #[.int .i64 (f : Int), .slice (some ⟨gV, 0, none⟩) n n] w fun e w' => Below w.heap.size w w' ∧ e = .returned (.map (some w.heap.size)) ∧ ∃ F q, Mq w' w.heap.size F q ∧ Bq ps n f F q q.length (fun _ => False) := by
  obtain ⟨i0, hi0, hz0, hz1, hz2⟩ := info_parts infoIntH
  have hmm := @run_makeMap Tryz.prog
  have HRX := hidH hR
  have HM := hidH hm
  have HPS := hidH hps
  obtain ⟨B, hB⟩ : ∃ B, w.heap.size = B := ⟨_, rfl⟩
  rw [hB] at HRX
  have M0 : Mq (w.alloc (.map #[] 0)) B (fun y => if y = f then 0 else n) [] := by rw [← hB]; exact Mq.made w _
  obtain ⟨w1, hr1, hM1, hg1⟩ := M0.put (x := f) (v := 0) (by omega) (by omega) (by unfold maxLen; simp)
  have M1 : Hid (Mq w1 B (fun y => if y = f then 0 else n) [f]) := by
    have h9 := hM1
    rw [show (fun z => if z = f then 0 else (fun y => if y = f then 0 else n) z) = (fun y => if y = f then 0 else n) from funext fun z => by by_cases e : z = f; (simp [e]); (simp [e])] at h9
    exact h9
  have E1 : Hid (Below B w w1) := (((Below.refl B w).alloc (by omega) _).grown hg1 (by simp; omega) (fun k h => by cases h; exact Nat.le_refl _))
  have hr2 : (Instr.mapUpdate 95 (.map (some B)) (.int .i64 (f : Int)) (.int .i64 0)).run Tryz.prog (w.alloc (.map #[] 0)) = .ok () w1 := hr1
  clear hR hm hps M0 hM1 hg1 hr1
  go_enter Tryz.func60, Tryz.ntmps60
  go_upto_region 3 with fail
  obtain ⟨w2, e2, hb2, hs2, X2⟩ := bx1 w1 #[.int .i64 (f : Int)] 3
  have hw1B : B < w1.heap.size := M1.out.lt
  have M2 := hidH (M1.out.below hb2)
  have E2 := hidH (E1.out.trans (hb2.mono (Nat.le_of_lt hw1B)))
  have O2 : Hid (w2.ownsRow B 3 1 (.slice (some ⟨w1.heap.size, 0, none⟩) 1 1) ([f] : List Nat).length (flat (qI [f]))) := by
    have h1 := own_one B w1 (.int .i64 (f : Int)) 3 (Nat.le_of_lt hw1B)
    rw [e2] at h1
    exact h1
  rw [e2]
  clear e2 hb2 hs2 X2 M1 E1 hr2 hmm
  go_loopg [6] (n + 1) (fun gk s6 wr => ∃ (o : Nat) (V : Value) (row : List Nat) (F : Nat → Nat) (q : List Nat), gk = n + 1 - o ∧ s6 = V ∧ q.drop o = row ∧ o ≤ q.length ∧ Mq wr B F q ∧ wr.ownsRow B 3 1 V row.length (flat (qI row)) ∧ Bq ps n f F q o (fun _ => False) ∧ Below B w wr)
  case atStart => exact ⟨0, _, [f], _, [f], rfl, rfl, rfl, Nat.zero_le _, M2.out, O2.out, Bq.start hf, E2.out⟩
  case round =>
    clear M2 O2 E2
    obtain ⟨o, V, row, F, q0, hgk, rfl, hdr, hoq, hM, hO, hQ, hE⟩ := hrel
    have MM := hidH hM
    have OO := hidH hO
    have BQ := hidH hQ
    have EE := hidH hE
    have HDR := hidH hdr
    have hfew := hQ.few
    clear hM hO hQ hE
    obtain ⟨aV, cV, hV, haV, -⟩ := own_slice OO.out
    subst hV
    obtain ⟨m, hmq⟩ : ∃ m, row.length = m := ⟨_, rfl⟩
    have HMQ := hidH hmq
    have hom : q0.length = o + m := by rw [← hmq, ← hdr, List.length_drop]; omega
    have OO2 : Hid (wr.ownsRow B 3 1 (.slice aV m cV) m (flat (qI row))) := by have h9 := OO.out; rw [hmq] at h9; exact h9
    rw [hmq] at haV OO ⊢
    clear hdr hmq
    by_cases hm0 : 0 < m
    · have hm0' : (0 : Int) < (m : Int) := by omega
      obtain ⟨g6, rfl⟩ := haV hm0
      have FQ0 : Hid (Fq B B wr F (q0 ++ []) (.slice (some ⟨g6, 0, none⟩) m cV) row (.slice none 0 0) []) := ⟨by rw [List.append_nil]; exact MM.out, by rw [HMQ.out]; exact OO2.out, World.ownsRow_nil _ _ _ _, fun g e => by simp [Value.ownBlock]⟩
      have BQ0 : Hid (Bq ps n f F (q0 ++ []) (o + 0) (fun _ => False)) := by rw [List.append_nil]; exact BQ.out
      have ROW : Hid (∀ (i x : Nat), row[i]? = some x → ∀ nx, (q0 ++ nx)[o + i]? = some x) := fun i x hx nx => by
        have h9 := hx
        rw [← HDR.out, List.getElem?_drop] at h9
        rw [List.getElem?_append_left (List.getElem?_eq_some_iff.1 h9).1]
        exact h9
      clear MM BQ OO OO2
      go_wp2
      go_loopg [7, 8] m (fun g2 s7 s8 wq => ∃ (i : Nat) (V7 : Value) (nx : List Nat) (F : Nat → Nat), g2 = m - i ∧ s7 = V7 ∧ s8 = .int .i64 (i : Int) ∧ i ≤ m ∧ Fq B B wq F (q0 ++ nx) (.slice (some ⟨g6, 0, none⟩) m cV) row V7 nx ∧ Bq ps n f F (q0 ++ nx) (o + i) (fun _ => False) ∧ Below B w wq)
      case atStart => exact ⟨0, _, [], F, rfl, rfl, rfl, Nat.zero_le _, FQ0.out, BQ0.out, EE.out⟩
      case round =>
        clear FQ0 BQ0 EE
        obtain ⟨i, V7, nx, F, hg2, rfl, rfl, hi, hFq, hBq, hE⟩ := hrel
        have FQ := hidH hFq
        have BQ := hidH hBq
        have EE := hidH hE
        clear hFq hBq hE
        by_cases him : i < m
        · have him' : (i : Int) < (m : Int) := by omega
          have ki : IntKind.i64.wrap ((i : Int) + 1) = ((i + 1 : Nat) : Int) := by rw [IntWalk.i64_in _ ⟨by omega, by omega⟩]; omega
          obtain ⟨x, hx⟩ : ∃ x, row[i]? = some x := ⟨_, List.getElem?_eq_getElem (by rw [HMQ.out]; exact him)⟩
          have HX := hidH (ROW.out i x hx)
          have HXR := hidH hx
          have hxn : x < n := BQ.out.rng x (List.mem_of_getElem? (HX.out nx))
          have hxn' : (x : Int) < (n : Int) := by omega
          obtain ⟨aD, cD, cD1, hrow⟩ := HRX.out.row x hxn
          obtain ⟨r, hr⟩ : ∃ r, (R x).length = r := ⟨_, rfl⟩
          have hrp : r ≤ 8796093022208 := by rw [← hr]; exact (HM.out x hxn).1
          rw [hr] at cD1
          have HR := hidH hr
          have HROW := hidH hrow
          have HCD := hidH cD1
          clear hx hrow hr cD1
          go_upto_region 9 with fail
          go_loopg [7, 9] r (fun g3 s7 s9 wq => ∃ (k : Nat) (V7 : Value) (nx : List Nat) (F : Nat → Nat), g3 = r - k ∧ s7 = V7 ∧ s9 = .int .i64 (k : Int) ∧ k ≤ r ∧ Fq B B wq F (q0 ++ nx) (.slice (some ⟨g6, 0, none⟩) m cV) row V7 nx ∧ Bq ps n f F (q0 ++ nx) (o + i) (fun z => (z : Int) ∈ (R x).take k) ∧ Below B w wq)
          case atStart => exact ⟨0, _, nx, F, rfl, rfl, rfl, Nat.zero_le _, FQ.out, BQ.out.weak (fun z hz => by simp at hz), EE.out⟩
          case round =>
            clear FQ BQ EE
            obtain ⟨k, V7, nx, F, hg3, rfl, rfl, hk, hFq, hBq, hE⟩ := hrel
            have FQ := hidH hFq
            have BQ := hidH hBq
            have EE := hidH hE
            have hfew2 := hBq.few
            clear hFq hBq hE
            have cX := (row_cell (n := m) (by have h9 := FQ.out.ro; rw [HMQ.out] at h9; exact h9) (qI_get HXR.out)).1
            have cD0 := (EE.out.cell (p := ⟨gV, x, none⟩) HRX.out.lt).trans HCD.out
            by_cases hkr : k < r
            · have hkr' : (k : Int) < (r : Int) := by omega
              have kk : IntKind.i64.wrap ((k : Int) + 1) = ((k + 1 : Nat) : Int) := by rw [IntWalk.i64_in _ ⟨by omega, by omega⟩]; omega
              obtain ⟨y0, hy0⟩ : ∃ y, (R x)[k]? = some y := ⟨_, List.getElem?_eq_getElem (by rw [HR.out]; exact hkr)⟩
              have hye := ((HM.out x hxn).2 y0).1 (List.mem_of_getElem? hy0)
              have hyr := (HPS.out _ hye).1
              simp only at hyr
              obtain ⟨y, rfl⟩ : ∃ y : Nat, y0 = (y : Int) := ⟨y0.toNat, by omega⟩
              have hyn : y < n := by omega
              obtain ⟨g, rfl, hg, hcl⟩ := HROW.out (by rw [HR.out]; omega)
              have cY := (EE.out.cell (p := ⟨g, k, none⟩) hg).trans (hcl k _ hy0)
              have HY0 := hidH hy0
              have HYE := hidH hye
              clear hcl hy0 hye hyr
              by_cases hyq : y ∈ q0 ++ nx
              · have lk := FQ.out.mp.look_yes hyq (by omega)
                have BQ2 := hidH ((BQ.out.have hyn ((BQ.out.mkd y hyn).1 hyq)).weak (dn' := fun z => (z : Int) ∈ (R x).take (k + 1)) (fun z hz => (take_mem HY0.out hz).imp id (fun e => by omega)))
                go_wp2
                go_roundg (r - (k + 1))
                case measure => omega
                case rel => exact ⟨k + 1, _, nx, F, rfl, rfl, rfl, by omega, FQ.out, BQ2.out, EE.out⟩
              · obtain ⟨c, lk⟩ := FQ.out.mp.look_no hyq (by omega)
                have hFy : F y = n := Classical.byContradiction fun h => hyq ((BQ.out.mkd y hyn).2 h)
                obtain ⟨hvn, hqn, bq2⟩ := BQ.out.new (HX.out nx) hyn hFy HYE.out
                have lx := FQ.out.mp.look (x := x) (List.mem_of_getElem? (HX.out nx)) (by omega)
                obtain ⟨wM, hrM, hMM, hgM⟩ := FQ.out.mp.put (x := y) (v := F x + 1) (by omega) (by omega) (by unfold maxLen; omega)
                obtain ⟨v, hv⟩ : ∃ v, F x = v := ⟨_, rfl⟩
                have hrM2 : (Instr.mapUpdate 95 (.map (some B)) (.int .i64 (y : Int)) (.int .i64 ((v : Int) + 1))).run Tryz.prog wr = .ok () wM := by rw [← hv]; exact hrM
                rw [hv] at lx hvn
                have kv : IntKind.i64.wrap ((v : Int) + 1) = (v : Int) + 1 := by rw [IntWalk.i64_in _ ⟨by omega, by omega⟩]
                have FM := hidH (FQ.out.upd hMM hgM)
                have EM : Hid (Below B w wM) := EE.out.grown hgM (by have := FQ.out.mp.lt; omega) (fun g e => by cases e; exact Nat.le_refl _)
                have BQ2 : Hid (Bq ps n f (fun z => if z = y then F x + 1 else F z) (q0 ++ (nx ++ [y])) (o + i) (fun z => (z : Int) ∈ (R x).take (k + 1))) := by rw [← List.append_assoc]; exact bq2.weak (fun z hz => (take_mem HY0.out hz).imp id (fun e => by omega))
                clear hrM hMM hgM bq2 hFy hv
                obtain ⟨a7, c7, hV7, -, -⟩ := own_slice FQ.out.nx
                subst hV7
                go_upto_region 15 with fail
                obtain ⟨p, hp⟩ : ∃ p, nx.length = p := ⟨_, rfl⟩
                have HP := hidH hp
                have hpn : p ≤ n := by rw [List.length_append, hp] at hfew2; omega
                obtain ⟨zA, eA, hbA, hsA, BA⟩ := bx1 wM #[.int .i64 (y : Int)] 3
                have FA := hidH (FM.out.below hbA)
                have hBM : B ≤ wM.heap.size := Nat.le_of_lt FM.out.mp.lt
                have EA := hidH (EM.out.trans (hbA.mono hBM))
                have NA : Hid (∀ j u, [Value.int .i64 (y : Int)][j]? = some u → zA.cell? ((⟨wM.heap.size, 0, none⟩ : Addr).add j) = some u) := by unfold Hid; rw [← eA]; exact cells_newH wM [Value.int .i64 (y : Int)] 3
                have HEA := hidH eA
                have HSA := hidH hsA
                have hBA : B ≤ zA.heap.size := by omega
                have OA : Hid (zA.ownsRow B 3 1 (.slice a7 p c7) p (flat (qI nx))) := by have h9 := FA.out.nx; rw [HP.out] at h9; exact h9
                rw [hp] at FA ⊢
                clear eA hbA hsA BA hp FM EM FQ lk lx hrM2 cX cD0 cY
                go_wp2_with (at_builtin; rw [HEA.out]; refine wpList_append_lies _ rfl _ _ 32 rfl B 3 i0 (.int .i64 0) 1 8 Tryz.underlying32 hi0 hz0 hz1 hz2 rfl (by decide) (.slice a7 p c7) p (flat (qI nx)) rfl OA.out ⟨wM.heap.size, 0, none⟩ 1 1 [Value.int .i64 (y : Int)] rfl rfl NA.out (by intro u hu; simp at hu; subst hu; rfl) (by decide) (by unfold maxLen; omega) (by omega) hBA (wM.heap.size + 1) HSA.out ?_; intro gg cp w9 hown9 hgrow9 hat9 hlt9; have F9 := hidH (FA.out.push (V' := .slice (some ⟨gg, 0, none⟩) (p + 1) cp) (y := y) (by rw [HP.out]; exact hown9) hgrow9 (by have h7 := HSA.out; rcases hat9 with e | e; exact .inl e.symm; exact .inr ⟨gg, rfl, by omega⟩)); have E9 := hidH (EA.out.grown hgrow9 hBA (fun g e => (OA.out.lt g e).1)); clear hown9 hgrow9 hat9 hlt9)
                go_roundg (r - (k + 1))
                case measure => omega
                case rel => exact ⟨k + 1, _, nx ++ [y], _, rfl, rfl, rfl, by omega, by rw [← List.append_assoc]; exact F9.out, BQ2.out, E9.out⟩
            · have hkr' : ¬ (k : Int) < (r : Int) := by omega
              have BQ2 : Hid (Bq ps n f F (q0 ++ nx) (o + (i + 1)) (fun _ => False)) := BQ.out.next (HX.out nx) (fun z hz => by rw [List.take_of_length_le (by rw [HR.out]; omega)]; exact ((HM.out x hxn).2 _).2 hz)
              go_wp2
              go_roundg (m - (i + 1))
              case measure => omega
              case rel => exact ⟨i + 1, _, nx, F, rfl, rfl, rfl, by omega, FQ.out, BQ2.out, EE.out⟩
        · have him' : ¬ (i : Int) < (m : Int) := by omega
          have hi2 : i = m := by omega
          have BQ2 : Hid (Bq ps n f F (q0 ++ nx) (o + m) (fun _ => False)) := by have h9 := BQ.out; rw [hi2] at h9; exact h9
          have hfew2 := BQ.out.few
          go_wp2
          go_roundg (n + 1 - (o + m))
          case measure => rw [List.length_append] at hfew2; omega
          case rel => exact ⟨o + m, _, nx, F, q0 ++ nx, rfl, rfl, by rw [List.drop_append_of_le_length (by omega), List.drop_of_length_le (by omega), List.nil_append], by rw [List.length_append]; omega, FQ.out.mp, FQ.out.nx, BQ2.out, EE.out⟩
    · have hm0' : ¬ (0 : Int) < (m : Int) := by omega
      have hoq2 : o = q0.length := by omega
      go_wp2
      go_ret
      exact ⟨by first | exact EE.out | (rw [hB]; exact EE.out), by first | rfl | rw [hB], F, q0, by first | exact MM.out | (rw [hB]; exact MM.out), by have h9 := BQ.out; rw [hoq2] at h9; exact h9⟩
end Go.Proofs.YtgijcbipnjmhgabGreat
