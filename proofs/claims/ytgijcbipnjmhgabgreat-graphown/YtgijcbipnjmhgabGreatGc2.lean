import Derived.Test.YtgijcbipnjmhgabGreatGc1
import Derived.Lib.AppendZeros
import Derived.Laws.OwnMore
namespace Go.Proofs.YtgijcbipnjmhgabGreat
open Go.ChangeShapes Go.WideShapes Go.ChangeAt Go.RowKit
set_option linter.unusedVariables false
set_option linter.unusedSimpArgs false

theorem wpList_append_own_any {P : Program} (w : World) {ops : Array Oper} {rest : List Oper} {o : Oper} {a : Act} {Q : Exit → Act → World → Prop} (hgd : o.guard = none) (s x : Operand) (t : TypeId)
    (ho : o.op = .call { callee := .builtin .append, args := #[s, x], argTypes := #[t, t] })
    (base : Nat) (e : TypeId) (i : TypeInfo) (z : Value) (size bytes : Nat) (ht : P.underlying t = some (.slice e)) (hi : P.info? e = some i) (hz : i.zero = some z)
    (hsize : i.size = size) (hby : i.bytes = bytes) (hzs : z.cells.size = size) (hsz : 0 < size)
    (v : Value) (n : Nat) (xs : List Value) (hs : a.eval s = v) (hown : w.ownsRow base e size v n xs)
    (ao : Option Addr) (m c : Nat) (news : List Value) (hx : a.eval x = .slice ao m c) (hl : news.length = m * size) (hnone : ao = none → m = 0 ∧ c = 0)
    (hnews : ∀ ad, ao = some ad → ∀ j u, news[j]? = some u → w.cell? (ad.add j) = some u) (h1 : ∀ u ∈ news, u.oneCell' = true)
    (h63 : n + m ≤ maxLen) (hbytes : (n + m) * bytes ≤ 140737488355328) (hbase : base ≤ w.heap.size)
    (h : ∀ v' w', w'.ownsRow base e size v' (n + m) (xs ++ news) → w.grownBy w' v.ownBlock → wpList P ops Q rest (a.put o.dst v') w') : wpList P ops Q (o :: rest) a w := by
  cases ao with
  | some ad => exact wpList_append_own w hgd s x t ho base e i z size bytes ht hi hz hsize hby hzs hsz v n xs hs hown ad m c news hx hl (hnews ad rfl) h1 h63 hbytes hbase (fun v' w' h2 h3 _ => h v' w' h2 h3)
  | none =>
    obtain ⟨rfl, rfl⟩ := hnone rfl
    have hn : news = [] := List.eq_nil_of_length_eq_zero (by simpa using hl)
    subst hn
    refine wpList_plain hgd fun K hK' => ?_
    have hrun := run_append_owned_none (P := P) w base t o.type e i size ht hi v n xs hown
    unfold Oper.wp
    simp [execOp, ho, resolve, invoke, builtin, hs, hx, hrun, Result.andThen]
    exact hK' _ _ (h v w (by simpa using hown) (World.grownBy.refl _ _))
set_option maxRecDepth 1000000 in
theorem grow_none (w : World) : Calls Tryz.prog 59 #[.slice none 0 0, .int .i64 0] w fun e w' => e = .returned (.slice none 0 0) ∧ w' = w := by
  go_enter Tryz.func59, Tryz.ntmps59
  go_wp2
  go_ret
  exact ⟨rfl, rfl⟩
set_option maxRecDepth 1000000 in
theorem grow_some (m : Nat) (w : World) (h0 : 0 < m) (hm : m ≤ 17592186044416) : Calls Tryz.prog 59 #[.slice none 0 0, .int .i64 (m : Int)] w fun e w' => ∃ C, e = .returned (.slice (some ⟨w.heap.size, 0, none⟩) 0 C) ∧ m ≤ C ∧ Below w.heap.size w w' ∧ w'.ownsRow w.heap.size 51 2 (.slice (some ⟨w.heap.size, 0, none⟩) 0 C) 0 [] := by
  obtain ⟨i0, hi0, hz0, hz1, hz2⟩ := info_parts infoPr
  have hr := fun ty => Lib.run_append_nil_zeros (P := Tryz.prog) w 22 3 ty 51 i0 (.agg #[.int .i64 0, .int .i64 0]) .i64 .i64 Tryz.underlying22 Tryz.underlying3 hi0 hz0 m h0 (by rw [hz1]; decide) (by omega) (by rw [hz2]; omega)
  have hge := grownCap_ge w m 0 51
  have hcm := grownCap_le_maxLen w m 0 51 (by unfold maxLen; omega)
  obtain ⟨C, hC⟩ : ∃ C, grownCap w m 0 51 = C := ⟨_, rfl⟩
  rw [hC] at hr hge hcm
  obtain ⟨w1, hw1⟩ : ∃ w1, w.drew.alloc (.cells (Builtin.zeroCells (Value.agg #[.int .i64 0, .int .i64 0]).cells m ++ Builtin.zeroCells (Value.agg #[.int .i64 0, .int .i64 0]).cells (C - m)) 51) = w1 := ⟨_, rfl⟩
  rw [hw1] at hr
  have HB : Hid (Below w.heap.size w w1) := by unfold Hid; rw [← hw1]; exact (Below.refl _ w).drew.alloc (Nat.le_refl _) _
  have HO : Hid (w1.ownsRow w.heap.size 51 2 (.slice (some ⟨w.heap.size, 0, none⟩) 0 C) 0 []) := by
    refine ⟨rfl, .inr ⟨w.heap.size, C, _, rfl, Nat.le_refl _, by rw [← hw1]; exact heap_alloc_new w.drew _, Nat.zero_le _, hcm, ?_, by simp⟩⟩
    rw [Array.size_append, size_zeroCells, size_zeroCells]
    show m * 2 + (C - m) * 2 = C * 2
    omega
  have HR : Hid (∀ ty, (Builtin.append_ #[22, 3] ty #[.slice none 0 0, .int .i64 (m : Int)]).run Tryz.prog w = .ok (.slice (some ⟨w.heap.size, 0, none⟩) m C) w1) := hr
  have h1 : (0 : Int) < (m : Int) := by omega
  clear hr hw1 hC hcm
  go_enter Tryz.func59, Tryz.ntmps59
  go_wp2_with (at_builtin; refine Lib.wpList_append_run _ rfl _ _ _ _ rfl _ _ rfl rfl _ _ (HR.out _) ?_)
  go_ret
  exact ⟨C, rfl, hge, HB.out, HO.out⟩

set_option maxRecDepth 1000000 in
set_option maxHeartbeats 1000000 in
theorem concat_some (gs b : Nat) (a : Option Addr) (c1 c2 : Nat) (ps qs : List Pr) (w : World) (hn : a = none → ps.length = 0 ∧ c1 = 0) (hL : LiesA w a ps) (hQ : Lies w b 0 qs) (hx : Bx w gs #[.slice a ps.length c1, .slice (some ⟨b, 0, none⟩) qs.length c2] 22) (hp : ps.length ≤ 8796093022208) (hq : qs.length ≤ 8796093022208) (h0 : 0 < ps.length + qs.length) :
    Calls Tryz.prog 27 #[.slice (some ⟨gs, 0, none⟩) 2 2] w fun e w' => ∃ g C, e = .returned (.slice (some ⟨g, 0, none⟩) (ps.length + qs.length) C) ∧ Below w.heap.size w w' ∧ Lies w' g 0 (ps ++ qs) := by
  obtain ⟨i0, hi0, hz0, hz1, hz2⟩ := info_parts infoPr
  have HN : Hid (a = none → ps.length = 0 ∧ c1 = 0) := hn
  have HL : Hid (LiesA w a ps) := hL
  have HQ : Hid (Lies w b 0 qs) := hQ
  have HX : Hid (Bx w gs #[.slice a ps.length c1, .slice (some ⟨b, 0, none⟩) qs.length c2] 22) := hx
  obtain ⟨m, hm⟩ : ∃ m : Nat, ps.length + qs.length = m := ⟨_, rfl⟩
  have k1 : IntKind.i64.wrap ((ps.length : Int) + (qs.length : Int)) = (m : Int) := by rw [IntWalk.i64_in _ ⟨by omega, by omega⟩]; omega
  have k2 : ¬ (ps.length : Int) < 0 := by omega
  have k3 : ¬ (m : Int) < 0 := by omega
  have x0 : w.cell? ⟨gs, 0, none⟩ = some (.slice a ps.length c1) := hx.cell 0
  have x1 : w.cell? ⟨gs, 1, none⟩ = some (.slice (some ⟨b, 0, none⟩) qs.length c2) := hx.cell 1
  have GR : Hid (Calls Tryz.prog 59 #[.slice none 0 0, .int .i64 (m : Int)] w fun e w' => ∃ C, e = .returned (.slice (some ⟨w.heap.size, 0, none⟩) 0 C) ∧ m ≤ C ∧ Below w.heap.size w w' ∧ w'.ownsRow w.heap.size 51 2 (.slice (some ⟨w.heap.size, 0, none⟩) 0 C) 0 []) := grow_some m w (by omega) (by omega)
  clear hn hL hQ hx
  have HM : Hid (ps.length + qs.length = m) := hm
  clear hm
  go_enter Tryz.func27, Tryz.ntmps27
  go_wp2
  refine wp_loop_rounds 3 ?_
  rw [rounds_succ]
  go_wp2
  rw [rounds_succ]
  go_wp2
  rw [rounds_succ]
  go_wp2_with (go_at_call 59; (with_reducible refine GR.out.mono ?_); rintro e w1 ⟨C, rfl, hC, hb1, ho1⟩; have HB1 : Hid (Below w.heap.size w w1) := hb1; have O1 : Hid (w1.ownsRow w.heap.size 51 2 (.slice (some ⟨w.heap.size, 0, none⟩) 0 C) 0 []) := ho1; have y0 : w1.cell? ⟨gs, 0, none⟩ = some (.slice a ps.length c1) := (HX.out.below hb1 HX.out.lt).cell 0; clear hb1 ho1)
  refine wp_loop_rounds 3 ?_
  rw [rounds_succ]
  have hps : 0 + ps.length ≤ C := by have := HM.out; omega
  go_wp2_with (at_builtin; refine wpList_append_fits_any _ rfl _ _ 22 rfl w.heap.size 51 i0 2 Tryz.underlying22 hi0 hz1 w.heap.size 0 C _ rfl O1.out a ps.length c1 (flat ps) rfl (flat_length ps) HN.out (by intro ad had; rcases HL.out with h | ⟨b9, o9, hab, h⟩; (intro j u hj; rw [h] at hj; simp [flat] at hj); (rw [hab] at had; cases had; exact (h.below HB1.out h.1).flat)) (flat_oneCell ps) hps ?_; intro w2 ho2 hg2; have HB2 : Hid (Below w.heap.size w w2 ∧ w.heap.size ≤ w2.heap.size) := ⟨HB1.out.grown hg2 HB1.out.size (fun k h => by cases h; exact Nat.le_refl _), Nat.le_trans HB1.out.size hg2.size⟩; rw [List.nil_append, Nat.zero_add] at ho2; rw [Nat.zero_add]; have O2 : Hid (w2.ownsRow w.heap.size 51 2 (.slice (some ⟨w.heap.size, 0, none⟩) ps.length C) ps.length (flat ps)) := ho2; have y1 : w2.cell? ⟨gs, 1, none⟩ = some (.slice (some ⟨b, 0, none⟩) qs.length c2) := (HX.out.below HB2.out.1 HX.out.lt).cell 1; clear ho2 hg2)
  rw [rounds_succ]
  have hqs : ps.length + qs.length ≤ C := by have := HM.out; omega
  go_wp2_with (at_builtin; refine wpList_append_fits_any _ rfl _ _ 22 rfl w.heap.size 51 i0 2 Tryz.underlying22 hi0 hz1 w.heap.size ps.length C _ rfl O2.out (some ⟨b, 0, none⟩) qs.length c2 (flat qs) rfl (flat_length qs) (fun h => by cases h) (by intro ad had; cases had; exact (HQ.out.below HB2.out.1 HQ.out.1).flat) (flat_oneCell qs) hqs ?_; intro w3 ho3 hg3; have HB3 : Hid (Below w.heap.size w w3) := HB2.out.1.grown hg3 HB2.out.2 (fun k h => by cases h; exact Nat.le_refl _); rw [← flat_append] at ho3; have L3 : Hid (Lies w3 w.heap.size 0 (ps ++ qs)) := Lies.own (α := Pr) ho3; clear ho3 hg3)
  rw [rounds_succ]
  go_wp2
  go_ret
  exact ⟨w.heap.size, C, rfl, HB3.out, L3.out⟩

set_option maxRecDepth 1000000 in
set_option maxHeartbeats 1000000 in
theorem concat_none (gs b : Nat) (a : Option Addr) (c1 c2 : Nat) (w : World) (hn : a = none → 0 = 0 ∧ c1 = 0) (hx : Bx w gs #[.slice a 0 c1, .slice (some ⟨b, 0, none⟩) 0 c2] 22) :
    Calls Tryz.prog 27 #[.slice (some ⟨gs, 0, none⟩) 2 2] w fun e w' => ∃ a' C, e = .returned (.slice a' 0 C) ∧ Below w.heap.size w w' := by
  obtain ⟨i0, hi0, hz0, hz1, hz2⟩ := info_parts infoPr
  have HN : Hid (a = none → c1 = 0) := fun h => (hn h).2
  have HX : Hid (Bx w gs #[.slice a 0 c1, .slice (some ⟨b, 0, none⟩) 0 c2] 22) := hx
  have x0 : w.cell? ⟨gs, 0, none⟩ = some (.slice a 0 c1) := hx.cell 0
  have x1 : w.cell? ⟨gs, 1, none⟩ = some (.slice (some ⟨b, 0, none⟩) 0 c2) := hx.cell 1
  clear hn hx
  go_enter Tryz.func27, Tryz.ntmps27
  go_wp2
  refine wp_loop_rounds 3 ?_
  rw [rounds_succ]
  go_wp2
  rw [rounds_succ]
  go_wp2
  rw [rounds_succ]
  go_wp2_with (go_at_call 59; (with_reducible refine (grow_none _).mono ?_); rintro e w1 ⟨rfl, hw1⟩; have hw2 := hw1.symm; clear hw1; subst hw2)
  refine wp_loop_rounds 3 ?_
  rw [rounds_succ]
  go_wp2_with (at_builtin; refine wpList_append_own_any _ rfl _ _ 22 rfl w.heap.size 51 i0 (.agg #[.int .i64 0, .int .i64 0]) 2 16 Tryz.underlying22 hi0 hz0 hz1 hz2 rfl (by decide) (.slice none 0 0) 0 [] rfl (World.ownsRow_nil _ _ _ _) a 0 c1 [] rfl rfl (fun h => ⟨rfl, HN.out h⟩) (fun ad _ j u hj => by simp at hj) (fun u hu => by cases hu) (by unfold maxLen; omega) (by omega) (Nat.le_refl _) ?_; intro v2 w2 ho2 hg2; have HB2 : Hid (Below w.heap.size w w2 ∧ w.heap.size ≤ w2.heap.size) := ⟨(Below.refl _ w).grown hg2 (Nat.le_refl _) (fun k h => by cases h), hg2.size⟩; obtain ⟨a2, k2, hv2, -, -⟩ := own_slice ho2; subst hv2; have O2 : Hid (w2.ownsRow w.heap.size 51 2 (.slice a2 (0 + 0) k2) (0 + 0) ([] ++ [])) := ho2; have y1 : w2.cell? ⟨gs, 1, none⟩ = some (.slice (some ⟨b, 0, none⟩) 0 c2) := (HX.out.below HB2.out.1 HX.out.lt).cell 1; clear ho2 hg2)
  rw [rounds_succ]
  go_wp2_with (at_builtin; refine wpList_append_own_any _ rfl _ _ 22 rfl w.heap.size 51 i0 (.agg #[.int .i64 0, .int .i64 0]) 2 16 Tryz.underlying22 hi0 hz0 hz1 hz2 rfl (by decide) (.slice a2 0 k2) 0 [] rfl O2.out (some ⟨b, 0, none⟩) 0 c2 [] rfl rfl (fun h => by cases h) (fun ad _ j u hj => by simp at hj) (fun u hu => by cases hu) (by unfold maxLen; omega) (by omega) HB2.out.2 ?_; intro v3 w3 ho3 hg3; have HB3 : Hid (Below w.heap.size w w3) := HB2.out.1.grown hg3 HB2.out.2 (fun k h => (O2.out.lt k h).1); obtain ⟨a3, k3, hv3, -, -⟩ := own_slice ho3; subst hv3; clear ho3 hg3)
  rw [rounds_succ]
  go_wp2
  go_ret
  exact ⟨a3, k3, rfl, HB3.out⟩
theorem concat_any (gs b : Nat) (a : Option Addr) (c1 c2 : Nat) (ps qs : List Pr) (w : World) (hn : a = none → ps.length = 0 ∧ c1 = 0) (hL : LiesA w a ps) (hQ : Lies w b 0 qs) (hx : Bx w gs #[.slice a ps.length c1, .slice (some ⟨b, 0, none⟩) qs.length c2] 22) (hp : ps.length ≤ 8796093022208) (hq : qs.length ≤ 8796093022208) :
    Calls Tryz.prog 27 #[.slice (some ⟨gs, 0, none⟩) 2 2] w fun e w' => ∃ a' C, e = .returned (.slice a' (ps ++ qs).length C) ∧ Below w.heap.size w w' ∧ LiesA w' a' (ps ++ qs) := by
  by_cases h0 : 0 < ps.length + qs.length
  · refine (concat_some gs b a c1 c2 ps qs w hn hL hQ hx hp hq h0).mono ?_
    rintro e w' ⟨g, C, rfl, hb, hl⟩
    exact ⟨some ⟨g, 0, none⟩, C, by rw [List.length_append], hb, .inr ⟨g, 0, rfl, hl⟩⟩
  · have h1 : ps = [] := List.eq_nil_of_length_eq_zero (by omega)
    have h2 : qs = [] := List.eq_nil_of_length_eq_zero (by omega)
    subst h1
    subst h2
    refine (concat_none gs b a c1 c2 w hn hx).mono ?_
    rintro e w' ⟨a', C, rfl, hb⟩
    exact ⟨a', C, rfl, hb, .inl rfl⟩
end Go.Proofs.YtgijcbipnjmhgabGreat
