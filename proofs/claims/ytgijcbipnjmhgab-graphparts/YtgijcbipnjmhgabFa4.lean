import Derived.Test.YtgijcbipnjmhgabFa3
import Derived.Test.YtgijcbipnjmhgabTg0
namespace Go.Proofs.Ytgijcbipnjmhgab
set_option linter.unusedVariables false
set_option linter.unusedSimpArgs false

abbrev Rng (ps : List Pr) (n : Nat) : Prop := ∀ p ∈ ps, (0 ≤ p.a ∧ p.a < (n : Int)) ∧ (0 ≤ p.b ∧ p.b < (n : Int))
/-- one thing more in a line -/
theorem more_line {ps : List Pr} {n : Nat} {N N' : Nat → List Int} {os os' : List Int} (hr : Rng ps n) (hN : LstR n ps N) (hl : Ln N n os) (hN' : LstR (n + 1) ps N') (hl' : Ln N' (n + 1) os') : os'.filter (fun x => decide (x ≠ (n : Int))) = os := by
  refine (((hl'.gn hN').filter (fun x => decide (x ≠ (n : Int))) fun x hx hp z hz => ?_).congr (fun x => ?_) (fun x _ z => Iff.rfl)).uniq (hl.gn hN)
  · have := hr _ hz
    simp only at this
    rw [decide_eq_true_eq]
    omega
  · rw [decide_eq_true_eq]
    omega
theorem Low.uniq {ps : List Pr} {x y z : Nat} (h : Low ps x y) (k : Low ps x z) : y = z := by
  have := h.2 z k.1
  have := k.2 y h.1
  omega
theorem alone {ps : List Pr} {n y : Nat} (hr : Rng ps n) (h : Rch ps n y) : y = n := by
  cases h with
  | refl => rfl
  | step e _ =>
    have := hr _ e
    simp only at this
    omega
theorem more_low {ps : List Pr} {n : Nat} {lw lw' : Nat → Nat} (hr : Rng ps n) (h : Lws ps n lw) (h' : Lws ps (n + 1) lw') : (∀ x, x < n → lw' x = lw x) ∧ lw' n = n :=
  ⟨fun x hx => (h'.low x (by omega)).uniq (h.low x hx), alone hr (h'.low n (by omega)).1.1⟩
theorem more_btw {ps : List Pr} {n : Nat} {lw lw' : Nat → Nat} (hr : Rng ps n) (h : Lws ps n lw) (h' : Lws ps (n + 1) lw') : btw lw' ps = btw lw ps := by
  obtain ⟨h1, -⟩ := more_low hr h h'
  unfold btw
  have e1 : ps.filter (fun p => decide (lw' p.a.toNat ≠ lw' p.b.toNat)) = ps.filter (fun p => decide (lw p.a.toNat ≠ lw p.b.toNat)) := List.filter_congr fun p hp => by
    have := hr p hp
    rw [h1 _ (by omega), h1 _ (by omega)]
  rw [e1]
  refine List.map_congr_left fun p hp => ?_
  have := hr p (List.mem_filter.1 hp).1
  rw [h1 _ (by omega), h1 _ (by omega)]
theorem more_los {ps : List Pr} {n : Nat} {lw lw' : Nat → Nat} {N N' : Nat → List Int} {os os' : List Int} (hr : Rng ps n) (h : Lws ps n lw) (hN : LstR n (btw lw ps) N) (hl : Ln N n os) (h' : Lws ps (n + 1) lw') (hN' : LstR (n + 1) (btw lw' ps) N') (hl' : Ln N' (n + 1) os') : (los lw' os').filter (fun x => decide (x ≠ (n : Int))) = los lw os ∧ (n : Int) ∈ los lw' os' ∧ (los lw' os').Nodup := by
  obtain ⟨h1, h2⟩ := more_low hr h h'
  have hb := more_btw hr h h'
  have g' := los_gn h' hN' hl'
  refine ⟨((g'.filter (fun x => decide (x ≠ (n : Int))) fun x hx hp z hz => ?_).congr (fun x => ?_) (fun x _ z => by rw [hb])).uniq (los_gn h hN hl), ?_, g'.nodup⟩
  · rw [hb] at hz
    have := h.btw_rng _ hz
    simp only at this
    rw [decide_eq_true_eq]
    omega
  · rw [decide_eq_true_eq, decide_eq_true_eq, decide_eq_true_eq]
    constructor
    · rintro ⟨⟨⟨a, b⟩, c⟩, d⟩
      rw [h1 x.toNat (by omega)] at c
      exact ⟨⟨a, by omega⟩, c⟩
    · rintro ⟨⟨a, b⟩, c⟩
      exact ⟨⟨⟨a, by omega⟩, by rw [h1 x.toNat (by omega)]; exact c⟩, by omega⟩
  · have := all_lined h' hN' hl' _ n (by omega) (Nat.le_refl _)
    exact List.mem_filter.2 ⟨this, by rw [decide_eq_true_eq, show ((n : Int)).toNat = n by omega, h2]⟩
theorem mem1_more {n z : Nat} {lw lw' : Nat → Nat} (h1 : ∀ x, x < n → lw' x = lw x) (h2 : lw' n = n) : mem1 (n + 1) lw' z = if z = n then (mem1 n lw n) ++ [(n : Int)] else mem1 n lw z := by
  unfold mem1
  rw [List.range_succ, List.filter_append, List.map_append]
  have e1 : ∀ z : Nat, (List.range n).filter (fun y => decide (lw' y = z)) = (List.range n).filter (fun y => decide (lw y = z)) := fun z => List.filter_congr fun y hy => by rw [h1 y (List.mem_range.1 hy)]
  rw [e1]
  by_cases e : z = n
  · subst e
    rw [if_pos rfl, List.filter_cons_of_pos (by simp [h2])]
    rfl
  · rw [if_neg e, List.filter_cons_of_neg (by simp [h2]; omega)]
    simp
theorem filter_len {l : List Int} {x : Int} (hn : l.Nodup) (hx : x ∈ l) : l.length = (l.filter fun y => decide (y ≠ x)).length + 1 := by
  induction l with
  | nil => cases hx
  | cons a l ih =>
    obtain ⟨h1, h2⟩ := List.nodup_cons.1 hn
    by_cases e : a = x
    · subst e
      rw [List.filter_cons_of_neg (by simp), List.length_cons, List.filter_eq_self.2 (fun y hy => by rw [decide_eq_true_eq]; intro e; subst e; exact h1 hy)]
    · rw [List.filter_cons_of_pos (by simpa using e), List.length_cons, List.length_cons, ih h2 ((List.mem_cons.1 hx).resolve_left (fun e2 => e e2.symm))]
/-- one thing more: a part more, nothing else -/
theorem more_parts {ps : List Pr} {n : Nat} {lw lw' : Nat → Nat} {N N' : Nat → List Int} {os os' : List Int} (hr : Rng ps n) (h : Lws ps n lw) (hN : LstR n (btw lw ps) N) (hl : Ln N n os) (h' : Lws ps (n + 1) lw') (hN' : LstR (n + 1) (btw lw' ps) N') (hl' : Ln N' (n + 1) os') : (pts (n + 1) lw' os').filter (fun p => decide (p ≠ [(n : Int)])) = pts n lw os ∧ (pts (n + 1) lw' os').length = (pts n lw os).length + 1 := by
  obtain ⟨e1, e2, e3⟩ := more_los hr h hN hl h' hN' hl'
  obtain ⟨h1, h2⟩ := more_low hr h h'
  have hmn : mem1 n lw n = [] := by
    unfold mem1
    rw [List.map_eq_nil_iff, List.filter_eq_nil_iff]
    intro y hy hy2
    have := h.lt (List.mem_range.1 hy)
    rw [decide_eq_true_eq] at hy2
    omega
  have key : ∀ l : List Int, (∀ x ∈ l, 0 ≤ x) → (l.map fun x => mem1 (n + 1) lw' x.toNat).filter (fun p => decide (p ≠ [(n : Int)])) = (l.filter fun x => decide (x ≠ (n : Int))).map fun x => mem1 n lw x.toNat := by
    intro l
    induction l with
    | nil => intro _; rfl
    | cons a l ih =>
      intro hl
      have ha := hl a List.mem_cons_self
      have ih := ih (fun x hx => hl x (List.mem_cons_of_mem _ hx))
      rw [List.map_cons, mem1_more h1 h2]
      by_cases e : a = (n : Int)
      · subst e
        rw [if_pos (by omega), hmn, List.nil_append, List.filter_cons_of_neg (by simp), List.filter_cons_of_neg (by simp), ih]
      · rw [if_neg (by omega), List.filter_cons_of_pos ?_, List.filter_cons_of_pos (by simpa using e), List.map_cons, ih]
        rw [decide_eq_true_eq]
        intro e2
        have : (n : Int) ∈ mem1 n lw a.toNat := by rw [e2]; simp
        obtain ⟨x, ex, hx, -⟩ := mem_mem1.1 this
        omega
  have hpos : ∀ x ∈ los lw' os', 0 ≤ x := fun x hx => (hl'.rng x (List.mem_filter.1 hx).1).1
  refine ⟨by rw [pts_los, pts_los, key _ hpos, e1], ?_⟩
  rw [pts_los, pts_los, List.length_map, List.length_map, filter_len e3 e2, e1]
theorem filter_at {α : Type} (P : α → Bool) : ∀ (l : List α) (i : Nat) (x : α), l[i]? = some x → P x = true → (l.filter P)[((l.take i).filter P).length]? = some x
  | [], i, x, h, _ => by simp at h
  | a :: l, 0, x, h, hp => by
    simp at h
    subst h
    rw [List.filter_cons_of_pos hp]
    rfl
  | a :: l, i + 1, x, h, hp => by
    have ih := filter_at P l i x (by simpa using h) hp
    rw [List.take_succ_cons]
    by_cases e : P a = true
    · rw [List.filter_cons_of_pos e, List.filter_cons_of_pos e, List.length_cons, List.getElem?_cons_succ]
      exact ih
    · rw [List.filter_cons_of_neg e, List.filter_cons_of_neg e]
      exact ih
/-- one thing more: a class of its own, nothing else -/
theorem more_class {ps : List Pr} {n : Nat} {c d : List Int} (hr : Rng ps n) (h : CL (both ps) n c) (k : CL (both ps) (n + 1) d) : d.take n = c ∧ d[n]? = some (n : Int) := by
  refine ⟨CL.one ⟨by rw [List.length_take, k.1]; omega, fun y hy => ?_⟩ h, ?_⟩
  · obtain ⟨r, h1, h2⟩ := k.2 y (by omega)
    exact ⟨r, by rw [List.getElem?_take, if_pos hy]; exact h1, h2⟩
  · obtain ⟨r, h1, h2, -⟩ := k.2 n (by omega)
    have hb : Rng (both ps) n := fun p hp => by
      obtain ⟨a, b⟩ := p
      rcases both_mem.1 hp with hp | hp
      · exact hr _ hp
      · have := hr _ hp
        simp only at this ⊢
        omega
    have := alone hb h2
    subst this
    exact h1
end Go.Proofs.Ytgijcbipnjmhgab

namespace Go.Proofs.Ytgijcbipnjmhgab
open Go.ChangeShapes Go.WideShapes Go.ChangeAt Go.RowKit
set_option linter.unusedVariables false
set_option linter.unusedSimpArgs false

set_option maxRecDepth 1000000 in
set_option maxHeartbeats 2000000 in
theorem order_bad (n : Int) (a : Option Addr) (cap : Nat) (ps : List Pr) (w : World) (hL : LiesA w a ps) (hm : ps.length ≤ 8796093022208) (h : things n ps = false) :
    Calls Try.prog 7 #[.int .i64 n, .slice a ps.length cap] w fun e w' => e = .returned (.tuple #[.slice none 0 0, .slice none 0 0, .int .i64 1]) ∧ Below w.heap.size w w' := by
  have AT : Hid (Calls Try.prog 17 #[.int .i64 n, .slice a ps.length cap] w fun e w' => e = .returned (.bool (things n ps)) ∧ Below w.heap.size w w') := areThings_any n a cap ps w hL (by omega)
  rw [h] at AT
  go_enter Try.func7, Try.ntmps7
  go_wp2_with (go_at_call 17; (with_reducible refine AT.out.mono ?_); rintro e v1 ⟨rfl, hb1⟩; have HB1 : Hid (Below w.heap.size w v1) := hb1; clear hb1)
  go_ret3
  exact ⟨rfl, HB1.out⟩
set_option maxRecDepth 1000000 in
set_option maxHeartbeats 4000000 in
theorem order_yes (n cap : Nat) (a : Option Addr) (ps : List Pr) (w : World) (hL : LiesA w a ps) (hm : ps.length ≤ 8796093022208) (ht : things (n : Int) ps = true) (hno : ∀ x, ¬ OnC ps x) :
    Calls Try.prog 7 #[.int .i64 (n : Int), .slice a ps.length cap] w fun e w' => ∃ v, e = .returned (.tuple #[v, .slice none 0 0, .int .i64 0]) ∧ Below w.heap.size w w' ∧ ∃ N os, LstR n ps N ∧ Ln N n os ∧ os.length = n ∧ w'.ownsRow w.heap.size 3 1 v os.length (flat os) := by
  obtain ⟨hn, hps⟩ := things_spec ht
  have HL := hidH hL
  have HPS := hidH hps
  have HNO := hidH hno
  have AT : Hid (Calls Try.prog 17 #[.int .i64 (n : Int), .slice a ps.length cap] w fun e w' => e = .returned (.bool true) ∧ Below w.heap.size w w') := by unfold Hid; rw [← ht]; exact areThings_any (n : Int) a cap ps w hL (by omega)
  clear hL hps ht hno
  go_enter Try.func7, Try.ntmps7
  go_upto_region 5 with (first
    | (go_at_call 17; (with_reducible refine AT.out.mono ?_); rintro e v1 ⟨rfl, hb1⟩; have HB1 := hidH hb1; have LS1 := hidH (listsR_any n cap a ps v1 (HL.out.below hb1) hn (by omega) HPS.out); clear hb1)
    | (go_at_call 18; (with_reducible refine LS1.out.mono ?_); clear LS1; rintro e w1 ⟨rfl, hb2, N, hrN, hlN⟩; have HB2 := hidH (HB1.out.trans (hb2.mono HB1.out.size)); have RN := hidH hrN; have LN := hidH hlN; have TU := hidH (turned_any a cap ps w1 (HL.out.below HB2.out) hm); clear hb2 hrN hlN HB1)
    | (go_at_call 19; (with_reducible refine TU.out.mono ?_); clear TU; rintro e w2 ⟨rfl, hb3, hli⟩; have HB3 := hidH (HB2.out.trans (hb3.mono HB2.out.size)); have RN2 := hidH (RN.out.below hb3); have LS2 := hidH (listsR_any n ps.length (some ⟨w1.heap.size, 0, none⟩) (ps.map swapP) w2 (.inr ⟨_, _, rfl, hli⟩) hn (by rw [List.length_map]; omega) (swap_rng HPS.out)); rw [List.length_map] at LS2; have HZ2 := hidH hb3.size; clear hb3 hli HB2 RN)
    | (go_at_call 18; (with_reducible refine LS2.out.mono ?_); clear LS2; rintro e w3 ⟨rfl, hb4, D, hrD, hlD⟩; have HB4 := hidH (HB3.out.trans (hb4.mono HB3.out.size)); have LU := hidH (lineUp_any _ _ n N D w3 ((RN2.out.below (hb4.mono HZ2.out)).up (Nat.le_trans HZ2.out hb4.size)) hrD (LN.out.bth hlD (trn_swap ps) HPS.out) hn); clear hb4 hrD hlD HB3 RN2 HZ2)
    | (go_at_call 20; (with_reducible refine LU.out.mono ?_); clear LU; rintro e w4 ⟨O, os, rfl, hoO, hb5, hln⟩; have HB5 := hidH (HB4.out.trans (hb5.mono HB4.out.size)); have OO := hidH (own_lower hoO HB4.out.size); have LNN := hidH hln; clear hoO hb5 hln HB4))
  have hfull : os.length = n := (full_iff LNN.out.nod LNN.out.rng).2 fun x hx => all_in HPS.out LN.out LNN.out HNO.out _ x hx (Nat.le_refl _)
  obtain ⟨aO, cO, hO, -, -⟩ := own_slice OO.out
  subst hO
  have HFU := hidH hfull
  rw [hfull]
  clear hfull
  go_wp2
  go_ret3
  exact ⟨_, rfl, HB5.out, N, os, LN.out, LNN.out, HFU.out, by have h9 := OO.out; rw [HFU.out] at h9 ⊢; exact h9⟩
set_option maxRecDepth 1000000 in
set_option maxHeartbeats 4000000 in
theorem order_cyc (n cap : Nat) (a : Option Addr) (ps : List Pr) (w : World) (hL : LiesA w a ps) (hm : ps.length ≤ 8796093022208) (ht : things (n : Int) ps = true) (hex : ∃ x, OnC ps x) :
    Calls Try.prog 7 #[.int .i64 (n : Int), .slice a ps.length cap] w fun e w' => ∃ v, e = .returned (.tuple #[.slice none 0 0, v, .int .i64 73]) ∧ Below w.heap.size w w' ∧ ∃ (f : Nat) (l : List Int), w'.ownsRow w.heap.size 3 1 v ((f : Int) :: l).length (flat ((f : Int) :: l)) ∧ Fst ps f ∧ Cyc ps f f l := by
  obtain ⟨hn, hps⟩ := things_spec ht
  have HL := hidH hL
  have HPS := hidH hps
  have HEX := hidH hex
  have AT : Hid (Calls Try.prog 17 #[.int .i64 (n : Int), .slice a ps.length cap] w fun e w' => e = .returned (.bool true) ∧ Below w.heap.size w w') := by unfold Hid; rw [← ht]; exact areThings_any (n : Int) a cap ps w hL (by omega)
  clear hL hps ht hex
  go_enter Try.func7, Try.ntmps7
  go_upto_region 5 with (first
    | (go_at_call 17; (with_reducible refine AT.out.mono ?_); rintro e v1 ⟨rfl, hb1⟩; have HB1 := hidH hb1; have LS1 := hidH (listsR_any n cap a ps v1 (HL.out.below hb1) hn (by omega) HPS.out); clear hb1)
    | (go_at_call 18; (with_reducible refine LS1.out.mono ?_); clear LS1; rintro e w1 ⟨rfl, hb2, N, hrN, hlN⟩; have HB2 := hidH (HB1.out.trans (hb2.mono HB1.out.size)); have RN := hidH hrN; have LN := hidH hlN; have TU := hidH (turned_any a cap ps w1 (HL.out.below HB2.out) hm); clear hb2 hrN hlN HB1)
    | (go_at_call 19; (with_reducible refine TU.out.mono ?_); clear TU; rintro e w2 ⟨rfl, hb3, hli⟩; have HB3 := hidH (HB2.out.trans (hb3.mono HB2.out.size)); have RN2 := hidH (RN.out.below hb3); have LS2 := hidH (listsR_any n ps.length (some ⟨w1.heap.size, 0, none⟩) (ps.map swapP) w2 (.inr ⟨_, _, rfl, hli⟩) hn (by rw [List.length_map]; omega) (swap_rng HPS.out)); rw [List.length_map] at LS2; have HZ2 := hidH hb3.size; clear hb3 hli HB2 RN)
    | (go_at_call 18; (with_reducible refine LS2.out.mono ?_); clear LS2; rintro e w3 ⟨rfl, hb4, D, hrD, hlD⟩; have HB4 := hidH (HB3.out.trans (hb4.mono HB3.out.size)); have RN3 := hidH ((RN2.out.below (hb4.mono HZ2.out)).up (Nat.le_trans HZ2.out hb4.size)); have RD3 := hidH hrD; have LD := hidH hlD; have LU := hidH (lineUp_any _ _ n N D w3 RN3.out hrD (LN.out.bth hlD (trn_swap ps) HPS.out) hn); clear hb4 hrD hlD HB3 RN2 HZ2)
    | (go_at_call 20; (with_reducible refine LU.out.mono ?_); clear LU; rintro e w4 ⟨O, os, rfl, hoO, hb5, hln⟩; have HB5 := hidH (HB4.out.trans (hb5.mono HB4.out.size)); have OO := hidH (own_lower hoO HB4.out.size); have LNN := hidH hln; have CY := hidH (cycle_any _ _ n N D ps (ps.map swapP) w4 ((RN3.out.below hb5).up hb5.size) ((RD3.out.below hb5).up hb5.size) LN.out LD.out (trn_swap ps) HPS.out (swap_rng HPS.out) hn HEX.out); clear hoO hb5 hln HB4))
  have hnf : os.length ≠ n := fun e => by
    obtain ⟨x, hx⟩ := HEX.out
    exact LNN.out.noc HPS.out LN.out e x hx
  have hos := nodup_le LNN.out.nod LNN.out.rng
  obtain ⟨aO, cO, hO, -, -⟩ := own_slice OO.out
  subst hO
  obtain ⟨q, hq⟩ : ∃ q, os.length = q := ⟨_, rfl⟩
  rw [hq] at hnf hos ⊢
  have hq1 : ((q : Int) == (n : Int)) = false := by rw [beq_eq_false_iff_ne]; omega
  have hq2 : ¬ (q : Int) = (n : Int) := by omega
  clear hq
  go_wp2_with (go_at_call 21; (with_reducible refine CY.out.mono ?_); clear CY; rintro e w5 ⟨v, rfl, hb6, f, l, ho6, hF, hC⟩; have HB6 := hidH (HB5.out.trans (hb6.mono HB5.out.size)); have O6 := hidH (own_lower ho6 HB5.out.size); have HF := hidH hF; have HC := hidH hC; clear hb6 ho6 hF hC)
  go_ret3
  exact ⟨_, rfl, HB6.out, f, l, O6.out, HF.out, HC.out⟩
end Go.Proofs.Ytgijcbipnjmhgab
