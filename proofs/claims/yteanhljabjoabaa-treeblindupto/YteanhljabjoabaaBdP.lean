import Derived.Test.YteanhljabjoabaaVl4
import Derived.Test.YteanhljabjoabaaSa2
import Derived.Test.YteanhljabjoabaaTx1
namespace Go.Proofs.Yteanhljabjoabaa
open Go.ChangeShapes Go.WideShapes Go.ChangeAt Go.RowKit
set_option linter.unusedVariables false

/-- a blank, a comment -/
def bl : Tk := ⟨0, 3, 1⟩
def nt : Tk := ⟨1, 0, 1⟩
/-- what is put ahead of a piece -/
def gp (c : Nat → Bool) (n : Nat) : List Tk := if c n then [bl, nt] else []
/-- the first n pieces with what is put between -/
def wvn (c : Nat → Bool) (ts : List Tk) : Nat → List Tk
  | 0 => []
  | n + 1 => wvn c ts n ++ gp c n ++ (match ts[n]? with | some p => [p] | none => [])
def cn (c : Nat → Bool) : Nat → Nat
  | 0 => 0
  | n + 1 => cn c n + (if c n then 1 else 0)
/-- where a piece stands behind -/
def pl (c : Nat → Bool) (i : Nat) : Nat := i + 2 * cn c (i + 1)
def plc (c : Nat → Bool) (L i : Nat) : Nat := if i < L then pl c i else L + 2 * cn c L
/-- a node's run behind -/
def mvE (c : Nat → Bool) (L : Nat) (x : Nd) : Nat := if x.f < x.e then pl c (x.e.toNat - 1) + 1 else plc c L x.f.toNat
def mv (c : Nat → Bool) (L : Nat) (x : Nd) : Nd := ⟨x.k, plc c L x.f.toNat, mvE c L x, x.s⟩

theorem gp_len (c : Nat → Bool) (n : Nat) : (gp c n).length = 2 * (if c n then 1 else 0) := by unfold gp; split <;> rfl
theorem gp_filter (c : Nat → Bool) (n : Nat) : (gp c n).filter tokB = [] := by unfold gp; split <;> rfl

theorem wvn_len (c : Nat → Bool) (ts : List Tk) : ∀ n, n ≤ ts.length → (wvn c ts n).length = n + 2 * cn c n
  | 0, _ => rfl
  | n + 1, h => by
    rw [wvn, List.getElem?_eq_getElem (by omega)]
    simp only [List.length_append, wvn_len c ts n (by omega), gp_len, cn, List.length_singleton]
    omega
theorem wvn_filter (c : Nat → Bool) (ts : List Tk) : ∀ n, n ≤ ts.length → (wvn c ts n).filter tokB = (ts.take n).filter tokB
  | 0, _ => rfl
  | n + 1, h => by
    have hn : n < ts.length := by omega
    rw [wvn, List.getElem?_eq_getElem hn, List.take_add_one, List.getElem?_eq_getElem hn]
    simp only [List.filter_append, gp_filter, wvn_filter c ts n (by omega), List.append_nil, Option.toList]
theorem wvn_pre (c : Nat → Bool) (ts : List Tk) (n : Nat) : ∀ m, ∃ r, wvn c ts (n + m) = wvn c ts n ++ r
  | 0 => ⟨[], by simp⟩
  | m + 1 => by
    obtain ⟨r, hr⟩ := wvn_pre c ts n m
    rw [← Nat.add_assoc, wvn, hr]
    exact ⟨r ++ (gp c (n + m) ++ (match ts[n + m]? with | some p => [p] | none => [])), by simp⟩
theorem cn_mono (c : Nat → Bool) (n : Nat) : ∀ m, cn c n ≤ cn c (n + m)
  | 0 => Nat.le_refl _
  | m + 1 => by have := cn_mono c n m; rw [← Nat.add_assoc, cn]; omega
theorem cn_le (c : Nat → Bool) : ∀ n, cn c n ≤ n
  | 0 => Nat.le_refl _
  | n + 1 => by have := cn_le c n; rw [cn]; split <;> omega
theorem pl_lt (c : Nat → Bool) {i j : Nat} (h : i < j) : pl c i < pl c j := by
  have := cn_mono c (i + 1) (j - i)
  rw [show i + 1 + (j - i) = j + 1 by omega] at this
  unfold pl; omega
theorem pl_le (c : Nat → Bool) {i j : Nat} (h : i ≤ j) : pl c i ≤ pl c j := by
  rcases Nat.lt_or_ge i j with h' | h'
  · exact Nat.le_of_lt (pl_lt c h')
  · rw [show i = j by omega]; exact Nat.le_refl _
theorem pl_end (c : Nat → Bool) {i L : Nat} (h : i < L) : pl c i + 1 ≤ L + 2 * cn c L := by
  have := cn_mono c (i + 1) (L - (i + 1))
  rw [show i + 1 + (L - (i + 1)) = L by omega] at this
  unfold pl; omega
theorem plc_le (c : Nat → Bool) (L : Nat) {i j : Nat} (h : i ≤ j) : plc c L i ≤ plc c L j := by
  unfold plc
  by_cases h1 : i < L
  · rw [if_pos h1]
    by_cases h2 : j < L
    · rw [if_pos h2]; exact pl_le c h
    · rw [if_neg h2]; have := pl_end c h1; omega
  · rw [if_neg h1, if_neg (by omega)]; exact Nat.le_refl _
theorem plc_top (c : Nat → Bool) (L i : Nat) : plc c L i ≤ L + 2 * cn c L := by
  unfold plc; split
  · have := pl_end c (L := L) (i := i) (by assumption); omega
  · exact Nat.le_refl _

/-- the tokens of a stretch -/
def tin (ts : List Tk) (b n : Nat) : List Tk := ((ts.drop b).take n).filter tokB

theorem tin_wv (c : Nat → Bool) (ts : List Tk) {f e : Nat} (h : f < e) (he : e ≤ ts.length) : tin (wvn c ts ts.length) (pl c f) (pl c (e - 1) + 1 - pl c f) = tin ts f (e - f) := by
  obtain ⟨r, hr⟩ := wvn_pre c ts e (ts.length - e)
  rw [show e + (ts.length - e) = ts.length by omega] at hr
  have he1 : (wvn c ts e).length = pl c (e - 1) + 1 := by
    rw [wvn_len c ts e he]; unfold pl; rw [show e - 1 + 1 = e by omega]; omega
  have hf1 : (wvn c ts f ++ gp c f).length = pl c f := by
    rw [List.length_append, wvn_len c ts f (by omega), gp_len]; unfold pl; rw [cn]; omega
  obtain ⟨q, hq⟩ : ∃ q, wvn c ts e = (wvn c ts f ++ gp c f) ++ q := by
    obtain ⟨r2, hr2⟩ := wvn_pre c ts (f + 1) (e - (f + 1))
    rw [show f + 1 + (e - (f + 1)) = e by omega, wvn] at hr2
    exact ⟨_, by rw [hr2, List.append_assoc]⟩
  have hql : q.length = pl c (e - 1) + 1 - pl c f := by
    have := congrArg List.length hq
    rw [he1, List.length_append, hf1] at this; omega
  unfold tin
  rw [hr, hq, List.append_assoc, List.drop_append_of_le_length (by omega), List.drop_eq_nil_iff.2 (by omega), List.nil_append, List.take_append_of_le_length (by omega), List.take_of_length_le (by omega)]
  have k1 := wvn_filter c ts e he
  rw [hq, List.filter_append, List.filter_append, gp_filter, List.append_nil, wvn_filter c ts f (by omega)] at k1
  have k2 : ts.take e = ts.take f ++ (ts.drop f).take (e - f) := by
    rw [show e = f + (e - f) by omega, List.take_add]; simp
  rw [k2, List.filter_append] at k1
  exact List.append_cancel_left k1

theorem kby_tin (ts : List Tk) (b : Nat) : ∀ n, kby ts b n = (tin ts b n).map kb
  | 0 => by simp [kby, tin]
  | n + 1 => by
    unfold tin
    rw [kby, List.take_add_one, List.getElem?_drop, kby_tin ts b n]
    cases h : ts[b + n]? with
    | none => simp [tin]
    | some p =>
      simp only [Option.toList, List.filter_append, List.map_append]
      cases ht : tokB p <;> simp [ht, tin]
theorem txt_tin (s : ByteArray) (ts : List Tk) (b : Nat) : ∀ n, txt s ts b n = (tin ts b n).foldl (fun acc p => stp s p acc) []
  | 0 => by simp [txt, tin]
  | n + 1 => by
    unfold tin
    rw [txt, List.take_add_one, List.getElem?_drop, txt_tin s ts b n]
    cases h : ts[b + n]? with
    | none => simp [tin]
    | some p =>
      simp only [Option.toList, List.filter_append, List.foldl_append]
      cases ht : tokB p <;> simp [ht, tin]

/-- of a node whose run is right: what stands in it stands in what it becomes -/
structure Fit (L : Nat) (x : Nd) : Prop where
  f0 : 0 ≤ x.f
  fe : x.f ≤ x.e
  eL : x.e ≤ (L : Int)

theorem mv_span (c : Nat → Bool) (ts : List Tk) {x : Nd} (h : Fit ts.length x) :
    tin (wvn c ts ts.length) (spB (mv c ts.length x) (wvn c ts ts.length).length) (spE (mv c ts.length x) (wvn c ts ts.length).length - spB (mv c ts.length x) (wvn c ts ts.length).length) =
      tin ts (spB x ts.length) (spE x ts.length - spB x ts.length) := by
  obtain ⟨h0, h1, h2⟩ := h
  have hl := wvn_len c ts ts.length (Nat.le_refl _)
  have b1 : spB x ts.length = x.f.toNat := by unfold spB; omega
  have e1 : spE x ts.length = x.e.toNat := by unfold spE; rw [b1]; omega
  have ht := plc_top c ts.length x.f.toNat
  have b2 : spB (mv c ts.length x) (wvn c ts ts.length).length = plc c ts.length x.f.toNat := by unfold spB mv; rw [hl]; simp only [Int.toNat_natCast]; omega
  rw [b1, e1, b2]
  by_cases hlt : x.f < x.e
  · have hm : mvE c ts.length x = pl c (x.e.toNat - 1) + 1 := by unfold mvE; rw [if_pos hlt]
    have hp : plc c ts.length x.f.toNat = pl c x.f.toNat := by unfold plc; rw [if_pos (by omega)]
    have k1 := pl_le c (i := x.f.toNat) (j := x.e.toNat - 1) (by omega)
    have k2 := pl_end c (i := x.e.toNat - 1) (L := ts.length) (by omega)
    have e2 : spE (mv c ts.length x) (wvn c ts ts.length).length = pl c (x.e.toNat - 1) + 1 := by
      unfold spE; rw [b2, hp]; unfold mv; rw [hm, hl]; simp only [Int.toNat_natCast]; omega
    rw [e2, hp]
    exact tin_wv c ts (by omega) (by omega)
  · have hm : mvE c ts.length x = plc c ts.length x.f.toNat := by unfold mvE; rw [if_neg hlt]
    have e2 : spE (mv c ts.length x) (wvn c ts ts.length).length = plc c ts.length x.f.toNat := by
      unfold spE; rw [b2]; unfold mv; rw [hm, hl]; simp only [Int.toNat_natCast]; omega
    rw [e2, Nat.sub_self, show x.e.toNat - x.f.toNat = 0 by omega]
    simp [tin]

theorem kds_map (g : Nd → Nd) (hg : ∀ x, (g x).s = x.s) (ns : List Nd) (e : Nat) : ∀ d k, e - k ≤ d → kds (ns.map g) e k = kds ns e k := by
  intro d
  induction d with
  | zero => intro k h; rw [kds_end (by omega), kds_end (by omega)]
  | succ d ih =>
    intro k h
    by_cases hk : k < e
    · cases hx : ns[k]? with
      | none => rw [kds, kds, dif_pos hk, dif_pos hk, List.getElem?_map, hx]; rfl
      | some x =>
        have hx2 : (ns.map g)[k]? = some (g x) := by rw [List.getElem?_map, hx]; rfl
        by_cases h1 : 1 ≤ x.s ∧ x.s ≤ (e : Int) - k
        · rw [kds_step hk hx h1.1 h1.2, kds_step hk hx2 (by rw [hg]; exact h1.1) (by rw [hg]; exact h1.2), hg, ih _ (by omega)]
        · rw [kds_bad hk hx h1, kds_bad hk hx2 (by rw [hg]; exact h1)]
    · rw [kds_end hk, kds_end hk]
theorem whl_map (g : Nd → Nd) (hg : ∀ x, (g x).s = x.s) (ns : List Nd) (n : Int) : whl (ns.map g) n = whl ns n := by
  unfold whl
  rw [List.getElem?_map, List.length_map]
  cases ns[n.toNat]? with
  | none => rfl
  | some x => simp [hg]
theorem kid_map (g : Nd → Nd) (hg : ∀ x, (g x).s = x.s) (ns : List Nd) (n : Int) : kid (ns.map g) n = kid ns n := by
  unfold kid
  rw [whl_map g hg, List.getElem?_map]
  cases ns[n.toNat]? with
  | none => rfl
  | some x => simp only [Option.map_some, hg]; rw [kds_map g hg ns _ _ _ (Nat.le_refl _)]
theorem shB_map (g : Nd → Nd) (hg : ∀ x, (g x).s = x.s) (hk : ∀ x, (g x).k = x.k) (ns : List Nd) : shB (ns.map g) = shB ns := by
  have ho : ∀ n : Nat, okN (ns.map g) n = okN ns n := by
    intro n
    unfold okN
    rw [kid_map g hg, List.getElem?_map]
    cases ns[n]? with
    | none => rfl
    | some x => simp [hk]
  unfold shB
  rw [List.length_map, List.getElem?_map, show okN (ns.map g) = okN ns from funext ho]
  cases ns[0]? with
  | none => rfl
  | some x => simp [hg]

theorem rnF_mv (c : Nat → Bool) {L : Nat} {ns : List Nd} {p : Nd} (hp : Fit L p) (hf : ∀ (k : Nat) (x : Nd), ns[k]? = some x → Fit L x) :
    ∀ (ks : List Int) (fr fr' : Int), p.f ≤ fr → (∀ j : Nat, fr ≤ (j : Int) → j < L → fr' ≤ (pl c j : Int)) → rnF ns p fr ks = true → rnF (ns.map (mv c L)) (mv c L p) fr' ks = true
  | [], _, _, _, _, _ => rfl
  | k :: ks, fr, fr', hpf, hj, h => by
    rw [rnF] at h ⊢
    cases hx : ns[k.toNat]? with
    | none => rw [hx] at h; cases h
    | some x =>
      rw [hx] at h
      rw [List.getElem?_map, hx]
      simp only [Option.map_some] at h ⊢
      obtain ⟨x0, x1, x2⟩ := hf _ x hx
      obtain ⟨p0, p1, p2⟩ := hp
      by_cases he : x.f = x.e
      · have hm : (mv c L x).f = (mv c L x).e := by unfold mv mvE; rw [if_neg (by omega)]
        rw [if_pos he] at h
        rw [if_pos hm]
        by_cases hl : x.f < p.f
        · rw [if_pos hl] at h; cases h
        · rw [if_neg hl] at h
          have hl2 : ¬ (mv c L x).f < (mv c L p).f := by
            have := plc_le c L (i := p.f.toNat) (j := x.f.toNat) (by omega)
            unfold mv; simp only; omega
          rw [if_neg hl2]
          exact rnF_mv c ⟨p0, p1, p2⟩ hf ks fr fr' hpf hj h
      · rw [if_neg he] at h
        by_cases hl : x.f < fr ∨ p.e < x.e
        · rw [if_pos hl] at h; cases h
        · rw [if_neg hl] at h
          have hq : plc c L x.f.toNat = pl c x.f.toNat := by unfold plc; rw [if_pos (by omega)]
          have hm1 : mvE c L x = pl c (x.e.toNat - 1) + 1 := by unfold mvE; rw [if_pos (by omega)]
          have hm2 : mvE c L p = pl c (p.e.toNat - 1) + 1 := by unfold mvE; rw [if_pos (by omega)]
          have k1 := pl_le c (i := x.f.toNat) (j := x.e.toNat - 1) (by omega)
          have k2 := pl_le c (i := x.e.toNat - 1) (j := p.e.toNat - 1) (by omega)
          have k3 := hj x.f.toNat (by omega) (by omega)
          have hm : ¬ (mv c L x).f = (mv c L x).e := by unfold mv; simp only; rw [hq, hm1]; omega
          have hl2 : ¬ ((mv c L x).f < fr' ∨ (mv c L p).e < (mv c L x).e) := by unfold mv; simp only; rw [hq, hm1, hm2]; omega
          rw [if_neg hm, if_neg hl2]
          refine rnF_mv c ⟨p0, p1, p2⟩ hf ks x.e _ (by omega) (fun j h1 h2 => ?_) h
          have := pl_lt c (i := x.e.toNat - 1) (j := j) (by omega)
          unfold mv; simp only; rw [hm1]; omega

theorem fit_of {ns : List Nd} {L : Nat} (h : vlB ns L = true) : ∀ (k : Nat) (x : Nd), ns[k]? = some x → Fit L x := by
  intro k x hx
  unfold vlB at h
  simp only [Bool.and_eq_true, List.all_eq_true, List.mem_range] at h
  have := h.2 k (List.getElem?_eq_some_iff.1 hx).1
  unfold vlN at this
  rw [hx] at this
  simp only [Bool.and_eq_true, decide_eq_true_eq] at this
  exact ⟨this.1.1.1, this.1.1.2, this.1.2⟩

theorem vlB_mv (c : Nat → Bool) {ns : List Nd} {L : Nat} (h : vlB ns L = true) : vlB (ns.map (mv c L)) ((L + 2 * cn c L : Nat) : Int) = true := by
  have hf := fit_of h
  unfold vlB at h ⊢
  simp only [Bool.and_eq_true, List.all_eq_true, List.mem_range] at h ⊢
  refine ⟨by rw [shB_map (mv c L) (fun x => rfl) (fun x => rfl)]; exact h.1, ?_⟩
  intro n hn
  rw [List.length_map] at hn
  obtain ⟨p, hp⟩ : ∃ p, ns[n]? = some p := ⟨_, List.getElem?_eq_getElem hn⟩
  have hp2 : (ns.map (mv c L))[n]? = some (mv c L p) := by rw [List.getElem?_map, hp]; rfl
  have hv := h.2 n hn
  unfold vlN rnN at hv ⊢
  rw [hp] at hv
  rw [hp2]
  simp only [Bool.and_eq_true, decide_eq_true_eq] at hv ⊢
  have F := hf n p hp
  obtain ⟨p0, p1, p2⟩ := F
  have ht := plc_top c L p.f.toNat
  refine ⟨⟨⟨by unfold mv; simp only; omega, ?_⟩, ?_⟩, ?_⟩
  · unfold mv mvE; simp only
    by_cases hl : p.f < p.e
    · rw [if_pos hl]
      have := pl_le c (i := p.f.toNat) (j := p.e.toNat - 1) (by omega)
      unfold plc; rw [if_pos (by omega)]; omega
    · rw [if_neg hl]; exact Int.le_refl _
  · unfold mv mvE; simp only
    by_cases hl : p.f < p.e
    · rw [if_pos hl]
      have := pl_end c (i := p.e.toNat - 1) (L := L) (by omega)
      omega
    · rw [if_neg hl]; omega
  · rw [kid_map (mv c L) (fun x => rfl)]
    refine rnF_mv c ⟨p0, p1, p2⟩ hf _ p.f _ (Int.le_refl _) (fun j h1 h2 => ?_) hv.2
    unfold mv; simp only
    unfold plc
    rw [if_pos (by omega)]
    have := pl_le c (i := p.f.toNat) (j := j) (by omega)
    omega

theorem kof_mv (c : Nat → Bool) {ts : List Tk} {x : Nd} (h : Fit ts.length x) : kof (wvn c ts ts.length) (mv c ts.length x) = kof ts x := by
  unfold kof; rw [kby_tin, kby_tin, mv_span c ts h]

theorem samB_mv (c : Nat → Bool) {ts : List Tk} {ns : List Nd} (h : vlB ns ts.length = true) : samB ts (wvn c ts ts.length) ns (ns.map (mv c ts.length)) = true := by
  have hf := fit_of h
  refine samB_yes (by simp) ?_
  intro i x y hi hx hy
  rw [List.getElem?_map, hx] at hy
  simp only [Option.map_some, Option.some.injEq] at hy
  subst hy
  unfold eqN
  rw [kof_mv c (hf i x hx)]
  simp [mv]

theorem tex_mv (c : Nat → Bool) (s : ByteArray) {ts : List Tk} {ns : List Nd} (h : vlB ns ts.length = true) {n : Nat} (hn : n < ns.length) : tex s (wvn c ts ts.length) (ns.map (mv c ts.length)) n = tex s ts ns n := by
  obtain ⟨x, hx⟩ : ∃ x, ns[n]? = some x := ⟨_, List.getElem?_eq_getElem hn⟩
  have hx2 : (ns.map (mv c ts.length))[n]? = some (mv c ts.length x) := by rw [List.getElem?_map, hx]; rfl
  rw [tex_at hx, tex_at hx2, txt_tin, txt_tin, mv_span c ts (fit_of h n x hx)]
end Go.Proofs.Yteanhljabjoabaa
