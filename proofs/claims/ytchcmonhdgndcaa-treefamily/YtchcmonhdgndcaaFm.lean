import Derived.Test.YtchcmonhdgndcaaTo
import Derived.Test.YtchcmonhdgndcaaUpP
import Derived.Test.YtchcmonhdgndcaaWk
namespace Go.Proofs.Ytchcmonhdgndcaa
open Go.ChangeShapes Go.WideShapes Go.ChangeAt Go.RowKit
set_option linter.unusedVariables false

theorem kds_cons {ns : List Nd} {e k : Nat} {y : Int} {l : List Int} (h : kds ns e k = some (y :: l)) : k < e ∧ y = k ∧ ∃ (x : Nd) (z : Nat), ns[k]? = some x ∧ x.s = (z : Int) ∧ 1 ≤ z ∧ k + z ≤ e ∧ kds ns e (k + z) = some l := by
  by_cases hk : k < e
  · cases hx : ns[k]? with
    | none => rw [kds, dif_pos hk, hx] at h; simp at h
    | some x =>
      by_cases hs : 1 ≤ x.s ∧ x.s ≤ (e : Int) - k
      · rw [kds_step hk hx hs.1 hs.2] at h
        obtain ⟨l', h', e'⟩ := Option.map_eq_some_iff.1 h
        obtain ⟨z, hz⟩ : ∃ z : Nat, x.s = (z : Int) := ⟨x.s.toNat, by omega⟩
        rw [hz, Int.toNat_natCast] at h'
        cases e'
        exact ⟨hk, rfl, x, z, rfl, hz, by omega, by omega, h'⟩
      · rw [kds_bad hk hx hs] at h; cases h
  · rw [kds_end hk] at h; cases h
theorem kds_nil {ns : List Nd} {e k : Nat} (h : kds ns e k = some []) : ¬ k < e := by
  intro hk
  cases hx : ns[k]? with
  | none => rw [kds, dif_pos hk, hx] at h; simp at h
  | some x =>
    by_cases hs : 1 ≤ x.s ∧ x.s ≤ (e : Int) - k
    · rw [kds_step hk hx hs.1 hs.2] at h
      obtain ⟨l', h', e'⟩ := Option.map_eq_some_iff.1 h
      cases e'
    · rw [kds_bad hk hx hs] at h; cases h

/-- in a valid tree each node is whole, and its kids fill it -/
theorem node_of {ns : List Nd} {c : Int} (hv : vlB ns c = true) {n : Nat} (hn : n < ns.length) : ∃ (x : Nd) (z : Nat) (l : List Int), ns[n]? = some x ∧ x.s = (z : Int) ∧ 1 ≤ z ∧ n + z ≤ ns.length ∧ whl ns n = true ∧ kds ns (n + z) (n + 1) = some l ∧ kdl ns n = l := by
  obtain ⟨hs, -⟩ := vlB_parts hv
  obtain ⟨x, hx⟩ : ∃ x, ns[n]? = some x := ⟨_, List.getElem?_eq_getElem hn⟩
  have hok : okN ns n = true := by
    unfold shB at hs
    rw [Bool.and_eq_true] at hs
    exact List.all_eq_true.1 hs.2 n (List.mem_range.2 hn)
  rw [okN_at hx, Bool.and_eq_true] at hok
  have hw : whl ns n = true := by
    cases h : whl ns n with
    | true => rfl
    | false => rw [kid, h] at hok; simp at hok
  obtain ⟨k, z, y, e1, hy, hz, h1, h2⟩ := whl_yes hw
  have ek : n = k := by omega
  subst ek
  rw [hx] at hy; cases hy
  have hkid := kid_at hx hz hw
  cases hk : kds ns (n + z) (n + 1) with
  | none => rw [hkid, hk] at hok; simp at hok
  | some l => exact ⟨x, z, l, hx, hz, h1, by omega, hw, hk, by unfold kdl; rw [hkid, hk]; rfl⟩

theorem kds_lt {ns : List Nd} {e : Nat} : ∀ (l : List Int) (k : Nat), kds ns e k = some l → ∀ y ∈ l, ∃ m : Nat, y = m ∧ k ≤ m ∧ m < e := by
  intro l
  induction l with
  | nil => intro k _ y hy; cases hy
  | cons a l ih =>
    intro k h y hy
    obtain ⟨h1, rfl, x, z, hx, hz, hz1, hze, h'⟩ := kds_cons h
    rcases List.mem_cons.1 hy with rfl | hy
    · exact ⟨k, rfl, Nat.le_refl _, h1⟩
    · obtain ⟨m, e1, e2, e3⟩ := ih _ h' y hy
      exact ⟨m, e1, by omega, e3⟩
theorem kds_cover {ns : List Nd} {e p : Nat} : ∀ (l : List Int) (k : Nat), kds ns e k = some l → k ≤ p → p < e → ∃ (c z : Nat) (x : Nd), (c : Int) ∈ l ∧ ns[c]? = some x ∧ x.s = (z : Int) ∧ 1 ≤ z ∧ k ≤ c ∧ c ≤ p ∧ p < c + z ∧ c + z ≤ e := by
  intro l
  induction l with
  | nil => intro k h h1 h2; exact absurd (show k < e by omega) (kds_nil h)
  | cons a l ih =>
    intro k h hkp hpe
    obtain ⟨h1, rfl, x, z, hx, hz, hz1, hze, h'⟩ := kds_cons h
    by_cases hp : p < k + z
    · exact ⟨k, z, x, List.mem_cons_self, hx, hz, hz1, Nat.le_refl _, hkp, hp, hze⟩
    · obtain ⟨c, zc, xc, q1, q2, q3, q4, q5, q6, q7, q8⟩ := ih _ h' (by omega) hpe
      exact ⟨c, zc, xc, List.mem_cons_of_mem _ q1, q2, q3, q4, by omega, q6, q7, q8⟩
theorem kds_apart {ns : List Nd} {e c q zc : Nat} {xc : Nd} (hc : ns[c]? = some xc) (hzc : xc.s = (zc : Int)) (hcq : c < q) : ∀ (l : List Int) (k : Nat), kds ns e k = some l → (c : Int) ∈ l → (q : Int) ∈ l → c + zc ≤ q := by
  intro l
  induction l with
  | nil => intro k _ h; cases h
  | cons a l ih =>
    intro k h m1 m2
    obtain ⟨h1, rfl, x, z, hx, hz, hz1, hze, h'⟩ := kds_cons h
    have hq : (q : Int) ∈ l := by
      rcases List.mem_cons.1 m2 with e1 | e1
      · rcases List.mem_cons.1 m1 with e2 | e2
        · omega
        · obtain ⟨m, e3, e4, -⟩ := kds_lt l _ h' _ e2
          omega
      · exact e1
    rcases List.mem_cons.1 m1 with e2 | e2
    · have : c = k := by omega
      subst this
      rw [hc] at hx; cases hx
      obtain ⟨m, e3, e4, -⟩ := kds_lt l _ h' _ hq
      omega
    · exact ih _ h' e2 hq

/-- a node within another ends within it -/
theorem inside {ns : List Nd} {cc : Int} (hv : vlB ns cc = true) {p zp : Nat} {xp : Nd} (hp : ns[p]? = some xp) (hzp : xp.s = (zp : Int)) : ∀ (d c z : Nat) (x : Nd), z ≤ d → ns[c]? = some x → x.s = (z : Int) → c ≤ p → p < c + z → p + zp ≤ c + z := by
  intro d
  induction d with
  | zero => intro c z x hd; omega
  | succ d ih =>
    intro c z x hd hx hz h1 h2
    by_cases e : c = p
    · subst e
      rw [hp] at hx; cases hx
      omega
    · obtain ⟨x', z', l, g1, g2, g3, g4, -, g5, g6⟩ := node_of hv (List.getElem?_eq_some_iff.1 hx).1
      rw [hx] at g1; cases g1
      have ez : z' = z := by omega
      subst ez
      obtain ⟨c', zc, xc, q1, q2, q3, q4, q5, q6, q7, q8⟩ := kds_cover (p := p) l _ g5 (by omega) h2
      have := ih c' zc xc (by omega) q2 q3 q6 q7
      omega
/-- no node is a kid of two -/
theorem kid_once {ns : List Nd} {cc : Int} (hv : vlB ns cc = true) {n p k : Nat} (hn : n < ns.length) (hp : p < ns.length) (hnp : n < p) (h1 : (k : Int) ∈ kdl ns n) (h2 : (k : Int) ∈ kdl ns p) : False := by
  obtain ⟨x, z, l, g1, g2, g3, g4, -, g5, g6⟩ := node_of hv hn
  obtain ⟨xp, zp, lp, f1, f2, f3, f4, -, f5, f6⟩ := node_of hv hp
  rw [g6] at h1
  rw [f6] at h2
  obtain ⟨m1, a1, a2, a3⟩ := kds_lt l _ g5 _ h1
  obtain ⟨m2, b1, b2, b3⟩ := kds_lt lp _ f5 _ h2
  obtain ⟨c, zc, xc, q1, q2, q3, q4, q5, q6, q7, q8⟩ := kds_cover (p := p) l _ g5 (by omega) (by omega)
  have h3 := inside hv f1 f2 _ c zc xc (Nat.le_refl _) q2 q3 q6 q7
  have h4 := kds_apart q2 q3 (show c < k by omega) l _ g5 q1 h1
  omega
theorem up_kid {ns : List Nd} {cc : Int} (hv : vlB ns cc = true) {n k : Nat} (hn : n < ns.length) (h : (k : Int) ∈ kdl ns n) : k < ns.length ∧ upN ns k = n := by
  obtain ⟨x, z, l, g1, g2, g3, g4, -, g5, g6⟩ := node_of hv hn
  have h' := h
  rw [g6] at h'
  obtain ⟨m, a1, a2, a3⟩ := kds_lt l _ g5 _ h'
  have hk : k < ns.length := by omega
  refine ⟨hk, ?_⟩
  have hF : ∀ j, n < j → j ≤ k → upF ns k j = n := by
    intro j
    induction j with
    | zero => intro h0; omega
    | succ j ih =>
      intro hnj hjk
      by_cases e : j = n
      · subst e
        exact upF_yes g1 (by unfold upB; rw [Bool.and_eq_true]; exact ⟨decide_eq_true (by omega), List.contains_iff_mem.2 h⟩)
      · obtain ⟨y, hy⟩ : ∃ y, ns[j]? = some y := ⟨_, List.getElem?_eq_getElem (show j < ns.length by omega)⟩
        rw [upF_no hy (by
          unfold upB
          have : (kdl ns j).contains (k : Int) = false := by
            cases hc : (kdl ns j).contains (k : Int) with
            | false => rfl
            | true => exact (kid_once hv hn (show j < ns.length by omega) (by omega) h (List.contains_iff_mem.1 hc)).elim
          rw [this, Bool.and_false])]
        exact ih (by omega) (by omega)
  unfold upN
  rw [if_pos ⟨by omega, by omega⟩, Int.toNat_natCast]
  exact hF k (by omega) (Nat.le_refl _)
theorem up_zero (ns : List Nd) : upN ns 0 = -1 := by
  unfold upN; split <;> rfl

/-- how many kids a node has -/
def kc (ns : List Nd) (n : Nat) : Nat := (kdl ns n).length
theorem kc_chain {ns : List Nd} {e k0 : Nat} (hp : ∀ (m z : Nat) (x : Nd), k0 ≤ m → ns[m]? = some x → x.s = (z : Int) → 1 ≤ z → m + z ≤ e → sm (kc ns) m z + 1 = z) : ∀ (l : List Int) (k : Nat), k0 ≤ k → k ≤ e → kds ns e k = some l → sm (kc ns) k (e - k) + l.length = e - k := by
  intro l
  induction l with
  | nil =>
    intro k _ hke h
    have := kds_nil h
    rw [show e - k = 0 by omega]; rfl
  | cons a l ih =>
    intro k hk0 hke h
    obtain ⟨h1, rfl, x, z, hx, hz, hz1, hze, h'⟩ := kds_cons h
    have h2 := ih (k + z) (by omega) hze h'
    have h3 := hp k z x hk0 hx hz hz1 hze
    rw [show e - k = z + (e - (k + z)) by omega, sm_add, List.length_cons]
    omega
theorem kc_sum {ns : List Nd} {cc : Int} (hv : vlB ns cc = true) : ∀ (d n z : Nat) (x : Nd), z ≤ d → ns[n]? = some x → x.s = (z : Int) → sm (kc ns) n z + 1 = z := by
  intro d
  induction d with
  | zero =>
    intro n z x hd hx hz
    obtain ⟨x', z', l, g1, g2, g3, g4, -, g5, g6⟩ := node_of hv (List.getElem?_eq_some_iff.1 hx).1
    rw [hx] at g1; cases g1
    omega
  | succ d ih =>
    intro n z x hd hx hz
    obtain ⟨x', z', l, g1, g2, g3, g4, -, g5, g6⟩ := node_of hv (List.getElem?_eq_some_iff.1 hx).1
    rw [hx] at g1; cases g1
    have ez : z' = z := by omega
    subst ez
    have h := kc_chain (ns := ns) (e := n + z') (k0 := n + 1) (fun m y xm hm hxm hy hy1 hle => ih m y xm (by omega) hxm hy) l (n + 1) (Nat.le_refl _) (by omega) g5
    rw [show n + z' - (n + 1) = z' - 1 by omega] at h
    rw [show z' = (z' - 1) + 1 by omega, sm]
    have : kc ns n = l.length := by unfold kc; rw [g6]
    omega
/-- all nodes but the first are kids, and of one node -/
theorem kc_all {ns : List Nd} {cc : Int} (hv : vlB ns cc = true) : 1 ≤ ns.length ∧ sm (kc ns) 0 ns.length + 1 = ns.length := by
  obtain ⟨hs, -⟩ := vlB_parts hv
  unfold shB at hs
  rw [Bool.and_eq_true] at hs
  cases hx : ns[0]? with
  | none => rw [hx] at hs; simp at hs
  | some x =>
    rw [hx] at hs
    have hz : x.s = (ns.length : Int) := by simpa using hs.1
    have h0 := (List.getElem?_eq_some_iff.1 hx).1
    exact ⟨by omega, kc_sum hv _ 0 ns.length x (Nat.le_refl _) hx hz⟩

/-- the walk of all within a node -/
theorem wkl_all (ns : List Nd) (e : Nat) : ∀ (d k : Nat), e - k ≤ d → (wkl ns (fun _ => false) e k).length = e - k ∧ ∀ i, i < e - k → (wkl ns (fun _ => false) e k)[i]? = some ((k + i : Nat) : Int) := by
  intro d
  induction d with
  | zero => intro k hd; rw [wkl_end (by omega)]; exact ⟨by simp; omega, fun i hi => by omega⟩
  | succ d ih =>
    intro k hd
    by_cases hk : k < e
    · rw [wkl_one hk rfl]
      obtain ⟨h1, h2⟩ := ih (k + 1) (by omega)
      refine ⟨by rw [List.length_cons, h1]; omega, fun i hi => ?_⟩
      cases i with
      | zero => simp
      | succ i => rw [List.getElem?_cons_succ, h2 i (by omega)]; congr 2; omega
    · rw [wkl_end hk]; exact ⟨by simp; omega, fun i hi => by omega⟩
theorem wkl_ge (ns : List Nd) (skp : Nat → Bool) (e : Nat) : ∀ (d k : Nat), e - k ≤ d → ∀ y ∈ wkl ns skp e k, (k : Int) ≤ y := by
  intro d
  induction d with
  | zero => intro k hd y hy; rw [wkl_end (by omega)] at hy; cases hy
  | succ d ih =>
    intro k hd y hy
    by_cases hk : k < e
    · cases hs : skp k with
      | false =>
        rw [wkl_one hk hs] at hy
        rcases List.mem_cons.1 hy with rfl | hy
        · omega
        · have := ih (k + 1) (by omega) y hy; omega
      | true =>
        cases hx : ns[k]? with
        | none => rw [wkl, dif_pos hk, hs, hx] at hy; simp at hy; omega
        | some x =>
          by_cases h1 : 1 ≤ x.s ∧ x.s ≤ (e : Int) - k
          · rw [wkl_skip hk hs hx h1.1 h1.2] at hy
            rcases List.mem_cons.1 hy with rfl | hy
            · omega
            · have := ih (k + x.s.toNat) (by omega) y hy; omega
          · rw [wkl_bad hk hs hx h1] at hy; simp at hy; omega
    · rw [wkl_end hk] at hy; cases hy
/-- what the last loop knows: all that the walk has given before n, and the walk from where it goes on -/
def Hd (ns : List Nd) (skp : Nat → Bool) (n h : Nat) : Prop := h ≤ ns.length ∧ ∃ pre, wkl ns skp ns.length 0 = pre ++ wkl ns skp ns.length (max n h) ∧ ∀ y ∈ pre, y < (n : Int)
theorem Hd.start (ns : List Nd) (skp : Nat → Bool) : Hd ns skp 0 0 := ⟨Nat.zero_le _, [], rfl, fun y h => by cases h⟩
theorem Hd.hid {ns : List Nd} {skp : Nat → Bool} {n h : Nat} (H : Hd ns skp n h) (hn : n < h) : (wkl ns skp ns.length 0).count (n : Int) = 0 ∧ Hd ns skp (n + 1) h := by
  obtain ⟨h0, pre, h1, h2⟩ := H
  refine ⟨?_, h0, pre, by rw [h1]; congr 2; omega, fun y hy => by have := h2 y hy; omega⟩
  rw [List.count_eq_zero, h1, List.mem_append]
  rintro (hm | hm)
  · have := h2 _ hm; omega
  · have := wkl_ge ns skp ns.length _ _ (Nat.le_refl _) _ hm; omega
theorem Hd.one {ns : List Nd} {skp : Nat → Bool} {n h : Nat} (H : Hd ns skp n h) (hn : h ≤ n) (hl : n < ns.length) (hs : skp n = false) : (wkl ns skp ns.length 0).count (n : Int) = 1 ∧ Hd ns skp (n + 1) h := by
  obtain ⟨h0, pre, h1, h2⟩ := H
  rw [Nat.max_eq_left hn, wkl_one hl hs] at h1
  refine ⟨?_, h0, pre ++ [(n : Int)], by rw [h1, Nat.max_eq_left (by omega)]; simp, fun y hy => ?_⟩
  · rw [h1, List.count_append, List.count_cons_self, List.count_eq_zero.2 (fun hm => by have := h2 _ hm; omega), List.count_eq_zero.2 (fun hm => by have := wkl_ge ns skp ns.length _ _ (Nat.le_refl _) _ hm; omega)]
  · rcases List.mem_append.1 hy with hy | hy
    · have := h2 y hy; omega
    · simp at hy; omega
theorem Hd.skip {ns : List Nd} {skp : Nat → Bool} {n h z : Nat} {x : Nd} (H : Hd ns skp n h) (hn : h ≤ n) (hx : ns[n]? = some x) (hz : x.s = (z : Int)) (hz1 : 1 ≤ z) (hz2 : n + z ≤ ns.length) (hs : skp n = true) : (wkl ns skp ns.length 0).count (n : Int) = 1 ∧ Hd ns skp (n + 1) (n + z) := by
  obtain ⟨h0, pre, h1, h2⟩ := H
  have hl := (List.getElem?_eq_some_iff.1 hx).1
  rw [Nat.max_eq_left hn, wkl_skip hl hs hx (by omega) (by omega), hz, Int.toNat_natCast] at h1
  refine ⟨?_, hz2, pre ++ [(n : Int)], by rw [h1, Nat.max_eq_right (by omega)]; simp, fun y hy => ?_⟩
  · rw [h1, List.count_append, List.count_cons_self, List.count_eq_zero.2 (fun hm => by have := h2 _ hm; omega), List.count_eq_zero.2 (fun hm => by have := wkl_ge ns skp ns.length _ _ (Nat.le_refl _) _ hm; omega)]
  · rcases List.mem_append.1 hy with hy | hy
    · have := h2 y hy; omega
    · simp at hy; omega
end Go.Proofs.Ytchcmonhdgndcaa
