import Derived.Test.YtijcfgeafgddkaaDoorShq
import Derived.Test.YtijcfgeafgddkaaDoorSa2
namespace Go.Proofs.YtijcfgeafgddkaaDoor
set_option linter.unusedVariables false

theorem samB_iff {ts us : List Tk} {ns ms : List Nd} : samB ts us ns ms = true ↔ ns.length = ms.length ∧ ∀ (i : Nat) x y, ns[i]? = some x → ms[i]? = some y → x.k = y.k ∧ x.s = y.s ∧ kof ts x = kof us y := by
  constructor
  · intro h
    have hl : ns.length = ms.length := by
      unfold samB at h
      rw [Bool.and_eq_true] at h
      exact eq_of_beq h.1
    refine ⟨hl, fun i x y hx hy => ?_⟩
    cases he : eqN ts us x y with
    | false => rw [samB_no hx hy he] at h; cases h
    | true =>
      unfold eqN at he
      rw [Bool.and_eq_true, Bool.and_eq_true] at he
      exact ⟨eq_of_beq he.1.1, eq_of_beq he.1.2, eq_of_beq he.2⟩
  · rintro ⟨hl, h⟩
    refine samB_yes hl (fun i x y _ hx hy => ?_)
    obtain ⟨h1, h2, h3⟩ := h i x y hx hy
    unfold eqN
    rw [h1, h2, h3]
    simp
theorem samB_refl (ts : List Tk) (ns : List Nd) : samB ts ts ns ns = true :=
  samB_iff.2 ⟨rfl, fun i x y hx hy => by rw [hx] at hy; cases hy; exact ⟨rfl, rfl, rfl⟩⟩
theorem samB_turn {ts us : List Tk} {ns ms : List Nd} (h : samB ts us ns ms = true) : samB us ts ms ns = true := by
  obtain ⟨h1, h2⟩ := samB_iff.1 h
  refine samB_iff.2 ⟨h1.symm, fun i x y hx hy => ?_⟩
  obtain ⟨g1, g2, g3⟩ := h2 i y x hy hx
  exact ⟨g1.symm, g2.symm, g3.symm⟩
theorem samB_symm (ts us : List Tk) (ns ms : List Nd) : samB us ts ms ns = samB ts us ns ms := by
  rw [Bool.eq_iff_iff]
  exact ⟨samB_turn, samB_turn⟩
theorem samB_trans {ts us vs : List Tk} {ns ms os : List Nd} (h : samB ts us ns ms = true) (h' : samB us vs ms os = true) : samB ts vs ns os = true := by
  obtain ⟨h1, h2⟩ := samB_iff.1 h
  obtain ⟨k1, k2⟩ := samB_iff.1 h'
  refine samB_iff.2 ⟨h1.trans k1, fun i x z hx hz => ?_⟩
  have hi : i < ms.length := by rw [← h1]; exact (List.getElem?_eq_some_iff.1 hx).1
  obtain ⟨g1, g2, g3⟩ := h2 i x ms[i] hx (List.getElem?_eq_getElem hi)
  obtain ⟨q1, q2, q3⟩ := k2 i ms[i] z (List.getElem?_eq_getElem hi) hz
  exact ⟨g1.trans q1, g2.trans q2, g3.trans q3⟩
theorem samB_stp {ts us : List Tk} {ns ms : List Nd} (h : samB ts us ns ms = true) : stp ns = stp ms := by
  obtain ⟨h1, h2⟩ := samB_iff.1 h
  apply List.ext_getElem?
  intro i
  unfold stp
  rw [List.getElem?_map, List.getElem?_map]
  by_cases hi : i < ns.length
  · have hj : i < ms.length := by omega
    obtain ⟨g1, g2, -⟩ := h2 i ns[i] ms[i] (List.getElem?_eq_getElem hi) (List.getElem?_eq_getElem hj)
    rw [List.getElem?_eq_getElem hi, List.getElem?_eq_getElem hj]
    simp [g1, g2]
  · rw [List.getElem?_eq_none (by omega), List.getElem?_eq_none (by omega)]
theorem stp_len (ns : List Nd) : (stp ns).length = ns.length := by unfold stp; rw [List.length_map]
theorem stp_at (ns : List Nd) (i : Nat) : (stp ns)[i]? = ns[i]?.map fun x => ⟨x.k, 0, 0, x.s⟩ := by unfold stp; rw [List.getElem?_map]
theorem kds_stp (ns : List Nd) (e : Nat) : ∀ (d k : Nat), e - k ≤ d → kds (stp ns) e k = kds ns e k
  | 0, k, h => by rw [kds_end (by omega), kds_end (by omega)]
  | d + 1, k, h => by
    by_cases hk : k < e
    · cases hx : ns[k]? with
      | none =>
        have hy : (stp ns)[k]? = none := by rw [stp_at, hx]; rfl
        rw [kds, dif_pos hk, hy]
        conv => rhs; rw [kds, dif_pos hk, hx]
      | some x =>
        have hy : (stp ns)[k]? = some ⟨x.k, 0, 0, x.s⟩ := by rw [stp_at, hx]; rfl
        by_cases hs : 1 ≤ x.s ∧ x.s ≤ (e : Int) - k
        · rw [kds_step hk hx hs.1 hs.2, kds_step hk hy hs.1 hs.2]
          show Option.map _ (kds (stp ns) e (k + x.s.toNat)) = _
          rw [kds_stp ns e d (k + x.s.toNat) (by omega)]
        · rw [kds_bad hk hx hs, kds_bad hk hy hs]
    · rw [kds_end hk, kds_end hk]
theorem okN_stp (ns : List Nd) (n : Nat) : okN (stp ns) n = okN ns n := by
  cases hx : ns[n]? with
  | none =>
    have hy : (stp ns)[n]? = none := by rw [stp_at, hx]; rfl
    unfold okN
    rw [hx, hy]
  | some x =>
    have hy : (stp ns)[n]? = some ⟨x.k, 0, 0, x.s⟩ := by rw [stp_at, hx]; rfl
    rw [okN_at hx, okN_at hy]
    congr 2
    unfold kid
    rw [whl_at hx, whl_at hy, stp_len, Int.toNat_natCast, hx, hy]
    simp only
    rw [kds_stp ns _ _ _ (Nat.le_refl _)]
theorem shB_stp (ns : List Nd) : shB (stp ns) = shB ns := by
  unfold shB
  rw [stp_len, stp_at, funext (okN_stp ns)]
  cases ns[0]? with
  | none => rfl
  | some x => rfl
theorem nd_stp (ns : List Nd) (n : Nat) : (nd (stp ns) n).k = (nd ns n).k ∧ (nd (stp ns) n).s = (nd ns n).s := by
  unfold nd
  rw [List.getD, List.getD, stp_at]
  cases ns[n]? with
  | none => exact ⟨rfl, rfl⟩
  | some x => exact ⟨rfl, rfl⟩
theorem ck_stp (nm : Nat → List UInt8) (ns : List Nd) : ∀ n, ck nm (stp ns) n = ck nm ns n
  | 0 => rfl
  | n + 1 => by
    have h1 : ∀ s, ck1 (stp ns) n s = ck1 ns n s := fun s => by unfold ck1; rw [(nd_stp ns (n - 1)).2]
    have h2 : ∀ s, ck2 nm (nd (stp ns) n) n s = ck2 nm (nd ns n) n s := fun s => by unfold ck2; rw [(nd_stp ns n).1, (nd_stp ns n).2]
    rw [ck, ck, ck_stp nm ns n, h1, h2]
theorem skB_stp (ns : List Nd) : skB nams (stp ns) = skB nams ns := by
  unfold skB cz
  rw [shB_stp, stp_len, ck_stp]
theorem skB_same {ts us : List Tk} {ns ms : List Nd} (h : samB ts us ns ms = true) : skB nams ns = skB nams ms := by
  rw [← skB_stp ns, ← skB_stp ms, samB_stp h]
theorem tx_len (nm : Nat → List UInt8) (ns : List Nd) : ∀ (c n : Nat) (st : List Nat), (∀ j, n ≤ j → j < n + c → nm (nd ns j).k.toNat ≠ []) → c ≤ (tx nm ns c n st).length
  | 0, _, _, _ => Nat.zero_le _
  | c + 1, n, st, h => by
    have h0 := List.length_pos_iff.2 (h n (Nat.le_refl _) (by omega))
    rw [tx]
    split
    · have := tx_len nm ns c (n + 1) ((n + (nd ns n).s.toNat) :: st) (fun j h1 h2 => h j (by omega) (by omega))
      rw [List.length_append, List.length_cons]
      omega
    · have := tx_len nm ns c (n + 1) (pops (n + 1) st).2 (fun j h1 h2 => h j (by omega) (by omega))
      rw [List.length_append, List.length_append, List.length_append]
      omega
theorem cz_len {ns : List Nd} (h : shB ns = true) (hp : ∀ x ∈ ns, 0 ≤ x.k) : ns.length ≤ (cz (nmF nams) ns).length ∧ 0 < ns.length := by
  obtain ⟨⟨x, hx, -⟩, -⟩ := shB_parts h
  refine ⟨?_, (List.getElem?_eq_some_iff.1 hx).1⟩
  rw [cz_tx (nmF nams) h]
  refine tx_len _ ns _ 0 [] (fun j _ hj => ?_)
  have hx : ns[j]? = some ns[j] := List.getElem?_eq_getElem (by omega)
  have h1 := nd_kind h hx
  have h2 := hp _ (List.mem_of_getElem? hx)
  unfold nmF
  refine nams_some _ ?_
  rw [nd_at hx]
  show _ < 58
  omega
/-- what comes of Draw after Sketch: nothing of nothing; else the kinds and sizes -/
theorem dr_nil (m : Nat) : dr nams [] (m + 1) 0 [] [] = ([], 40, 0) := by
  have h : naF nams ([] : List UInt8) 58 = (0, 0, false) := by decide +kernel
  rw [dr_no (kd := 0) (ln := 0) (by rw [List.drop_zero]; exact h)]
theorem dr_sk {ns : List Nd} (hp : ∀ x ∈ ns, 0 ≤ x.k) : (shB ns = false ∧ skB nams ns = ⟨#[]⟩ ∧ dr nams (skB nams ns).data.toList ((skB nams ns).size + 1) 0 [] [] = ([], 40, 0)) ∨
    (shB ns = true ∧ 0 < (skB nams ns).size ∧ dr nams (skB nams ns).data.toList ((skB nams ns).size + 1) 0 [] [] = (stp ns, 0, 0)) := by
  cases h : shB ns with
  | false =>
    left
    have e : skB nams ns = ⟨#[]⟩ := by unfold skB; rw [h]; rfl
    refine ⟨rfl, e, ?_⟩
    rw [e]
    exact dr_nil _
  | true =>
    right
    have e : skB nams ns = ⟨(cz (nmF nams) ns).toArray⟩ := by unfold skB; rw [h]; rfl
    have hl := cz_len h hp
    have hz : (skB nams ns).size = (cz (nmF nams) ns).length := by rw [e]; simp [ByteArray.size]
    refine ⟨rfl, by omega, ?_⟩
    rw [hz, e]
    refine draw_sketch h hp _ ns.length 0 [] [] _ 0 (Nat.zero_add _) hl.2 ⟨rfl, (fun j x hj => by omega), (fun t ht => by cases ht), List.nodup_nil⟩ rfl ?_ (by omega)
    rw [List.drop_zero, List.map_nil, ← cz_tx (nmF nams) h]
end Go.Proofs.YtijcfgeafgddkaaDoor
