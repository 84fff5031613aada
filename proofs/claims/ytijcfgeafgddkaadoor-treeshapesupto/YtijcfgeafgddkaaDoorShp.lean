import Derived.Test.YtijcfgeafgddkaaDoorSk2
import Derived.Test.YtijcfgeafgddkaaDoorDw8
import Derived.Test.YtijcfgeafgddkaaDoorNam
namespace Go.Proofs.YtijcfgeafgddkaaDoor
set_option linter.unusedVariables false

/-- no name holds a blank or a bracket -/
theorem nams_sep : ∀ m ∈ nams, ∀ b ∈ m, ¬ (b = 32 ∨ b = 40 ∨ b = 41) := by decide +kernel
theorem nams_no {k : Nat} {b : UInt8} (h : b ∈ nams.getD k []) : ¬ (b = 32 ∨ b = 40 ∨ b = 41) := by
  by_cases hk : k < nams.length
  · rw [nams_get hk] at h
    exact nams_sep _ (List.getElem_mem hk) b h
  · rw [List.getD, List.getElem?_eq_none (by omega)] at h
    simp at h
theorem lcp_self : ∀ (m r : List UInt8), lcp m (m ++ r) = m.length
  | [], r => lcp_nil _
  | a :: m, r => by rw [List.cons_append, lcp_yes, lcp_self m r]; rfl
theorem lcp_cap : ∀ (x m r : List UInt8), (∀ b r', r = b :: r' → b ∉ x) → lcp x (m ++ r) ≤ m.length
  | [], m, r, _ => by rw [lcp_nil]; exact Nat.zero_le _
  | a :: x, [], r, h => by
    cases r with
    | nil => rw [List.append_nil, lcp_end]; exact Nat.zero_le _
    | cons b r' =>
      have h1 := h b r' rfl
      rw [List.nil_append, lcp_no x r' (fun e => h1 (by rw [e]; exact List.mem_cons_self))]
      exact Nat.zero_le _
  | a :: x, b :: m, r, h => by
    by_cases e : a = b
    · subst e
      rw [List.cons_append, lcp_yes, List.length_cons]
      have := lcp_cap x m r (fun b r' hb hm => h b r' hb (List.mem_cons_of_mem _ hm))
      omega
    · rw [List.cons_append, lcp_no x (m ++ r) e]; exact Nat.zero_le _
/-- a name is found where no letter follows -/
theorem na_name {k : Nat} (hk : k < 58) {r : List UInt8} (hr : ∀ b r', r = b :: r' → b = 32 ∨ b = 40 ∨ b = 41) : naF nams (nams.getD k [] ++ r) 58 = (k, (nams.getD k []).length, true) := by
  obtain ⟨kd, ln, ok, e⟩ : ∃ a b c, naF nams (nams.getD k [] ++ r) 58 = (a, b, c) := ⟨_, _, _, rfl⟩
  obtain ⟨h, hl⟩ := naF_inv nams (nams.getD k [] ++ r) nams_some 58 (Nat.le_refl _)
  rw [e] at h ⊢
  have h1 : (nams.getD k []).length ≤ ln := by
    have := h.le k hk
    rw [lcp_self] at this
    exact this
  have h2 : ln ≤ (nams.getD k []).length := by
    rcases h.at' with h0 | ⟨i, hi, he⟩
    · simp only at h0; omega
    · simp only at he
      rw [← he]
      exact lcp_cap _ _ _ (fun b r' hb hm => nams_no hm (hr b r' hb))
  have h3 : ln = (nams.getD k []).length := by omega
  have ht : (nams.getD k [] ++ r).take ln = nams.getD k [] := by rw [h3, List.take_left]
  cases ok with
  | false => exact absurd ht.symm (h.no rfl k hk)
  | true =>
    obtain ⟨h4, h5⟩ := h.yes rfl
    simp only at h4 h5
    rw [ht] at h5
    rw [h3, nams_once kd k h4 hk h5]

/-- what is written from node n on: c nodes, with these ends open -/
def tx (nm : Nat → List UInt8) (ns : List Nd) : Nat → Nat → List Nat → List UInt8
  | 0, _, _ => []
  | c + 1, n, st => if 1 < (nd ns n).s then nm (nd ns n).k.toNat ++ (40 :: tx nm ns c (n + 1) ((n + (nd ns n).s.toNat) :: st))
    else nm (nd ns n).k.toNat ++ (List.replicate (pops (n + 1) st).1 41 ++ ((if (pops (n + 1) st).2 = [] then [] else [32]) ++ tx nm ns c (n + 1) (pops (n + 1) st).2))
theorem rk_tx (nm : Nat → List UInt8) (ns : List Nd) : ∀ (c n : Nat), (rk nm ns (n + c)).1 = (rk nm ns n).1 ++ tx nm ns c n (rk nm ns n).2
  | 0, n => by rw [tx, List.append_nil]; rfl
  | c + 1, n => by
    rw [show n + (c + 1) = n + 1 + c by omega, rk_tx nm ns c (n + 1), rk, tx]
    by_cases h : 1 < (nd ns n).s
    · rw [if_pos h, rk2, if_pos h]; simp
    · rw [if_neg h, rk2, if_neg h]; simp
theorem cz_tx (nm : Nat → List UInt8) {ns : List Nd} (h : shB ns = true) : cz nm ns = tx nm ns ns.length 0 [] := by
  rw [← sketch_one nm h]
  have := rk_tx nm ns ns.length 0
  rw [Nat.zero_add, rk] at this
  simpa using this

/-- the end of a node -/
def en (ns : List Nd) (t : Nat) : Nat := t + (nd ns t).s.toNat
/-- what Draw has made of the first n nodes -/
structure Qs (ns l : List Nd) (op : List Nat) (n : Nat) : Prop where
  len : l.length = n
  val : ∀ j x, j < n → ns[j]? = some x → l[j]? = some ⟨x.k, 0, 0, if j ∈ op then 1 else x.s⟩
  lt : ∀ t ∈ op, t < n ∧ t < ns.length ∧ 1 ≤ (nd ns t).s
  nodup : op.Nodup
theorem drop_head {s : List UInt8} {i : Nat} {b : UInt8} {r : List UInt8} (h : s.drop i = b :: r) : s[i]? = some b ∧ s.drop (i + 1) = r ∧ i < s.length := by
  have h1 : (s.drop i)[0]? = some b := by rw [h]; rfl
  rw [List.getElem?_drop, Nat.add_zero] at h1
  refine ⟨h1, ?_, (List.getElem?_eq_some_iff.1 h1).1⟩
  rw [← List.drop_drop, h]; rfl
theorem drop_more {s x r : List UInt8} {i : Nat} (h : s.drop i = x ++ r) : s.drop (i + x.length) = r := by
  rw [← List.drop_drop, h, List.drop_left]
theorem drop_none {s : List UInt8} {i : Nat} (h : s.drop i = []) : s[i]? = none := by
  rw [List.drop_eq_nil_iff] at h
  exact List.getElem?_eq_none h
theorem cls_sim {ns : List Nd} {s : List UInt8} {n : Nat} : ∀ (op : List Nat) (i : Nat) (l : List Nd) (z : List UInt8), Qs ns l op n → s.drop i = List.replicate (pops n (op.map (en ns))).1 41 ++ z → (∀ b z', z = b :: z' → b ≠ 41) →
    ∃ l' op', cls s op i l = (i + (pops n (op.map (en ns))).1, l', op') ∧ Qs ns l' op' n ∧ op'.map (en ns) = (pops n (op.map (en ns))).2
  | [], i, l, z, hQ, hd, hz => ⟨l, [], by rw [cls_nil]; rfl, hQ, rfl⟩
  | t :: r, i, l, z, hQ, hd, hz => by
    rw [List.map_cons] at hd ⊢
    by_cases e : en ns t = n
    · rw [e, pops_yes] at hd ⊢
      simp only [List.replicate_succ, List.cons_append] at hd
      obtain ⟨h1, h2, h3⟩ := drop_head hd
      rw [cls_yes t r l h1]
      obtain ⟨htn, htl, hts⟩ := hQ.lt t List.mem_cons_self
      have hnd := List.nodup_cons.1 hQ.nodup
      have hlen : (szN l t).length = n := by rw [szN_len]; exact hQ.len
      have hQ' : Qs ns (szN l t) r n := by
        refine ⟨hlen, fun j x hj hx => ?_, fun u hu => hQ.lt u (List.mem_cons_of_mem _ hu), hnd.2⟩
        have hv := hQ.val j x hj hx
        unfold szN
        by_cases ej : j = t
        · subst ej
          rw [if_neg hnd.1, List.getElem?_set_self (by rw [hQ.len]; exact hj), List.getD, hv, Option.getD_some, hQ.len]
          have h5 : nd ns j = x := nd_at hx
          unfold en at e
          rw [h5] at e hts
          simp only [Option.some.injEq, Nd.mk.injEq, true_and]
          omega
        · rw [List.getElem?_set_ne (fun h => ej h.symm), hv]
          simp [ej]
      obtain ⟨l', op', g1, g2, g3⟩ := cls_sim r (i + 1) (szN l t) z hQ' h2 hz
      refine ⟨l', op', ?_, g2, g3⟩
      rw [g1]
      simp only [Prod.mk.injEq, and_true]
      omega
    · rw [pops_no _ e] at hd ⊢
      rw [cls_no t r l (fun h => ?_)]
      · exact ⟨l, t :: r, rfl, hQ, rfl⟩
      · simp only [List.replicate_zero, List.nil_append] at hd
        cases z with
        | nil => rw [drop_none hd] at h; cases h
        | cons b z' =>
          rw [(drop_head hd).1] at h
          exact hz b z' rfl (Option.some.inj h)
/-- kinds and sizes alone -/
def stp (ns : List Nd) : List Nd := ns.map fun x => ⟨x.k, 0, 0, x.s⟩
theorem Qs.done {ns l : List Nd} (h : Qs ns l [] ns.length) : l = stp ns := by
  apply List.ext_getElem?
  intro j
  unfold stp
  rw [List.getElem?_map]
  by_cases hj : j < ns.length
  · rw [List.getElem?_eq_getElem hj, h.val j ns[j] hj (List.getElem?_eq_getElem hj)]
    simp
  · rw [List.getElem?_eq_none (by rw [h.len]; omega), List.getElem?_eq_none (by omega)]; rfl
/-- what Sketch writes, Draw reads -/
theorem draw_sketch {ns : List Nd} (h : shB ns = true) (hp : ∀ x ∈ ns, 0 ≤ x.k) (s : List UInt8) : ∀ (c n : Nat) (l : List Nd) (op : List Nat) (m i : Nat), n + c = ns.length → 0 < c → Qs ns l op n → (rk (nmF nams) ns n).2 = op.map (en ns) → s.drop i = tx (nmF nams) ns c n (op.map (en ns)) → c ≤ m → dr nams s m i l op = (stp ns, 0, 0)
  | 0, n, l, op, m, i, _, h0, _, _, _, _ => by omega
  | c + 1, n, l, op, 0, i, _, _, _, _, _, hm => by omega
  | c + 1, n, l, op, m + 1, i, hn, _, hQ, hst, hd, hm => by
    have hx : ns[n]? = some ns[n] := List.getElem?_eq_getElem (by omega)
    obtain ⟨x, hx⟩ : ∃ x, ns[n]? = some x := ⟨_, hx⟩
    have hxk := nd_kind h hx
    have hxp := hp x (List.mem_of_getElem? hx)
    have hxs := size_pos h hx
    have hnx := nd_at hx
    obtain ⟨k, hk⟩ : ∃ k : Nat, x.k = (k : Int) := ⟨x.k.toNat, by omega⟩
    have hk58 : k < 58 := by omega
    have hkn : nmF nams x.k.toNat = nams.getD k [] := by unfold nmF; rw [hk, Int.toNat_natCast]
    have hrk : rk (nmF nams) ns (n + 1) = rk2 (nmF nams) x n (rk (nmF nams) ns n) := by rw [rk, hnx]
    rw [tx, hnx, hkn] at hd
    by_cases h1 : 1 < x.s
    · rw [if_pos h1] at hd
      have hna := na_name hk58 (r := 40 :: tx (nmF nams) ns c (n + 1) ((n + x.s.toNat) :: op.map (en ns))) (fun b r' e => by right; left; exact (List.cons.inj e).1.symm)
      rw [← hd] at hna
      have hd2 := drop_more hd
      obtain ⟨g1, g2, g3⟩ := drop_head hd2
      rw [dr_open hna g1, hQ.len]
      have hen : en ns n = n + x.s.toNat := by unfold en; rw [hnx]
      refine draw_sketch h hp s c (n + 1) (l ++ [mkN k]) (n :: op) m _ (by omega) (by omega) ⟨by rw [List.length_append, hQ.len]; rfl, fun j y hj hy => ?_, fun t ht => ?_, List.nodup_cons.2 ⟨fun hh => by have := (hQ.lt n hh).1; omega, hQ.nodup⟩⟩ ?_ ?_ (by omega)
      · by_cases ej : j = n
        · subst ej
          have : y = x := by rw [hx] at hy; exact (Option.some.inj hy).symm
          subst this
          rw [List.getElem?_append_right (by rw [hQ.len]; exact Nat.le_refl _), hQ.len, Nat.sub_self]
          simp [mkN, hk]
        · rw [List.getElem?_append_left (by rw [hQ.len]; omega), hQ.val j y (by omega) hy]
          simp [ej]
      · rcases List.mem_cons.1 ht with rfl | ht
        · exact ⟨by omega, by omega, by rw [hnx]; omega⟩
        · have := hQ.lt t ht
          exact ⟨by omega, this.2.1, this.2.2⟩
      · rw [hrk, rk2, if_pos h1, hst, List.map_cons, hen]
      · rw [List.map_cons, hen]; exact g2
    · rw [if_neg h1] at hd
      obtain ⟨C, R, hCR⟩ : ∃ C R, pops (n + 1) (op.map (en ns)) = (C, R) := ⟨_, _, rfl⟩
      rw [hCR] at hd
      simp only at hd
      have hR : (rk (nmF nams) ns (n + 1)).2 = R := by rw [hrk, rk2, if_neg h1, hst, hCR]
      obtain ⟨hch, hgt⟩ := rk_ch (nmF nams) h n (by omega)
      rw [hR] at hch hgt
      have hRN : R = [] → n + 1 = ns.length := fun e => by rw [e] at hch; exact hch
      have hRM : R ≠ [] → n + 1 < ns.length := fun e => by
        cases R with
        | nil => exact absurd rfl e
        | cons t r =>
          have := hgt t r rfl
          have := Ch.le hch.2.2
          omega
      obtain ⟨Z, hZ⟩ : ∃ Z, (if R = [] then [] else [32]) ++ tx (nmF nams) ns c (n + 1) R = Z := ⟨_, rfl⟩
      rw [hZ] at hd
      have hZh : ∀ b z', Z = b :: z' → b = 32 := fun b z' e => by
        by_cases hr : R = []
        · have := hRN hr
          have hc0 : c = 0 := by omega
          rw [← hZ, if_pos hr, hc0, tx] at e
          cases e
        · rw [← hZ, if_neg hr] at e
          exact (List.cons.inj e).1.symm
      have hna := na_name hk58 (r := List.replicate C 41 ++ Z) (fun b r' e => by
        cases C with
        | zero =>
          rw [List.replicate_zero, List.nil_append] at e
          left; exact hZh b r' e
        | succ C => right; right; exact (List.cons.inj e).1.symm)
      rw [← hd] at hna
      have hd2 := drop_more hd
      have hQ1 : Qs ns (l ++ [mkN k]) op (n + 1) := by
        refine ⟨by rw [List.length_append, hQ.len]; rfl, fun j y hj hy => ?_, fun t ht => ⟨by have := (hQ.lt t ht).1; omega, (hQ.lt t ht).2⟩, hQ.nodup⟩
        by_cases ej : j = n
        · subst ej
          have : y = x := by rw [hx] at hy; exact (Option.some.inj hy).symm
          subst this
          rw [List.getElem?_append_right (by rw [hQ.len]; exact Nat.le_refl _), hQ.len, Nat.sub_self, if_neg (fun hh => by have := (hQ.lt j hh).1; omega)]
          simp only [mkN, List.getElem?_cons_zero, Option.some.injEq, Nd.mk.injEq, true_and]
          exact ⟨hk.symm, by omega⟩
        · rw [List.getElem?_append_left (by rw [hQ.len]; omega), hQ.val j y (by omega) hy]
      have hsim := cls_sim (s := s) (n := n + 1) op (i + (nams.getD k []).length) (l ++ [mkN k]) Z hQ1 (by rw [hCR]; exact hd2) (fun b z' e => by rw [hZh b z' e]; decide)
      rw [hCR] at hsim
      simp only at hsim
      obtain ⟨l', op', g1, g2, g3⟩ := hsim
      have hno : ¬ s[i + (nams.getD k []).length]? = some 40 := fun hh => by
        cases C with
        | zero =>
          rw [List.replicate_zero, List.nil_append] at hd2
          cases Z with
          | nil => rw [drop_none hd2] at hh; cases hh
          | cons b z' =>
            rw [(drop_head hd2).1, hZh b z' rfl] at hh
            exact absurd (Option.some.inj hh) (by decide)
        | succ C =>
          rw [List.replicate_succ, List.cons_append] at hd2
          rw [(drop_head hd2).1] at hh
          exact absurd (Option.some.inj hh) (by decide)
      have hd3 : s.drop (i + (nams.getD k []).length + C) = Z := by
        have := drop_more hd2
        rw [List.length_replicate] at this
        exact this
      rw [dr_cls hna hno g1]
      have hop : op' = [] ↔ R = [] := by rw [← g3, List.map_eq_nil_iff]
      by_cases hr : R = []
      · have hN := hRN hr
        have hc0 : c = 0 := by omega
        rw [if_pos (hop.2 hr)]
        rw [← hZ, if_pos hr, hc0, tx] at hd3
        rw [if_neg (by have := List.drop_eq_nil_iff.1 hd3; omega)]
        rw [hop.2 hr, hN] at g2
        rw [g2.done]
      · have hN := hRM hr
        rw [if_neg (fun e => hr (hop.1 e))]
        rw [← hZ, if_neg hr] at hd3
        obtain ⟨q1, q2, q3⟩ := drop_head hd3
        rw [if_pos q1]
        exact draw_sketch h hp s c (n + 1) l' op' m _ (by omega) (by omega) g2 (by rw [hR, g3]) (by rw [g3]; exact q2) (by omega)
end Go.Proofs.YtijcfgeafgddkaaDoor
