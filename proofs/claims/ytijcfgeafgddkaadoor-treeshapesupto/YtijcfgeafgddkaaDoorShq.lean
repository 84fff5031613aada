import Derived.Test.YtijcfgeafgddkaaDoorShp
namespace Go.Proofs.YtijcfgeafgddkaaDoor
set_option linter.unusedVariables false

theorem pops_app {N : Nat} : ∀ (A B : List Nat), (∀ t ∈ A, t = N) → (∀ t r, B = t :: r → t ≠ N) → pops N (A ++ B) = (A.length, B)
  | [], B, _, hB => by
    rw [List.nil_append]
    cases B with
    | nil => rfl
    | cons t r => rw [pops_no r (hB t r rfl)]; rfl
  | a :: A, B, hA, hB => by
    rw [List.cons_append, hA a List.mem_cons_self, pops_yes, pops_app A B (fun t ht => hA t (List.mem_cons_of_mem _ ht)) hB]
    rfl
/-- what closes: the first ones of the open, with their sizes -/
theorem cls_props (s : List UInt8) : ∀ (op : List Nat) (i : Nat) (l : List Nd), (∀ t ∈ op, t < l.length) → op.Nodup → i ≤ s.length →
    ∃ A op' l' j, cls s op i l = (j, l', op') ∧ op = A ++ op' ∧ s.drop i = List.replicate A.length 41 ++ s.drop j ∧ j ≤ s.length ∧ l'.length = l.length ∧
      (∀ t ∈ A, ∃ y, l[t]? = some y ∧ l'[t]? = some ⟨y.k, y.f, y.e, (l.length : Int) - t⟩) ∧ (∀ q, q ∉ A → l'[q]? = l[q]?)
  | [], i, l, _, _, hi => ⟨[], [], l, i, cls_nil s i l, rfl, rfl, hi, rfl, (fun t ht => by cases ht), fun _ _ => rfl⟩
  | t :: r, i, l, hlt, hnd, hi => by
    by_cases h : s[i]? = some 41
    · have hil := (List.getElem?_eq_some_iff.1 h).1
      have hnd' := List.nodup_cons.1 hnd
      have htl := hlt t List.mem_cons_self
      obtain ⟨A, op', l', j, h1, h2, h3, h4, h5, h6, h7⟩ := cls_props s r (i + 1) (szN l t) (fun u hu => by rw [szN_len]; exact hlt u (List.mem_cons_of_mem _ hu)) hnd'.2 hil
      rw [szN_len] at h5 h6
      have hset : ∀ q, q ≠ t → (szN l t)[q]? = l[q]? := fun q hq => by unfold szN; rw [List.getElem?_set_ne (fun e => hq e.symm)]
      have htA : t ∉ A := fun ht => hnd'.1 (by rw [h2]; exact List.mem_append_left _ ht)
      refine ⟨t :: A, op', l', j, by rw [cls_yes t r l h, h1], by rw [h2]; rfl, ?_, h4, h5, fun u hu => ?_, fun q hq => ?_⟩
      · rw [List.length_cons, List.replicate_succ, List.cons_append, ← h3]
        have h8 : s[i] = 41 := (List.getElem?_eq_some_iff.1 h).2
        rw [← h8]
        exact List.drop_eq_getElem_cons hil
      · rcases List.mem_cons.1 hu with rfl | hu
        · refine ⟨l[u], List.getElem?_eq_getElem htl, ?_⟩
          rw [h7 u htA]
          unfold szN
          rw [List.getElem?_set_self htl, List.getD, List.getElem?_eq_getElem htl]
          rfl
        · obtain ⟨y, g1, g2⟩ := h6 u hu
          refine ⟨y, ?_, g2⟩
          rw [hset u (fun e => htA (e ▸ hu))] at g1
          exact g1
      · rw [h7 q (fun hh => hq (List.mem_cons_of_mem _ hh)), hset q (fun e => hq (e ▸ List.mem_cons_self))]
    · exact ⟨[], t :: r, l, i, cls_no t r l h, rfl, rfl, hi, rfl, (fun u hu => by cases hu), fun _ _ => rfl⟩
theorem Ch.all {L : List Nd} : ∀ {st : List Nat}, (∀ t ∈ st, t = L.length) → Ch L L.length st
  | [], _ => rfl
  | t :: r, h => by
    have h1 := h t List.mem_cons_self
    subst h1
    exact ⟨Nat.le_refl _, by rw [kds_end (Nat.lt_irrefl _)]; rfl, Ch.all (fun u hu => h u (List.mem_cons_of_mem _ hu))⟩
theorem Ch.same {L : List Nd} {N : Nat} : ∀ {A B : List Nat}, (∀ t ∈ A, t = N) → Ch L N B → Ch L N (A ++ B)
  | [], B, _, h => h
  | a :: A, B, hA, h => by
    have h1 := hA a List.mem_cons_self
    subst h1
    exact ⟨Nat.le_refl _, by rw [kds_end (Nat.lt_irrefl _)]; rfl, Ch.same (fun u hu => hA u (List.mem_cons_of_mem _ hu)) h⟩
/-- a node ahead -/
theorem Ch.step {L : List Nd} {n : Nat} {x : Nd} {t : Nat} {r : List Nat} (hx : L[n]? = some x) (hs : 1 ≤ x.s) (h : Ch L (n + x.s.toNat) (t :: r)) : Ch L n (t :: r) := by
  refine ⟨by have := h.1; omega, ?_, h.2.2⟩
  rw [kds_step (by have := h.1; omega) hx hs (by have := h.1; omega), Option.isSome_map]
  exact h.2.1
theorem okN_mk {L : List Nd} {n : Nat} {x : Nd} (hx : L[n]? = some x) (hk : x.k < 58) (hs : 1 ≤ x.s) (he : n + x.s.toNat ≤ L.length) (h : (kds L (n + x.s.toNat) (n + 1)).isSome = true) : okN L n = true := by
  rw [okN_at hx, decide_eq_true hk, Bool.true_and]
  unfold kid
  rw [if_pos (by rw [whl_at hx, Bool.and_eq_true]; exact ⟨decide_eq_true hs, decide_eq_true (by omega)⟩)]
  have : L[((n : Nat) : Int).toNat]? = some x := by rw [Int.toNat_natCast]; exact hx
  rw [this, Int.toNat_natCast]
  exact h

/-- what comes of a state of Draw that ends well -/
structure Res (s : List UInt8) (i : Nat) (l : List Nd) (op : List Nat) (L : List Nd) : Prop where
  more : l.length < L.length
  same : ∀ j, j < l.length → j ∉ op → L[j]? = l[j]?
  opn : ∀ t ∈ op, ∃ y x, l[t]? = some y ∧ L[t]? = some x ∧ x.k = y.k ∧ x.f = y.f ∧ x.e = y.e ∧ (l.length : Int) < t + x.s
  txt : s.drop i = tx (nmF nams) L (L.length - l.length) l.length (op.map (en L))
  ok : ∀ j, l.length ≤ j → j < L.length → okN L j = true
  ch : (op = [] → en L l.length = L.length) ∧ (op ≠ [] → Ch L l.length (op.map (en L)))
  fit : ∀ j x, l.length ≤ j → L[j]? = some x → 0 ≤ x.k ∧ x.k < 58 ∧ x.f = 0 ∧ x.e = 0 ∧ 1 ≤ x.s

theorem dr_res (s : List UInt8) : ∀ (m i : Nat) (l : List Nd) (op : List Nat) (L : List Nd) (E : Int) (P : Nat), dr nams s m i l op = (L, E, P) → (∀ t ∈ op, t < l.length) → op.Nodup → i ≤ s.length →
    (L = [] ∧ E = 40 ∧ P ≤ s.length) ∨ (E = 0 ∧ P = 0 ∧ Res s i l op L)
  | 0, i, l, op, L, E, P, h, _, _, _ => by
    rw [dr] at h
    simp only [Prod.mk.injEq] at h
    left; exact ⟨h.1.symm, h.2.1.symm, by omega⟩
  | m + 1, i, l, op, L, E, P, h, hlt, hnd, hi => by
    obtain ⟨kd, ln, ok, hna⟩ : ∃ a b c, naF nams (s.drop i) 58 = (a, b, c) := ⟨_, _, _, rfl⟩
    have hf := na_facts nams_len nams_some hna
    rw [List.length_drop] at hf
    cases ok with
    | false =>
      rw [dr_no hna] at h
      simp only [Prod.mk.injEq] at h
      left; exact ⟨h.1.symm, h.2.1.symm, by omega⟩
    | true =>
      obtain ⟨hln, hkd⟩ := hf.2 rfl
      have hnm : nams.getD kd [] = (s.drop i).take ln := by
        have h1 := (naF_inv nams (s.drop i) nams_some 58 (Nat.le_refl _)).1
        rw [hna] at h1
        exact (h1.yes rfl).2
      have hsp : s.drop i = nams.getD kd [] ++ s.drop (i + ln) := by
        rw [hnm, ← List.drop_drop, List.take_append_drop]
      have hnF : ∀ x : Nd, x.k = (kd : Int) → nmF nams x.k.toNat = nams.getD kd [] := fun x hx => by unfold nmF; rw [hx, Int.toNat_natCast]
      by_cases h1 : s[i + ln]? = some 40
      · have h2 := (List.getElem?_eq_some_iff.1 h1).1
        rw [dr_open hna h1] at h
        have hlt' : ∀ t ∈ l.length :: op, t < (l ++ [mkN kd]).length := op_push hlt
        have hnd' : (l.length :: op).Nodup := List.nodup_cons.2 ⟨fun hh => by have := hlt _ hh; omega, hnd⟩
        rcases dr_res s m _ _ _ L E P h hlt' hnd' h2 with g | ⟨gE, gP, g⟩
        · exact .inl g
        · right
          refine ⟨gE, gP, ?_⟩
          have hll : (l ++ [mkN kd]).length = l.length + 1 := by rw [List.length_append]; rfl
          have gm := g.more
          have gs := g.same
          have go := g.opn
          have gt := g.txt
          have gk := g.ok
          have gc := g.ch.2 (by simp)
          have gf := g.fit
          rw [hll] at gm gs go gt gk gc gf
          obtain ⟨y, x, hy, hx, hxk, hxf, hxe, hxs⟩ := go l.length List.mem_cons_self
          have hyk : y = mkN kd := by
            rw [List.getElem?_append_right (Nat.le_refl _), Nat.sub_self] at hy
            exact (Option.some.inj hy).symm
          rw [hyk] at hxk hxf hxe
          have hnx := nd_at hx
          have hen : en L l.length = l.length + x.s.toNat := by unfold en; rw [hnx]
          rw [List.map_cons, hen] at gt gc
          have hle := Ch.le gc.2.2
          have hxk' : x.k = (kd : Int) := hxk
          refine ⟨by omega, fun j hj hjo => ?_, fun t ht => ?_, ?_, fun j hj hj2 => ?_, ⟨fun e => ?_, fun e => ?_⟩, fun j x' hj hx' => ?_⟩
          · rw [gs j (by omega) (fun hh => (List.mem_cons.1 hh).elim (fun e => by omega) hjo), List.getElem?_append_left hj]
          · obtain ⟨y', x', q1, q2, q3, q4, q5, q6⟩ := go t (List.mem_cons_of_mem _ ht)
            rw [List.getElem?_append_left (hlt t ht)] at q1
            exact ⟨y', x', q1, q2, q3, q4, q5, by omega⟩
          · rw [show L.length - l.length = L.length - (l.length + 1) + 1 by omega, tx, hnx, if_pos (by omega), hnF x hxk', hsp]
            have h3 : s[i + ln] = 40 := (List.getElem?_eq_some_iff.1 h1).2
            rw [List.drop_eq_getElem_cons h2, h3, gt]
          · by_cases ej : j = l.length
            · subst ej
              exact okN_mk hx (by omega) (by omega) hle gc.2.1
            · exact gk j (by omega) hj2
          · rw [e] at gc
            rw [hen]
            exact gc.2.2
          · obtain ⟨t, r, rfl⟩ : ∃ t r, op = t :: r := by
              cases op with
              | nil => exact absurd rfl e
              | cons t r => exact ⟨t, r, rfl⟩
            exact Ch.step hx (by omega) gc.2.2
          · by_cases ej : j = l.length
            · subst ej
              rw [hx] at hx'
              have := (Option.some.inj hx').symm
              subst this
              exact ⟨by omega, by omega, hxf, hxe, by omega⟩
            · exact gf j x' (by omega) hx'
      · have hlt1 : ∀ t ∈ op, t < (l ++ [mkN kd]).length := fun t ht => by rw [List.length_append]; have := hlt t ht; omega
        obtain ⟨A, op', l', j, hc, hop, hdr, hj, hl', hA, hB⟩ := cls_props s op (i + ln) (l ++ [mkN kd]) hlt1 hnd (by omega)
        have hll : (l ++ [mkN kd]).length = l.length + 1 := by rw [List.length_append]; rfl
        rw [hll] at hl' hA
        rw [dr_cls hna h1 hc] at h
        have hnA : l.length ∉ A := fun hh => by have := hlt l.length (by rw [hop]; exact List.mem_append_left _ hh); omega
        have hl'n : l'[l.length]? = some (mkN kd) := by
          rw [hB _ hnA, List.getElem?_append_right (Nat.le_refl _), Nat.sub_self]; rfl
        have hno : op'.Nodup := by rw [hop] at hnd; exact (List.nodup_append.1 hnd).2.1
        have hdis : ∀ t ∈ A, t ∉ op' := fun t h1 h2 => by rw [hop] at hnd; exact (List.nodup_append.1 hnd).2.2 t h1 t h2 rfl
        have hlto : ∀ t ∈ op', t < l.length := fun t ht => hlt t (by rw [hop]; exact List.mem_append_right _ ht)
        have hltA : ∀ t ∈ A, t < l.length := fun t ht => hlt t (by rw [hop]; exact List.mem_append_left _ ht)
        -- from what follows to what was
        have key : ∀ L, (op' = [] → L = l' ∧ s.drop j = []) → (op' ≠ [] → s.drop j = 32 :: s.drop (j + 1) ∧ Res s (j + 1) l' op' L) → Res s i l op L := by
          intro L hE hN
          have gm : l.length < L.length := by
            by_cases e : op' = []
            · rw [(hE e).1, hl']; omega
            · have := (hN e).2.more; omega
          have gs : ∀ q, q < l.length + 1 → q ∉ op' → L[q]? = l'[q]? := by
            intro q hq hqo
            by_cases e : op' = []
            · rw [(hE e).1]
            · exact (hN e).2.same q (by omega) hqo
          have hx : L[l.length]? = some (mkN kd) := by
            rw [gs _ (by omega) (fun hh => by have := hlto _ hh; omega)]; exact hl'n
          have hnx := nd_at hx
          have hen : en L l.length = l.length + 1 := by unfold en; rw [hnx]; rfl
          have hAe : ∀ t ∈ A, en L t = l.length + 1 := fun t ht => by
            obtain ⟨y, q1, q2⟩ := hA t ht
            have h3 := gs t (by have := hltA t ht; omega) (hdis t ht)
            rw [q2] at h3
            unfold en
            rw [nd_at h3]
            have := hltA t ht
            show t + (((l.length + 1 : Nat) : Int) - (t : Int)).toNat = _
            omega
          have hBe : ∀ t r, op'.map (en L) = t :: r → t ≠ l.length + 1 := fun t r e => by
            cases ho : op' with
            | nil => rw [ho] at e; cases e
            | cons u v =>
              have hne : op' ≠ [] := by rw [ho]; simp
              rw [ho, List.map_cons] at e
              obtain ⟨y, x, q1, q2, q3, q4, q5, q6⟩ := (hN hne).2.opn u (by rw [ho]; exact List.mem_cons_self)
              have := (List.cons.inj e).1
              rw [← this]
              unfold en
              rw [nd_at q2]
              rw [hl'] at q6
              omega
          have hpp : pops (l.length + 1) (op.map (en L)) = (A.length, op'.map (en L)) := by
            rw [hop, List.map_append, pops_app (A.map (en L)) (op'.map (en L)) (fun t ht => by obtain ⟨u, hu, rfl⟩ := List.mem_map.1 ht; exact hAe u hu) hBe, List.length_map]
          have hchB : Ch L (l.length + 1) (op'.map (en L)) := by
            by_cases e : op' = []
            · rw [e]
              show l.length + 1 = L.length
              rw [(hE e).1, hl']
            · have := (hN e).2.ch.2 e
              rw [hl'] at this
              exact this
          have hch1 : Ch L (l.length + 1) (op.map (en L)) := by
            rw [hop, List.map_append]
            exact Ch.same (fun t ht => by obtain ⟨u, hu, rfl⟩ := List.mem_map.1 ht; exact hAe u hu) hchB
          refine ⟨gm, fun q hq hqo => ?_, fun t ht => ?_, ?_, fun q hq hq2 => ?_, ⟨fun e => ?_, fun e => ?_⟩, fun q x' hq hx' => ?_⟩
          · have hqA : q ∉ A := fun hh => hqo (by rw [hop]; exact List.mem_append_left _ hh)
            have hqB : q ∉ op' := fun hh => hqo (by rw [hop]; exact List.mem_append_right _ hh)
            rw [gs q (by omega) hqB, hB q hqA, List.getElem?_append_left hq]
          · rw [hop] at ht
            rcases List.mem_append.1 ht with ht | ht
            · obtain ⟨y, q1, q2⟩ := hA t ht
              have h3 := gs t (by have := hltA t ht; omega) (hdis t ht)
              rw [q2] at h3
              rw [List.getElem?_append_left (hltA t ht)] at q1
              exact ⟨y, _, q1, h3, rfl, rfl, rfl, by show (l.length : Int) < t + (((l.length + 1 : Nat) : Int) - t); omega⟩
            · have hne : op' ≠ [] := fun e => by rw [e] at ht; cases ht
              obtain ⟨y, x, q1, q2, q3, q4, q5, q6⟩ := (hN hne).2.opn t ht
              rw [hB t (fun hh => hdis t hh ht), List.getElem?_append_left (hlto t ht)] at q1
              rw [hl'] at q6
              exact ⟨y, x, q1, q2, q3, q4, q5, by omega⟩
          · rw [show L.length - l.length = L.length - (l.length + 1) + 1 by omega, tx, hnx, if_neg (by show ¬ (1 : Int) < 1; omega), hnF (mkN kd) rfl, hpp, hsp, hdr]
            simp only [List.map_eq_nil_iff]
            by_cases e : op' = []
            · rw [if_pos e, (hE e).2, e, (hE e).1, hl', Nat.sub_self, tx]
              simp
            · have := (hN e).2.txt
              rw [hl'] at this
              rw [if_neg e, (hN e).1, this]
              simp
          · by_cases ej : q = l.length
            · subst ej
              exact okN_mk hx (by show (kd : Int) < 58; omega) (by show (1 : Int) ≤ 1; omega) (by show l.length + 1 ≤ L.length; omega) (by show (kds L (l.length + 1) (l.length + 1)).isSome = true; rw [kds_end (Nat.lt_irrefl _)]; rfl)
            · by_cases e : op' = []
              · rw [(hE e).1, hl'] at hq2; omega
              · exact (hN e).2.ok q (by omega) hq2
          · have he : op' = [] := by rw [hop] at e; exact (List.append_eq_nil_iff.1 e).2
            rw [hen, (hE he).1, hl']
          · obtain ⟨t, r, hor⟩ : ∃ t r, op = t :: r := by
              cases op with
              | nil => exact absurd rfl e
              | cons t r => exact ⟨t, r, rfl⟩
            rw [hor, List.map_cons] at hch1 ⊢
            exact Ch.step hx (by show (1 : Int) ≤ 1; omega) hch1
          · by_cases ej : q = l.length
            · subst ej
              rw [hx] at hx'
              have := (Option.some.inj hx').symm
              subst this
              exact ⟨by show (0 : Int) ≤ kd; omega, by show (kd : Int) < 58; omega, rfl, rfl, by show (1 : Int) ≤ 1; omega⟩
            · by_cases e : op' = []
              · have := (List.getElem?_eq_some_iff.1 hx').1
                rw [(hE e).1, hl'] at this; omega
              · exact (hN e).2.fit q x' (by omega) hx'
        by_cases e : op' = []
        · rw [if_pos e] at h
          by_cases hjs : j < s.length
          · rw [if_pos hjs] at h
            simp only [Prod.mk.injEq] at h
            left; exact ⟨h.1.symm, h.2.1.symm, by omega⟩
          · rw [if_neg hjs] at h
            simp only [Prod.mk.injEq] at h
            right
            exact ⟨h.2.1.symm, h.2.2.symm, key L (fun _ => ⟨h.1.symm, List.drop_eq_nil_of_le (by omega)⟩) (fun hn => absurd e hn)⟩
        · rw [if_neg e] at h
          by_cases h32 : s[j]? = some 32
          · rw [if_pos h32] at h
            have hj2 := (List.getElem?_eq_some_iff.1 h32).1
            rcases dr_res s m (j + 1) l' op' L E P h (fun t ht => by rw [hl']; have := hlto t ht; omega) hno hj2 with g | ⟨gE, gP, g⟩
            · exact .inl g
            · right
              refine ⟨gE, gP, key L (fun hh => absurd hh e) (fun _ => ⟨?_, g⟩)⟩
              rw [List.drop_eq_getElem_cons hj2, (List.getElem?_eq_some_iff.1 h32).2]
          · rw [if_neg h32] at h
            simp only [Prod.mk.injEq] at h
            left; exact ⟨h.1.symm, h.2.1.symm, by omega⟩
/-- what Draw reads, Sketch writes -/
theorem sketch_draw (s : List UInt8) (hs : s.length ≤ 1048576) (L : List Nd) (E : Int) (P : Nat) (h : dr nams s (s.length + 1) 0 [] [] = (L, E, P)) :
    (L = [] ∧ E = 40 ∧ P ≤ s.length) ∨ (E = 0 ∧ P = 0 ∧ s ≠ [] ∧ shB L = true ∧ cz (nmF nams) L = s ∧ ∀ x ∈ L, NdFit x) := by
  rcases dr_res s _ _ _ _ L E P h (fun t ht => by cases ht) List.nodup_nil (Nat.zero_le _) with g | ⟨gE, gP, g⟩
  · exact .inl g
  · right
    have hm : 0 < L.length := g.more
    have hx : L[0]? = some L[0] := List.getElem?_eq_getElem hm
    have hf := g.fit 0 _ (Nat.le_refl _) hx
    have hc := g.ch.1 rfl
    have hsh : shB L = true := by
      refine shB_yes hx ?_ (fun i hi => g.ok i (Nat.zero_le _) hi)
      unfold en at hc
      rw [show ([] : List Nd).length = 0 from rfl, nd_at hx] at hc
      omega
    have ht := g.txt
    rw [List.drop_zero, List.map_nil, show ([] : List Nd).length = 0 from rfl, Nat.sub_zero, ← cz_tx (nmF nams) hsh] at ht
    refine ⟨gE, gP, fun e => ?_, hsh, ht.symm, fun x hx => ?_⟩
    · rw [cz_tx (nmF nams) hsh, e] at ht
      have hk : (nmF nams (nd L 0).k.toNat) ≠ [] := by
        unfold nmF
        refine nams_some _ ?_
        rw [nd_at hx]
        show _ < 58
        omega
      obtain ⟨c, hcl⟩ : ∃ c, L.length = c + 1 := ⟨L.length - 1, by omega⟩
      rw [hcl, tx] at ht
      split at ht
      · exact hk (List.append_eq_nil_iff.1 ht.symm).1
      · exact hk (List.append_eq_nil_iff.1 ht.symm).1
    · obtain ⟨j, hj⟩ := List.getElem?_of_mem hx
      have h1 := g.fit j x (Nat.zero_le _) hj
      have h2 := size_pos hsh hj
      have h3 : L.length ≤ s.length := by
        have := dr_len nams_len nams_some s (s.length + 1) 0 [] [] (Nat.zero_le _) (Nat.zero_le _)
        rw [h] at this
        exact this
      refine ⟨⟨h1.1, by omega⟩, ?_, ?_, ?_⟩ <;> unfold In64 <;> omega
end Go.Proofs.YtijcfgeafgddkaaDoor
