import Derived.Test.YtmnbakalcpanlaaGreatDoorLc5
namespace Go.Proofs.YtmnbakalcpanlaaGreatDoor
open Go.ChangeShapes Go.WideShapes Go.ChangeAt Go.RowKit
set_option linter.unusedVariables false
set_option linter.unusedSimpArgs false

/-- a token with its places moved, either way -/
def mvZ (d : Int) (q : Tk) : Tk := ⟨q.k, q.f + d, q.t + d⟩
theorem Fg.cut {s s' : ByteArray} : ∀ m p p', s.size - p ≤ m → Fg s s' p p' → (cut s p).2 = none → Go.Proofs.YtmnbakalcpanlaaGreatDoor.cut s' p' = ((Go.Proofs.YtmnbakalcpanlaaGreatDoor.cut s p).1.map (mvZ ((p' : Int) - (p : Int))), none)
  | m, p, p', hm, F, hn => by
    by_cases hp : p < s.size
    · have hp' : p' < s'.size := (F.lt 0).2 hp
      cases hc : pce s p with
      | no y z => rw [cut_no hp hc] at hn; cases hn
      | ok k t =>
        obtain ⟨t1, t2, -⟩ := Go.Proofs.YtmnbakalcpanlaaGreatDoor.pce_ok hp hc
        have h2 := F.pce_ok hp hc
        rw [cut_ok hp hc] at hn ⊢
        rw [cut_ok hp' h2]
        have F2 : Fg s s' t (p' + (t - p)) := by
          have := F.on (t - p)
          rw [show p + (t - p) = t by omega] at this
          exact this
        match m, hm with
        | 0, hm => omega
        | m + 1, hm =>
          have ih := Fg.cut m t (p' + (t - p)) (by omega) F2 hn
          rw [ih]
          simp only [List.map_cons]
          congr 1
          congr 1
          · unfold mvZ
            congr 1
            · simp only; omega
            · simp only; omega
          · congr 1
            congr 1
            omega
    · have hn' : ¬ p' < s'.size := fun e => hp ((F.lt 0).1 e)
      rw [cut_end hp, cut_end hn']
      rfl
/-- places of a list from a place on -/
def InF (s : ByteArray) (p : Nat) (l : List Tk) : Prop := ∀ q ∈ l, ∃ k f t : Nat, q = ⟨k, f, t⟩ ∧ k < 80 ∧ p ≤ f ∧ f ≤ t ∧ t ≤ s.size
theorem cut_inF (s : ByteArray) : ∀ m p, s.size - p ≤ m → InF s p (cut s p).1
  | m, p, hm => by
    by_cases hp : p < s.size
    · cases hc : pce s p with
      | no y z => rw [cut_no hp hc]; intro q hq; cases hq
      | ok k t =>
        obtain ⟨t1, t2, t3⟩ := pce_ok hp hc
        rw [cut_ok hp hc]
        match m, hm with
        | 0, hm => omega
        | m + 1, hm =>
          intro q hq
          rcases List.mem_cons.1 hq with rfl | hq
          · exact ⟨k, p, t, rfl, t3, Nat.le_refl _, by omega, t2⟩
          · obtain ⟨k', f', t', e, a, b, c, d⟩ := cut_inF s m t (by omega) q hq
            exact ⟨k', f', t', e, a, by omega, c, d⟩
    · rw [cut_end hp]; intro q hq; cases hq
theorem Fg.nlc {s s' : ByteArray} {p p' f t : Nat} (F : Fg s s' p p') (k : Int) (h1 : p ≤ f) (h2 : f ≤ t) (h3 : t ≤ s.size) : nlc s' (mvZ ((p' : Int) - (p : Int)) ⟨k, f, t⟩) = Go.Proofs.YtmnbakalcpanlaaGreatDoor.nlc s ⟨k, f, t⟩ := by
  have e1 : (f : Int) + ((p' : Int) - (p : Int)) = ((p' + (f - p) : Nat) : Int) := by omega
  have e2 : (t : Int) + ((p' : Int) - (p : Int)) = ((p' + (t - p) : Nat) : Int) := by omega
  unfold mvZ
  rw [e1, e2, nlc_nat, nlc_nat]
  have F2 := (F.on (f - p)).ag (t - f)
  rw [show p + (f - p) = f by omega] at F2
  have := ext_ag F2 (by omega)
  rw [show f + (t - f) = t by omega, show p' + (f - p) + (t - f) = p' + (t - p) by omega] at this
  rw [this]
theorem Fg.aft {s s' : ByteArray} {p p' : Nat} (F : Fg s s' p p') : ∀ l, InF s p l → aft s' (l.map (mvZ ((p' : Int) - (p : Int)))) = Go.Proofs.YtmnbakalcpanlaaGreatDoor.aft s l
  | [], _ => rfl
  | q :: r, hi => by
    obtain ⟨k, f, t, rfl, -, h1, h2, h3⟩ := hi q (List.mem_cons_self ..)
    have e := F.nlc (k : Int) h1 h2 h3
    simp only [List.map_cons, Go.Proofs.YtmnbakalcpanlaaGreatDoor.aft]
    rw [Fg.aft F r (fun q hq => hi q (List.mem_cons_of_mem _ hq)), e]
    rfl
theorem Fg.wau {s s' : ByteArray} {p p' : Nat} (F : Fg s s' p p') : ∀ l, InF s p l → wau s' (l.map (mvZ ((p' : Int) - (p : Int)))) = (Go.Proofs.YtmnbakalcpanlaaGreatDoor.wau s l).map (mvZ ((p' : Int) - (p : Int)))
  | [], _ => rfl
  | q :: r, hi => by
    have hr : InF s p r := fun q hq => hi q (List.mem_cons_of_mem _ hq)
    simp only [List.map_cons, Go.Proofs.YtmnbakalcpanlaaGreatDoor.wau]
    rw [F.aft r hr, Fg.wau F r hr]
    show ((mvZ _ q) :: (if (ask q.k.toNat && Go.Proofs.YtmnbakalcpanlaaGreatDoor.aft s r) = true then [(⟨6, q.t + ((p' : Int) - (p : Int)), q.t + ((p' : Int) - (p : Int))⟩ : Tk)] else [])) ++ _ = _
    split <;> simp [mvZ]
/-- the front of a list with its semicolons, what goes on behind it given -/
def wauR (s : ByteArray) : List Tk → List Tk → List Tk
  | [], _ => []
  | p :: P, R => (p :: (if ask p.k.toNat && aft s (P ++ R) then [(⟨6, p.t, p.t⟩ : Tk)] else [])) ++ wauR s P R
theorem wau_app (s : ByteArray) : ∀ P R, wau s (P ++ R) = wauR s P R ++ wau s R
  | [], R => rfl
  | p :: P, R => by rw [List.cons_append, wau, wauR, wau_app s P R, List.append_assoc]
theorem aft_app {s J : ByteArray} {R R' : List Tk} (hR : aft J R' = aft s R) : ∀ P, (∀ x ∈ P, nlc J x = nlc s x) → aft J (P ++ R') = aft s (P ++ R)
  | [], _ => hR
  | p :: P, h => by
    simp only [List.cons_append, aft]
    rw [h p (List.mem_cons_self ..), aft_app hR P (fun x hx => h x (List.mem_cons_of_mem _ hx))]
theorem wauR_same {s J : ByteArray} {R R' : List Tk} (hR : aft J R' = aft s R) : ∀ P, (∀ x ∈ P, nlc J x = nlc s x) → wauR J P R' = wauR s P R
  | [], _ => rfl
  | p :: P, h => by
    have h' : ∀ x ∈ P, nlc J x = nlc s x := fun x hx => h x (List.mem_cons_of_mem _ hx)
    rw [wauR, wauR, aft_app hR P h', wauR_same hR P h']
/-- a name in a list with semicolons is one of the pieces -/
theorem wau_at (s : ByteArray) : ∀ (ts : List Tk) (i : Nat) (q : Tk), (wau s ts)[i]? = some q → q.k = 2 → ∃ P Q, ts = P ++ q :: Q ∧ (wau s ts).take i = wauR s P (q :: Q) ∧ (wau s ts).drop (i + 1) = (if ask q.k.toNat && aft s Q then [(⟨6, q.t, q.t⟩ : Tk)] else []) ++ wau s Q
  | [], i, q, h, _ => by cases i <;> cases h
  | p :: r, 0, q, h, hk => by
    have e : p = q := by simpa [wau] using h
    subst e
    exact ⟨[], r, rfl, by simp [wauR], by simp [wau]⟩
  | p :: r, i + 1, q, h, hk => by
    by_cases ha : (ask p.k.toNat && aft s r) = true
    · have hw : wau s (p :: r) = p :: (⟨6, p.t, p.t⟩ : Tk) :: wau s r := by rw [wau, if_pos ha]; rfl
      rw [hw] at h ⊢
      cases i with
      | zero =>
        have e : (⟨6, p.t, p.t⟩ : Tk) = q := by simpa using h
        rw [← e] at hk
        cases hk
      | succ i =>
        obtain ⟨P, Q, e1, e2, e3⟩ := wau_at s r i q (by simpa using h) hk
        refine ⟨p :: P, Q, by rw [e1]; rfl, ?_, ?_⟩
        · rw [wauR, ← e1, if_pos ha, ← e2]; rfl
        · simpa using e3
    · have hw : wau s (p :: r) = p :: wau s r := by rw [wau, if_neg ha]; rfl
      rw [hw] at h ⊢
      obtain ⟨P, Q, e1, e2, e3⟩ := wau_at s r i q (by simpa using h) hk
      refine ⟨p :: P, Q, by rw [e1]; rfl, ?_, ?_⟩
      · rw [wauR, ← e1, if_neg ha, ← e2]; rfl
      · simpa using e3
/-- a piece among the pieces: what stands ahead and behind -/
theorem cut_split (s : ByteArray) : ∀ m p (P : List Tk) (q : Tk) (Q : List Tk), s.size - p ≤ m → (cut s p).2 = none → (cut s p).1 = P ++ q :: Q → ∃ k f t : Nat, q = ⟨k, f, t⟩ ∧ p ≤ f ∧ f < s.size ∧ pce s f = .ok k t ∧ Q = (cut s t).1 ∧ (cut s t).2 = none ∧ (∀ x ∈ P, ∃ k' f' t' : Nat, x = ⟨k', f', t'⟩ ∧ f' ≤ t' ∧ t' ≤ f) ∧ ∀ J : ByteArray, f ≤ J.size → (∀ p k e, p < f → pce s p = .ok k e → e ≤ f → pce J p = .ok k e) → cut J p = (P ++ (cut J f).1, (cut J f).2)
  | m, p, P, q, Q, hm, hn, he => by
    by_cases hp : p < s.size
    · cases hc : pce s p with
      | no y z => rw [cut_no hp hc] at hn; cases hn
      | ok k t =>
        obtain ⟨t1, t2, t3⟩ := pce_ok hp hc
        rw [cut_ok hp hc] at hn he
        cases P with
        | nil =>
          simp only [List.nil_append, List.cons.injEq] at he
          refine ⟨k, p, t, he.1.symm, Nat.le_refl _, hp, hc, he.2.symm, hn, (fun x hx => by cases hx), (fun J _ _ => by simp)⟩
        | cons x P =>
          simp only [List.cons_append, List.cons.injEq] at he
          match m, hm with
          | 0, hm => omega
          | m + 1, hm =>
            obtain ⟨k', f', t', e1, e2, e3, e4, e5, e6, e7, e8⟩ := cut_split s m t P q Q (by omega) hn he.2
            refine ⟨k', f', t', e1, by omega, e3, e4, e5, e6, ?_, fun J hJ hpre => ?_⟩
            · intro y hy
              rcases List.mem_cons.1 hy with rfl | hy
              · exact ⟨k, p, t, he.1.symm, by omega, e2⟩
              · exact e7 y hy
            · have hpj := hpre p k t (by omega) hc e2
              rw [cut_ok (by omega) hpj, e8 J hJ hpre, ← he.1]
              rfl
    · rw [cut_end hp] at he
      cases P <;> cases he
-- a name in a name's place
structure Ld (b : Nat) : Prop where
  lead : b / 64 ≠ 2
  blank : blk b = false
  b10 : b ≠ 10
  b47 : b ≠ 47
  b42 : b ≠ 42
  mark : ∀ m ∈ mks, ∀ c ∈ m, c.toNat ≠ b
theorem dN_lead (b0 b1 b2 b3 : Nat) (h : 1 < (Lib.decodeN 4 b0 b1 b2 b3).2) : b0 / 64 ≠ 2 ∧ 128 ≤ b0 := by
  constructor
  · intro h2
    unfold Lib.decodeN at h
    rw [if_neg (by omega), if_neg (by omega), if_neg (by omega), if_neg (by omega)] at h
    simp at h
  · apply Classical.byContradiction
    intro h8
    unfold Lib.decodeN at h
    rw [if_pos (by omega)] at h
    simp at h
set_option maxRecDepth 100000 in
theorem low_ld : ∀ b, b < 128 → isL b = true → blk b = false ∧ b ≠ 10 ∧ b ≠ 47 ∧ b ≠ 42 := by decide
theorem ld_of {s : ByteArray} {k : Nat} (h : k < s.size) (hl : isL (rn s k) = true) : Ld (bt s k) := by
  have hld : isLD (rn s k) = true := by unfold isLD; rw [hl]; rfl
  by_cases h8 : bt s k < 128
  · have e := asc_rn h h8
    rw [e] at hl hld
    obtain ⟨a, b, c, d⟩ := low_ld _ h8 hl
    refine ⟨by omega, a, b, c, d, fun m hm x hx ex => ?_⟩
    have := (mks_no m hm x hx).2.2.2
    rw [ex, hld] at this
    cases this
  · have hw : 1 < wd s k := by rcases ld_wide h hld with h' | h'; exact absurd h' h8; exact h'
    have e := dec_bt s k h
    have ew : (Lib.decodeN 4 (bt s k) (bt s (k + 1)) (bt s (k + 2)) (bt s (k + 3))).2 = wd s k := by rw [← e]
    obtain ⟨a, b⟩ := dN_lead _ _ _ _ (by rw [ew]; exact hw)
    refine ⟨a, ?_, by omega, by omega, by omega, fun m hm x hx ex => ?_⟩
    · unfold blk
      have h1 : (bt s k == 32) = false := by rw [beq_eq_false_iff_ne]; omega
      have h2 : (bt s k == 9) = false := by rw [beq_eq_false_iff_ne]; omega
      have h3 : (bt s k == 13) = false := by rw [beq_eq_false_iff_ne]; omega
      have h4 : (bt s k == 10) = false := by rw [beq_eq_false_iff_ne]; omega
      rw [h1, h2, h3, h4]; rfl
    · have := (mks_no m hm x hx).2.1; omega
theorem name_L {s : ByteArray} {p t : Nat} (hp : p < s.size) (h : pce s p = .ok 2 t) : isL (rn s p) = true := by
  unfold pce at h
  by_cases g1 : blk (bt s p) = true
  · rw [if_pos g1] at h; cases h
  rw [if_neg g1] at h
  by_cases g2 : bt s p = 47 ∧ bt s (p + 1) = 47
  · rw [if_pos g2] at h; cases h
  rw [if_neg g2] at h
  by_cases g3 : bt s p = 47 ∧ bt s (p + 1) = 42
  · rw [if_pos g3] at h
    cases hf : fn2 s 42 47 (p + 2) <;> (rw [hf] at h; cases h)
  rw [if_neg g3] at h
  by_cases g4 : isL (rn s p) = true
  · exact g4
  exfalso
  rw [if_neg g4] at h
  by_cases g5 : 48 ≤ bt s p ∧ bt s p ≤ 57
  · rw [if_pos g5] at h
    unfold ruP at h
    split at h <;> cases h
  rw [if_neg g5] at h
  by_cases g6 : bt s p = 39 ∨ bt s p = 34 ∨ bt s p = 96
  · rw [if_pos g6] at h
    unfold quP at h
    split at h
    · split at h <;> cases h
    · split at h
      · cases h
      · split at h
        · cases h
        · split at h
          · cases h
          · have := Pce.ok.inj h
            split at this <;> omega
  rw [if_neg g6] at h
  obtain ⟨n, n1, n2, -⟩ := mkP_ok hp h
  omega
/-- n in the place of the bytes from f to t -/
structure Rn (s n J : ByteArray) (f t : Nat) : Prop where
  ft : f ≤ t
  ts : t ≤ s.size
  size : J.size = f + n.size + (s.size - t)
  one : ∀ j, j < f → bt J j = bt s j
  two : ∀ j, j < n.size → bt J (f + j) = bt n j
  three : ∀ j, bt J (f + n.size + j) = bt s (t + j)
theorem Rn.ag {s n J : ByteArray} {f t : Nat} (h : Rn s n J f t) {p m : Nat} (hm : p + m ≤ f) : Ag s J p p m := fun j hj => h.one (p + j) (by omega)
theorem Rn.pre {s n J : ByteArray} {f t : Nat} (h : Rn s n J f t) (hn : 0 < n.size) (hf : f < s.size) (ls : isL (rn s f) = true) (ln : isL (rn n 0) = true) {p k e : Nat} (hp : p < f) (hc : pce s p = .ok k e) (he : e ≤ f) : pce J p = .ok k e := by
  have hps : p < s.size := by omega
  have D := ld_of hf ls
  have D' := ld_of hn ln
  have bJ : bt J f = bt n 0 := h.two 0 hn
  rw [← bJ] at D'
  obtain ⟨t1, t2, -⟩ := pce_ok hps hc
  obtain ⟨s0, s1, s2, s3⟩ := pce_stop hps hc
  have et : p + (e - p) = e := by omega
  have hsz := h.size
  have dec : ∀ x, x < f → rn J x = rn s x := fun x hx => (dec_stop2 (n := f - x) (show x < s.size by omega) (by omega) (h.ag (by omega)) (by rw [show x + (f - x) = f by omega]; exact D.lead) (by rw [show x + (f - x) = f by omega]; exact D'.lead)).1
  have ldS : isLD (rn s f) = true := by unfold isLD; rw [ls]; rfl
  have key := pce_ag (s' := J) (p' := p) hps hc (h.ag (by omega))
    (fun hk => by
      rw [et]
      by_cases hl : e < f
      · rw [h.one e hl]; exact s0 hk
      · rw [show e = f by omega]; exact D'.blank)
    (fun hk hb => by
      rw [et]
      rcases s1 hk hb with e1 | e1
      · by_cases hl : e < f
        · left; rw [h.one e hl]; exact e1
        · exfalso; rw [show e = f by omega] at e1; exact D.b10 e1
      · omega)
    (fun x y z u hl => by
      rw [et]
      have h1 := s2 x y z u (by omega)
      by_cases hl : e < f
      · rw [dec e hl]; exact h1
      · exfalso; rw [show e = f by omega, ldS] at h1; cases h1)
    (fun hk => ⟨fun m hm hb => by
      have hbf := (bgn_fit J m p (by omega)).1 hb
      have hin : p + m.length ≤ f := by
        apply Classical.byContradiction
        intro hc'
        have hi : f - p < m.length := by omega
        have := fit_byte m p (f - p) hi hbf
        rw [show p + (f - p) = f by omega] at this
        exact D'.mark m hm _ (List.getElem_mem hi) this.symm
      refine (s3 hk).1 m hm ?_
      rw [bgn_fit _ _ _ (by omega), ← fit_ag m p p (h.ag hin)]
      exact hbf, fun e1 hb => by
      by_cases hl : p + 1 < f
      · rw [h.one _ hl]; exact ⟨fun x => (s3 hk).2 ⟨hb, .inl x⟩, fun x => (s3 hk).2 ⟨hb, .inr x⟩⟩
      · rw [show p + 1 = f by omega]; exact ⟨D'.b47, D'.b42⟩⟩)
  rw [et] at key
  exact key
theorem Rn.at {s n J : ByteArray} {f t : Nat} (h : Rn s n J f t) (hn : 0 < n.size) (hf : f < s.size) (hs : pce s f = .ok 2 t) (hc : pce n 0 = .ok 2 n.size) : pce J f = .ok 2 (f + n.size) := by
  have hsz := h.size
  have F : Fg s J t (f + n.size) := h.three
  have key := pce_ag (s' := J) (p' := f) hn hc (fun j hj => by rw [Nat.zero_add]; exact h.two j (by omega)) (by omega) (by omega)
    (fun _ _ _ _ hl => by
      rw [Nat.sub_zero] at hl ⊢
      have ht : t < s.size := (F.lt 0).1 hl
      rw [(F.dec ht).1]
      exact (pce_stop hf hs).2.2.1 (by omega) (by omega) (by omega) (by omega) ht)
    (by omega)
  rw [Nat.sub_zero] at key
  exact key
/-- another identifier, the same kinds, one for one -/
theorem Rn.list {s n J : ByteArray} {f t i : Nat} {L : List Tk} (hn : 0 < n.size) (hc : pce n 0 = .ok 2 n.size) (hcut : (cut s 0).2 = none) (hL : wau s (cut s 0).1 = L) (hi : L[i]? = some (⟨2, f, t⟩ : Tk)) (hJ : f ≤ t → t ≤ s.size → Rn s n J f t) :
    f < s.size ∧ f < t ∧ t ≤ s.size ∧ (cut J 0).2 = none ∧ wau J (cut J 0).1 = L.take i ++ (⟨2, f, ((f + n.size : Nat) : Int)⟩ : Tk) :: (L.drop (i + 1)).map (mvZ (((f + n.size : Nat) : Int) - (t : Int))) := by
  subst hL
  obtain ⟨P, Q, e1, e2, e3⟩ := wau_at s _ i _ hi rfl
  obtain ⟨k, f', t', q1, q2, q3, q4, q5, q6, q7, q8⟩ := cut_split s s.size 0 P _ Q (by omega) hcut e1
  have hk : k = 2 := by have := congrArg Tk.k q1; simp only at this; omega
  have hf : f' = f := by have := congrArg Tk.f q1; simp only at this; omega
  have ht : t' = t := by have := congrArg Tk.t q1; simp only at this; omega
  subst hk hf ht
  obtain ⟨t1, t2, -⟩ := pce_ok q3 q4
  have R := hJ (by omega) t2
  have hsz := R.size
  have hpJ := R.at hn q3 q4 hc
  have F : Fg s J t' (f' + n.size) := R.three
  have hrest := F.cut s.size t' (f' + n.size) (by omega) q6
  have hfj : cut J f' = ((⟨2, f', ((f' + n.size : Nat) : Int)⟩ : Tk) :: Q.map (mvZ (((f' + n.size : Nat) : Int) - (t' : Int))), none) := by
    rw [cut_ok (by omega) hpJ, hrest, q5]
    rfl
  have hall := q8 J (by omega) (fun p k e hp hpc he => R.pre hn q3 (name_L q3 q4) (name_L hn hc) hp hpc he)
  rw [hfj] at hall
  refine ⟨q3, t1, t2, by rw [hall], ?_⟩
  rw [hall]
  simp only
  have iQ : InF s t' Q := by rw [q5]; exact cut_inF s s.size t' (by omega)
  have hP : ∀ x ∈ P, nlc J x = nlc s x := fun x hx => by
    obtain ⟨k', f2, t2', rfl, a, b⟩ := q7 x hx
    exact nlc_ag0 (k' : Int) a (by omega) (R.ag (by omega))
  have a1 : aft J ((⟨2, f', ((f' + n.size : Nat) : Int)⟩ : Tk) :: Q.map (mvZ (((f' + n.size : Nat) : Int) - (t' : Int)))) = aft s ((⟨2, f', t'⟩ : Tk) :: Q) := by
    simp [aft]
  rw [wau_app, wauR_same a1 P hP, e2, e3]
  congr 1
  have a2 := F.aft Q iQ
  have a3 := F.wau Q iQ
  rw [wau, a2, a3]
  simp only [List.cons_append, List.map_append]
  congr 2
  have : ask (2 : Int).toNat = true := by decide
  simp only [this, Bool.true_and]
  split
  · simp only [List.map_cons, List.map_nil, mvZ]
    congr 2 <;> omega
  · rfl
end Go.Proofs.YtmnbakalcpanlaaGreatDoor
