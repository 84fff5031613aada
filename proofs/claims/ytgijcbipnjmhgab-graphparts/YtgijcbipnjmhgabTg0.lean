import Derived.Test.YtgijcbipnjmhgabPt1
import Derived.Test.YtgijcbipnjmhgabGq2
import Derived.Test.YtgijcbipnjmhgabPt2
namespace Go.Proofs.Ytgijcbipnjmhgab
set_option linter.unusedVariables false
set_option linter.unusedSimpArgs false

/-- an edge -/
abbrev Eg (ps : List Pr) (x y : Nat) : Prop := (⟨(x : Int), (y : Int)⟩ : Pr) ∈ ps
/-- a thing on a cycle -/
def OnC (ps : List Pr) (x : Nat) : Prop := ∃ z : Nat, Eg ps x z ∧ Rch ps z x
/-- a way of so many edges -/
inductive Wy (ps : List Pr) (f : Nat) : Nat → Nat → Prop
  | nil : Wy ps f 0 f
  | cons {k x y : Nat} : Eg ps x y → Wy ps f k y → Wy ps f (k + 1) x
theorem Wy.rch {ps : List Pr} {f k x : Nat} (h : Wy ps f k x) : Rch ps x f := by
  induction h with
  | nil => exact .refl _
  | cons e _ ih => exact .step e ih
theorem Rch.wy {ps : List Pr} {x f : Nat} (h : Rch ps x f) : ∃ k, Wy ps f k x := by
  induction h with
  | refl x => exact ⟨0, .nil⟩
  | step e _ ih => obtain ⟨k, hk⟩ := ih; exact ⟨k + 1, .cons e hk⟩
/-- the edges of the shortest way -/
def Ds (ps : List Pr) (f y d : Nat) : Prop := Wy ps f d y ∧ ∀ k, Wy ps f k y → d ≤ k
theorem Ds.uniq {ps : List Pr} {f y d e : Nat} (h : Ds ps f y d) (k : Ds ps f y e) : d = e := by
  have := h.2 _ k.1
  have := k.2 _ h.1
  omega
theorem Ds.self (ps : List Pr) (f : Nat) : Ds ps f f 0 := ⟨.nil, fun k _ => Nat.zero_le _⟩
theorem Ds.zero {ps : List Pr} {f y : Nat} (h : Ds ps f y 0) : y = f := by
  cases h.1
  rfl
/-- one step along a shortest way -/
theorem Ds.next {ps : List Pr} {f y d : Nat} (h : Ds ps f y (d + 1)) : ∃ z, Eg ps y z ∧ Ds ps f z d := by
  cases h.1 with
  | cons e k =>
    refine ⟨_, e, k, fun j hj => ?_⟩
    have := h.2 _ (.cons e hj)
    omega
theorem Wy.ds {ps : List Pr} {f k y : Nat} (h : Wy ps f k y) : ∃ d, d ≤ k ∧ Ds ps f y d := by
  induction k using Nat.strongRecOn with
  | ind k ih =>
    by_cases h1 : ∃ j, j < k ∧ Wy ps f j y
    · obtain ⟨j, hj, hw⟩ := h1
      obtain ⟨d, hd, hs⟩ := ih j hj hw
      exact ⟨d, by omega, hs⟩
    · refine ⟨k, Nat.le_refl _, h, fun j hj => ?_⟩
      by_cases h2 : j < k
      · exact absurd ⟨j, h2, hj⟩ h1
      · omega
/-- breadth first: the distances F, the queue q, the place i in it; dn: what is done of the one at i -/
structure Bq (ps : List Pr) (n f : Nat) (F : Nat → Nat) (q : List Nat) (i : Nat) (dn : Nat → Prop) : Prop where
  nod : q.Nodup
  rng : ∀ y ∈ q, y < n
  fst : f ∈ q
  zer : F f = 0
  mkd : ∀ y, y < n → (y ∈ q ↔ F y ≠ n)
  wy : ∀ y ∈ q, Wy ps f (F y) y
  srt : q.Pairwise fun a b => F a ≤ F b
  lea : ∀ (a : Nat) y, q[a]? = some y → F y ≤ a
  top : ∀ x, q[i]? = some x → ∀ y ∈ q, F y ≤ F x + 1
  old : ∀ (a : Nat) x, a < i → q[a]? = some x → ∀ y, Eg ps y x → y ∈ q ∧ F y ≤ F x + 1
  cur : ∀ x, q[i]? = some x → ∀ y, dn y → y ∈ q ∧ F y ≤ F x + 1
theorem Bq.start {ps : List Pr} {n f : Nat} (hf : f < n) : Bq ps n f (fun y => if y = f then 0 else n) [f] 0 (fun _ => False) := by
  refine ⟨by simp, fun y hy => ?_, by simp, by simp, fun y hy => ?_, fun y hy => ?_, by simp, fun a y h => ?_, fun x hx y hy => ?_, fun a x ha => by omega, fun x hx y h => h.elim⟩
  · rw [List.mem_singleton] at hy; subst hy; exact hf
  · rw [List.mem_singleton]
    by_cases e : y = f
    · subst e; simp; omega
    · simp [e]
  · rw [List.mem_singleton] at hy; subst hy; simp; exact .nil
  · have h1 := List.mem_of_getElem? h
    rw [List.mem_singleton] at h1; subst h1; simp
  · rw [List.mem_singleton] at hy; subst hy; simp
theorem Bq.few {ps : List Pr} {n f i : Nat} {F : Nat → Nat} {q : List Nat} {dn : Nat → Prop} (h : Bq ps n f F q i dn) : q.length ≤ n := nodup_le0 n q h.nod h.rng
theorem Bq.have {ps : List Pr} {n f i y : Nat} {F : Nat → Nat} {q : List Nat} {dn : Nat → Prop} (h : Bq ps n f F q i dn) (hy : y < n) (hF : F y ≠ n) : Bq ps n f F q i (fun z => dn z ∨ z = y) :=
  ⟨h.nod, h.rng, h.fst, h.zer, h.mkd, h.wy, h.srt, h.lea, h.top, h.old, fun x hx z hz => hz.elim (h.cur x hx z) fun e => by subst e; exact ⟨(h.mkd z hy).2 hF, h.top x hx z ((h.mkd z hy).2 hF)⟩⟩
theorem Bq.new {ps : List Pr} {n f i x y : Nat} {F : Nat → Nat} {q : List Nat} {dn : Nat → Prop} (h : Bq ps n f F q i dn) (hx : q[i]? = some x) (hy : y < n) (hF : F y = n) (he : Eg ps y x) : F x + 1 < n ∧ q.length < n ∧ Bq ps n f (fun z => if z = y then F x + 1 else F z) (q ++ [y]) i (fun z => dn z ∨ z = y) := by
  have hyq : y ∉ q := fun hm => (h.mkd y hy).1 hm hF
  have hil := (List.getElem?_eq_some_iff.1 hx).1
  have hF' : ∀ z ∈ q, (if z = y then F x + 1 else F z) = F z := fun z hz => by rw [if_neg]; intro e; subst e; exact hyq hz
  have hxq := List.mem_of_getElem? hx
  have hnd : (q ++ [y]).Nodup := by
    rw [List.nodup_append]
    exact ⟨h.nod, by simp, fun a ha b hb e => hyq (by rw [List.mem_singleton] at hb; rw [← hb, ← e]; exact ha)⟩
  have hrg : ∀ z ∈ q ++ [y], z < n := fun z hz => (List.mem_append.1 hz).elim (h.rng z) fun e => by rw [List.mem_singleton] at e; subst e; exact hy
  have hlen := nodup_le0 n _ hnd hrg
  rw [List.length_append, List.length_singleton] at hlen
  have hFx := h.lea i x hx
  refine ⟨by omega, by omega, hnd, hrg, List.mem_append_left _ h.fst, by rw [hF' f h.fst]; exact h.zer, fun z hz => ?_, fun z hz => ?_, ?_, fun a z ha => ?_, fun x' hx' z hz => ?_, fun a x' ha hx' z hz => ?_, fun x' hx' z hz => ?_⟩
  · rw [List.mem_append, List.mem_singleton, h.mkd z hz]
    by_cases e : z = y
    · subst e; simp; omega
    · simp [e]
  · rcases List.mem_append.1 hz with hz | hz
    · rw [hF' z hz]; exact h.wy z hz
    · rw [List.mem_singleton] at hz; subst hz; rw [if_pos rfl]; exact .cons he (h.wy x hxq)
  · rw [List.pairwise_append]
    refine ⟨h.srt.imp_of_mem fun {a b} ha hb hab => by rw [hF' a ha, hF' b hb]; exact hab, by simp, fun a ha b hb => ?_⟩
    rw [List.mem_singleton] at hb
    subst hb
    rw [hF' a ha, if_pos rfl]
    exact h.top x hx a ha
  · by_cases hal : a < q.length
    · rw [List.getElem?_append_left hal] at ha
      rw [hF' z (List.mem_of_getElem? ha)]
      exact h.lea a z ha
    · rw [List.getElem?_append_right (by omega)] at ha
      have hz := List.mem_of_getElem? ha
      rw [List.mem_singleton] at hz
      subst hz
      rw [if_pos rfl]
      omega
  · rw [List.getElem?_append_left hil] at hx'
    have exx : x' = x := by rw [hx] at hx'; injection hx' with e; exact e.symm
    subst exx
    rw [hF' x' hxq]
    rcases List.mem_append.1 hz with hz | hz
    · rw [hF' z hz]; exact h.top x' hx z hz
    · rw [List.mem_singleton] at hz; subst hz; rw [if_pos rfl]; exact Nat.le_refl _
  · rw [List.getElem?_append_left (by omega)] at hx'
    obtain ⟨h1, h2⟩ := h.old a x' ha hx' z hz
    rw [hF' z h1, hF' x' (List.mem_of_getElem? hx')]
    exact ⟨List.mem_append_left _ h1, h2⟩
  · rw [List.getElem?_append_left hil] at hx'
    have exx : x' = x := by rw [hx] at hx'; injection hx' with e; exact e.symm
    subst exx
    rw [hF' x' hxq]
    rcases hz with hz | hz
    · obtain ⟨h1, h2⟩ := h.cur x' hx z hz
      rw [hF' z h1]
      exact ⟨List.mem_append_left _ h1, h2⟩
    · subst hz
      rw [if_pos rfl]
      exact ⟨by simp, Nat.le_refl _⟩
theorem Bq.next {ps : List Pr} {n f i x : Nat} {F : Nat → Nat} {q : List Nat} {dn : Nat → Prop} (h : Bq ps n f F q i dn) (hx : q[i]? = some x) (hd : ∀ y, Eg ps y x → dn y) : Bq ps n f F q (i + 1) (fun _ => False) := by
  refine ⟨h.nod, h.rng, h.fst, h.zer, h.mkd, h.wy, h.srt, h.lea, fun x' hx' y hy => ?_, fun a x' ha hx' y hy => ?_, fun x hx y hy => hy.elim⟩
  · have h1 := h.top x hx y hy
    obtain ⟨l1, e1⟩ := List.getElem?_eq_some_iff.1 hx
    obtain ⟨l2, e2⟩ := List.getElem?_eq_some_iff.1 hx'
    have h2 := List.pairwise_iff_getElem.1 h.srt i (i + 1) l1 l2 (by omega)
    rw [e1, e2] at h2
    omega
  · by_cases e : a = i
    · subst e
      have exx : x' = x := by rw [hx] at hx'; injection hx' with e; exact e.symm
      subst exx
      exact h.cur x' hx y (hd y hy)
    · exact h.old a x' (by omega) hx' y hy
/-- the distances to f: n where there is no way -/
structure Fr (ps : List Pr) (n f : Nat) (F : Nat → Nat) : Prop where
  ds : ∀ y, y < n → F y ≠ n → Ds ps f y (F y)
  wy : ∀ y k, Wy ps f k y → y < n ∧ F y < n
  le : ∀ y, y < n → F y ≤ n
theorem Bq.done {ps : List Pr} {n f : Nat} {F : Nat → Nat} {q : List Nat} {dn : Nat → Prop} (h : Bq ps n f F q q.length dn) : Fr ps n f F := by
  have key : ∀ k y, Wy ps f k y → y ∈ q ∧ F y ≤ k := by
    intro k y hw
    induction hw with
    | nil => exact ⟨h.fst, by rw [h.zer]; exact Nat.le_refl _⟩
    | cons e _ ih =>
      obtain ⟨h1, h2⟩ := ih
      obtain ⟨a, ha⟩ := List.getElem?_of_mem h1
      obtain ⟨h3, h4⟩ := h.old a _ (List.getElem?_eq_some_iff.1 ha).1 ha _ e
      exact ⟨h3, by omega⟩
  have hlt : ∀ y ∈ q, F y < n := fun y hy => by
    obtain ⟨a, ha⟩ := List.getElem?_of_mem hy
    have h1 := h.lea a y ha
    have h2 := (List.getElem?_eq_some_iff.1 ha).1
    have h3 := h.few
    omega
  refine ⟨fun y hy hF => ⟨h.wy y ((h.mkd y hy).2 hF), fun k hk => (key k y hk).2⟩, fun y k hk => ⟨h.rng y (key k y hk).1, hlt y (key k y hk).1⟩, fun y hy => ?_⟩
  by_cases e : F y = n
  · omega
  · have := hlt y ((h.mkd y hy).2 e)
    omega
/-- the nearest that is needed, the lowest of them -/
def Nst (ps : List Pr) (f x y : Nat) : Prop := Eg ps x y ∧ ∃ d, Ds ps f y d ∧ ∀ z e, Eg ps x z → Ds ps f z e → d ≤ e ∧ (e = d → y ≤ z)
theorem Nst.uniq {ps : List Pr} {f x y z : Nat} (h : Nst ps f x y) (k : Nst ps f x z) : y = z := by
  obtain ⟨h1, d, h2, h3⟩ := h
  obtain ⟨k1, e, k2, k3⟩ := k
  have a := h3 z e k1 k2
  have b := k3 y d h1 h2
  have := a.2 (by omega)
  have := b.2 (by omega)
  omega
/-- the way on from x back to f -/
inductive Cyc (ps : List Pr) (f : Nat) : Nat → List Int → Prop
  | fin {x : Nat} : Nst ps f x f → Cyc ps f x []
  | more {x y : Nat} {l : List Int} : Nst ps f x y → y ≠ f → Cyc ps f y l → Cyc ps f x ((y : Int) :: l)
theorem Cyc.uniq {ps : List Pr} {f x : Nat} {l : List Int} (h : Cyc ps f x l) : ∀ {m : List Int}, Cyc ps f x m → l = m := by
  induction h with
  | fin h =>
    intro m k
    cases k with
    | fin _ => rfl
    | more k1 k2 _ => exact absurd (h.uniq k1).symm k2
  | more h1 h2 _ ih =>
    intro m k
    cases k with
    | fin k1 => exact absurd (h1.uniq k1) h2
    | more k1 k2 k3 =>
      have e := h1.uniq k1
      subst e
      rw [ih k3]
/-- the first of the nearest among a rising list -/
theorem Fr.nst {ps : List Pr} {n f x y : Nat} {F : Nat → Nat} {l : List Int} (hF : Fr ps n f F) (hl : ∀ z, z ∈ l ↔ (⟨(x : Int), z⟩ : Pr) ∈ ps) (hy : (y : Int) ∈ l) (hyn : y < n) (hm : ∀ z : Nat, (z : Int) ∈ l → F y ≤ F z ∧ (F z = F y → y ≤ z)) (hw : ∃ z k, Eg ps x z ∧ Wy ps f k z) : Nst ps f x y ∧ Ds ps f y (F y) := by
  obtain ⟨z, k, hz, hk⟩ := hw
  have h1 := (hF.wy z k hk).2
  have h2 := (hm z ((hl _).2 hz)).1
  have h3 := hF.ds y hyn (by omega)
  refine ⟨⟨(hl _).1 hy, F y, h3, fun z e hz he => ?_⟩, h3⟩
  have h4 := hm z ((hl _).2 hz)
  have h5 := hF.wy z _ he.1
  have := (hF.ds z h5.1 (by omega)).uniq he
  rw [this] at h4
  exact h4
end Go.Proofs.Ytgijcbipnjmhgab

namespace Go.Proofs.Ytgijcbipnjmhgab
set_option linter.unusedVariables false
set_option linter.unusedSimpArgs false

theorem Rch.mono {ps qs : List Pr} (h : ∀ p ∈ ps, p ∈ qs) {x y : Nat} (k : Rch ps x y) : Rch qs x y := by
  induction k with
  | refl x => exact .refl x
  | step e _ ih => exact .step (h _ e) ih
theorem CL.congr {ss tt : List Pr} {n : Nat} {l : List Int} (h : CL ss n l) (h1 : ∀ p, p ∈ ss ↔ p ∈ tt) : CL tt n l :=
  ⟨h.1, fun y hy => by
    obtain ⟨r, a, b, c⟩ := h.2 y hy
    exact ⟨r, a, b.mono (fun p hp => (h1 p).1 hp), fun z hz => c z (hz.mono (fun p hp => (h1 p).2 hp))⟩⟩
/-- pairs turned round, the last first -/
def tvd (ps : List Pr) : List Pr := (ps.map swapP).reverse
theorem both_tvd (ps : List Pr) (p : Pr) : p ∈ both (tvd ps) ↔ p ∈ both ps := by
  obtain ⟨a, b⟩ := p
  have key : ∀ a b : Int, (⟨a, b⟩ : Pr) ∈ tvd ps ↔ (⟨b, a⟩ : Pr) ∈ ps := fun a b => by
    unfold tvd
    rw [List.mem_reverse]
    exact trn_swap ps a b
  rw [both_mem, both_mem, key, key]
  exact ⟨Or.symm, Or.symm⟩
theorem both_app (ps : List Pr) (a b : Nat) {x y : Nat} (h : Eg (both (ps ++ [(⟨(a : Int), (b : Int)⟩ : Pr)])) x y) : Eg (both ps) x y ∨ (x = a ∧ y = b) ∨ (x = b ∧ y = a) := by
  unfold Eg at h ⊢
  rw [both_mem] at h ⊢
  simp only [List.mem_append, List.mem_singleton, Pr.mk.injEq] at h
  rcases h with (h | h) | (h | h)
  · exact .inl (.inl h)
  · exact .inr (.inl (by omega))
  · exact .inl (.inr h)
  · exact .inr (.inr (by omega))
/-- labels: one class, one label -/
theorem CL.same {ps : List Pr} {n : Nat} {l : List Int} (h : CL (both ps) n l) {x y : Nat} (hx : x < n) (hy : y < n) (hr : Rch (both ps) x y) : l[x]? = l[y]? := by
  obtain ⟨r, h1, h2, h3⟩ := h.2 x hx
  obtain ⟨s, k1, k2, k3⟩ := h.2 y hy
  have := h3 s (hr.trans k2)
  have := k3 r (hr.symm.trans h2)
  rw [h1, k1, show r = s by omega]
theorem CL.iff {ps : List Pr} {n : Nat} {l : List Int} (h : CL (both ps) n l) {x y r s : Nat} (hx : x < n) (hy : y < n) (h1 : l[x]? = some (r : Int)) (k1 : l[y]? = some (s : Int)) : r = s ↔ Rch (both ps) x y := by
  constructor
  · rintro rfl
    obtain ⟨r', a1, a2, a3⟩ := h.2 x hx
    obtain ⟨s', b1, b2, b3⟩ := h.2 y hy
    rw [h1] at a1
    rw [k1] at b1
    injection a1 with a1
    injection b1 with b1
    have e1 : r' = r := by omega
    have e2 : s' = r := by omega
    subst e1
    rw [e2] at b2
    exact a2.trans b2.symm
  · intro hr
    have := h.same hx hy hr
    rw [h1, k1] at this
    injection this with this
    omega
/-- a label is its own label, and no greater than what bears it -/
theorem CL.low {ps : List Pr} {n : Nat} {l : List Int} (h : CL (both ps) n l) {x r : Nat} (hx : x < n) (h1 : l[x]? = some (r : Int)) : r ≤ x ∧ l[r]? = some (r : Int) := by
  obtain ⟨r', a1, a2, a3⟩ := h.2 x hx
  rw [h1] at a1
  injection a1 with a1
  have e1 : r' = r := by omega
  subst e1
  have hle := a3 x (.refl _)
  refine ⟨hle, ?_⟩
  rw [← h.same hx (by omega) a2, h1]
/-- one tie more: what can be come to -/
theorem rch_more {ps : List Pr} {a b x y : Nat} (h : Rch (both (ps ++ [(⟨(a : Int), (b : Int)⟩ : Pr)])) x y) : Rch (both ps) x y ∨ ((Rch (both ps) x a ∨ Rch (both ps) x b) ∧ (Rch (both ps) y a ∨ Rch (both ps) y b)) := by
  induction h with
  | refl x => exact .inl (.refl x)
  | step e _ ih =>
    rename_i x y z _
    rcases both_app ps a b e with e | ⟨rfl, rfl⟩ | ⟨rfl, rfl⟩
    · have hxy : Rch (both ps) x y := .step e (.refl _)
      rcases ih with ih | ⟨h1, h2⟩
      · exact .inl (hxy.trans ih)
      · exact .inr ⟨h1.imp hxy.trans hxy.trans, h2⟩
    · rcases ih with ih | ⟨h1, h2⟩
      · exact .inr ⟨.inl (.refl _), .inr ih.symm⟩
      · exact .inr ⟨.inl (.refl _), h2⟩
    · rcases ih with ih | ⟨h1, h2⟩
      · exact .inr ⟨.inr (.refl _), .inl ih.symm⟩
      · exact .inr ⟨.inr (.refl _), h2⟩
theorem rch_up {ps : List Pr} {a b x y : Nat} (h : Rch (both ps) x y) : Rch (both (ps ++ [(⟨(a : Int), (b : Int)⟩ : Pr)])) x y := h.mono fun p hp => by
  obtain ⟨u, v⟩ := p
  rw [both_mem] at hp ⊢
  exact hp.imp (List.mem_append_left _) (List.mem_append_left _)
theorem rch_ab (ps : List Pr) (a b : Nat) : Rch (both (ps ++ [(⟨(a : Int), (b : Int)⟩ : Pr)])) a b := .step (both_mem.2 (.inl (by simp))) (.refl _)
/-- one tie more joins just two classes -/
theorem CL.more {ps : List Pr} {n a b : Nat} {l m : List Int} (h : CL (both ps) n l) (k : CL (both (ps ++ [(⟨(a : Int), (b : Int)⟩ : Pr)])) n m) (ha : a < n) (hb : b < n) {la lb : Nat} (hla : l[a]? = some (la : Int)) (hlb : l[b]? = some (lb : Int)) {i x : Nat} (hi : i < n) (hx : l[i]? = some (x : Int)) : m[i]? = some (if x = la ∨ x = lb then ((min la lb : Nat) : Int) else (x : Int)) := by
  obtain ⟨r, h1, h2, h3⟩ := k.2 i hi
  have low : ∀ {y s : Nat}, y < n → l[y]? = some (s : Int) → Rch (both ps) y s ∧ ∀ z, Rch (both ps) y z → s ≤ z := fun {y s} hy e => by
    obtain ⟨s', a1, a2, a3⟩ := h.2 y hy
    rw [e] at a1
    injection a1 with a1
    have e1 : s' = s := by omega
    subst e1
    exact ⟨a2, a3⟩
  obtain ⟨ra, qa⟩ := low ha hla
  obtain ⟨rb, qb⟩ := low hb hlb
  obtain ⟨rx, qx⟩ := low hi hx
  rw [h1]
  congr 1
  by_cases hc : x = la ∨ x = lb
  · rw [if_pos hc]
    have hia : Rch (both ps) i a ∨ Rch (both ps) i b := hc.imp (fun e => (h.iff hi ha hx hla).1 e) (fun e => (h.iff hi hb hx hlb).1 e)
    have up : Rch (both (ps ++ [(⟨(a : Int), (b : Int)⟩ : Pr)])) i la ∧ Rch (both (ps ++ [(⟨(a : Int), (b : Int)⟩ : Pr)])) i lb := by
      rcases hia with e | e
      · exact ⟨rch_up (e.trans ra), ((rch_up e).trans (rch_ab ps a b)).trans (rch_up rb)⟩
      · exact ⟨((rch_up e).trans (rch_ab ps a b).symm).trans (rch_up ra), rch_up (e.trans rb)⟩
    have l1 := h3 la up.1
    have l2 := h3 lb up.2
    have l3 : la ≤ r ∨ lb ≤ r := by
      rcases rch_more h2 with e | ⟨-, e⟩
      · rcases hia with f | f
        · exact .inl (qa r (f.symm.trans e))
        · exact .inr (qb r (f.symm.trans e))
      · exact e.imp (fun f => qa r f.symm) (fun f => qb r f.symm)
    omega
  · rw [if_neg hc]
    have hna : ¬ Rch (both ps) i a := fun e => hc (.inl ((h.iff hi ha hx hla).2 e))
    have hnb : ¬ Rch (both ps) i b := fun e => hc (.inr ((h.iff hi hb hx hlb).2 e))
    have l1 := h3 x (rch_up rx)
    have l2 : x ≤ r := by
      rcases rch_more h2 with e | ⟨e, -⟩
      · exact qx r e
      · exact (e.elim hna hnb).elim
    omega
theorem Sam.both {ps : List Pr} {x y : Nat} (h : Sam ps x y) : Rch (both ps) x y := h.1.mono fun p hp => by
  obtain ⟨u, v⟩ := p
  exact both_mem.2 (.inl hp)
end Go.Proofs.Ytgijcbipnjmhgab

namespace Go.Proofs.Ytgijcbipnjmhgab
open Go.ChangeShapes Go.WideShapes Go.ChangeAt Go.RowKit
set_option linter.unusedVariables false
set_option linter.unusedSimpArgs false

set_option maxRecDepth 1000000 in
theorem parts_bad (n : Int) (a : Option Addr) (cap : Nat) (ps : List Pr) (w : World) (hL : LiesA w a ps) (hm : ps.length ≤ 8796093022208) (h : things n ps = false) :
    Calls Try.prog 10 #[.int .i64 n, .slice a ps.length cap] w fun e w' => e = .returned (.tuple #[.slice none 0 0, .int .i64 1]) ∧ Below w.heap.size w w' := by
  have AT : Hid (Calls Try.prog 17 #[.int .i64 n, .slice a ps.length cap] w fun e w' => e = .returned (.bool (things n ps)) ∧ Below w.heap.size w w') := areThings_any n a cap ps w hL (by omega)
  rw [h] at AT
  go_enter Try.func10, Try.ntmps10
  go_wp2_with (go_at_call 17; (with_reducible refine AT.out.mono ?_); rintro e v1 ⟨rfl, hb1⟩; have HB1 := hidH hb1; clear hb1)
  go_ret2
  exact ⟨rfl, HB1.out⟩
/-- the first of the pairs of which an end is no thing: none so far -/
def Thk (n : Int) (ps : List Pr) (k : Nat) : Prop := ∀ p ∈ ps.take k, thp n p = true
set_option maxRecDepth 1000000 in
set_option maxHeartbeats 4000000 in
theorem right_any (n : Int) (a : Option Addr) (cap : Nat) (ps : List Pr) (w : World) (hL : LiesA w a ps) (hm : ps.length ≤ 8796093022208) :
    Calls Try.prog 6 #[.int .i64 n, .slice a ps.length cap] w fun e w' => e = .returned (.bool (things n ps)) ∧ Below w.heap.size w w' := by
  have HL := hidH hL
  clear hL
  by_cases h0 : n < 0
  · have ht : things n ps = false := by unfold things; simp; omega
    rw [ht]
    go_enter Try.func6, Try.ntmps6
    go_wp2
    go_ret
    exact ⟨rfl, Below.refl _ _⟩
  by_cases h1 : 131072 < n
  · have ht : things n ps = false := by unfold things; simp; omega
    rw [ht]
    go_enter Try.func6, Try.ntmps6
    go_wp2
    go_ret
    exact ⟨rfl, Below.refl _ _⟩
  have BAD : Hid (∀ p ∈ ps, thp n p = false → things n ps = false) := fun p hp hb => by
    unfold things
    rw [Bool.and_eq_false_iff]
    refine .inr ?_
    rw [List.all_eq_false]
    exact ⟨p, hp, by rw [hb]; decide⟩
  obtain ⟨m, rfl⟩ : ∃ m : Nat, n = (m : Int) := ⟨n.toNat, by omega⟩
  go_enter Try.func6, Try.ntmps6
  go_wp2
  go_loopg [15] ps.length (fun gk si wr => ∃ k : Nat, gk = ps.length - k ∧ si = .int .i64 (k : Int) ∧ k ≤ ps.length ∧ Below w.heap.size w wr ∧ Thk (m : Int) ps k)
  case atStart => exact ⟨0, rfl, rfl, Nat.zero_le _, Below.refl _ _, fun p hp => by simp at hp⟩
  case round =>
    obtain ⟨k, hgk, rfl, hk, hE, hT⟩ := hrel
    have HE := hidH hE
    have HT := hidH hT
    clear hE hT
    by_cases hkp : k < ps.length
    · have hkp' : (k : Int) < (ps.length : Int) := by omega
      obtain ⟨p, hp⟩ : ∃ p, ps[k]? = some p := ⟨_, List.getElem?_eq_getElem hkp⟩
      obtain ⟨b, o, ha, hLi⟩ : ∃ b o, a = some ⟨b, o, none⟩ ∧ Lies w b o ps := by
        rcases HL.out with h | h
        · rw [h] at hkp; exact absurd hkp (Nat.not_lt_zero _)
        · exact h
      subst ha
      obtain ⟨pa, pb⟩ := p
      have HP := hidH hp
      have hbad := BAD.out _ (List.mem_of_getElem? hp)
      obtain ⟨d0, d1⟩ := (hLi.below HE.out hLi.1).pr hp
      simp only at d0 d1
      have hEA := hidH ((HE.out.alloc HE.out.size (.cells #[.int .i64 pa, .int .i64 pb] 42)))
      have kk : IntKind.i64.wrap ((k : Int) + 1) = ((k + 1 : Nat) : Int) := by rw [IntWalk.i64_in _ ⟨by omega, by omega⟩]; omega
      clear hp hLi
      by_cases h1' : pa < 0
      · have hb := hbad (by unfold thp thg; simp; omega)
        clear hbad
        go_wp2
        go_ret
        first | exact ⟨rfl, hEA.out⟩ | (rw [hb]; exact ⟨rfl, hEA.out⟩)
      by_cases h2' : (m : Int) ≤ pa
      · have hb := hbad (by unfold thp thg; simp; omega)
        clear hbad
        go_wp2
        go_ret
        first | exact ⟨rfl, hEA.out⟩ | (rw [hb]; exact ⟨rfl, hEA.out⟩)
      by_cases h3' : pb < 0
      · have hb := hbad (by unfold thp thg; simp; omega)
        clear hbad
        go_wp2
        go_ret
        first | exact ⟨rfl, hEA.out⟩ | (rw [hb]; exact ⟨rfl, hEA.out⟩)
      by_cases h4' : (m : Int) ≤ pb
      · have hb := hbad (by unfold thp thg; simp; omega)
        clear hbad
        go_wp2
        go_ret
        first | exact ⟨rfl, hEA.out⟩ | (rw [hb]; exact ⟨rfl, hEA.out⟩)
      clear hbad
      go_wp2
      go_roundg (ps.length - (k + 1))
      case measure => omega
      case rel => exact ⟨k + 1, rfl, rfl, by omega, hEA.out, fun p hp => by
        rw [List.take_add_one, HP.out] at hp
        rcases List.mem_append.1 hp with h | h
        · exact HT.out p h
        · simp at h
          subst h
          unfold thp thg
          simp
          omega⟩
    · have hkp' : ¬ (k : Int) < (ps.length : Int) := by omega
      go_wp2
      go_ret
      have ht : things (m : Int) ps = true := by
        unfold things
        have h2 : ps.all (thp (m : Int)) = true := List.all_eq_true.2 fun p hp => HT.out p (by rw [List.take_of_length_le (by omega)]; exact hp)
        simp only [Bool.and_eq_true, decide_eq_true_eq]
        exact ⟨⟨by omega, by omega⟩, h2⟩
      first | exact ⟨rfl, HE.out⟩ | (rw [ht]; exact ⟨rfl, HE.out⟩)
/-- where a number stands in a rising row -/
structure Bs2 (zs : List Int) (k : Int) (lo hi : Nat) : Prop where
  le : lo ≤ hi
  hl : hi ≤ zs.length
  lt : ∀ (i : Nat) x, i < lo → zs[i]? = some x → x < k
  ge : ∀ (i : Nat) x, hi ≤ i → zs[i]? = some x → k ≤ x
theorem Bs2.mem {zs : List Int} {k : Int} {lo : Nat} (h : Bs2 zs k lo lo) (hp : zs.Pairwise (· < ·)) : k ∈ zs ↔ zs[lo]? = some k := by
  constructor
  · intro hk
    obtain ⟨i, hi⟩ := List.getElem?_of_mem hk
    rcases Nat.lt_trichotomy i lo with h1 | h1 | h1
    · have := h.lt i k h1 hi; omega
    · subst h1; exact hi
    · obtain ⟨li, ei⟩ := List.getElem?_eq_some_iff.1 hi
      have h2 := h.ge lo zs[lo] (Nat.le_refl _) (List.getElem?_eq_getElem (by omega))
      have h3 := List.pairwise_iff_getElem.1 hp lo i (by omega) li h1
      omega
  · exact List.mem_of_getElem?
end Go.Proofs.Ytgijcbipnjmhgab
