import Derived.Test.YtgijcbipnjmhgaaGr5
import Derived.Test.YtgijcbipnjmhgaaGq0
import Derived.Test.YtgijcbipnjmhgaaPt1
import Derived.Test.YtgijcbipnjmhgaaGq1
import Derived.ArgAppend
namespace Go.Proofs.Ytgijcbipnjmhgaa
set_option linter.unusedVariables false
set_option linter.unusedSimpArgs false

/-- the pairs both ways round -/
def both (ps : List Pr) : List Pr := ps ++ ps.map swapP
theorem both_mem {ps : List Pr} {a b : Int} : (⟨a, b⟩ : Pr) ∈ both ps ↔ (⟨a, b⟩ : Pr) ∈ ps ∨ (⟨b, a⟩ : Pr) ∈ ps := by
  unfold both
  rw [List.mem_append, List.mem_map]
  constructor
  · rintro (h | ⟨p, hp, he⟩)
    · exact .inl h
    · cases p
      simp only [swapP, Pr.mk.injEq] at he
      obtain ⟨rfl, rfl⟩ := he
      exact .inr hp
  · rintro (h | h)
    · exact .inl h
    · exact .inr ⟨_, h, rfl⟩
theorem both_symm {ps : List Pr} {a b : Int} (h : (⟨a, b⟩ : Pr) ∈ both ps) : (⟨b, a⟩ : Pr) ∈ both ps := both_mem.2 ((both_mem.1 h).symm)
theorem Rch.symm {ps : List Pr} {x y : Nat} (h : Rch (both ps) x y) : Rch (both ps) y x := by
  induction h with
  | refl => exact .refl _
  | step e _ ih => exact ih.trans (.step (both_symm e) (.refl _))
/-- the classes so far: M: what was met; L: the labels; all below x are met -/
structure Cs (ss : List Pr) (x : Nat) (M : Nat → Prop) (L : Nat → Option Int) : Prop where
  closed : ∀ y y' : Nat, M y → (⟨(y : Int), (y' : Int)⟩ : Pr) ∈ ss → M y'
  lab : ∀ y : Nat, M y → ∃ r : Nat, L y = some (r : Int) ∧ Rch ss y r ∧ ∀ z, Rch ss y z → r ≤ z
  all : ∀ y : Nat, y < x → M y
theorem Cs.fwd {ss : List Pr} {x : Nat} {M : Nat → Prop} {L : Nat → Option Int} (h : Cs ss x M L) {a b : Nat} (hr : Rch ss a b) (ha : M a) : M b := by
  induction hr with
  | refl => exact ha
  | step e _ ih => exact ih (h.closed _ _ ha e)
theorem Cs.step {ps : List Pr} {x : Nat} {M M' : Nat → Prop} {L L' : Nat → Option Int} (h : Cs (both ps) x M L) (hM : ∀ y, M y → M' y) (hx : M' x) (hc : ∀ y y' : Nat, M' y → ¬ M y → (⟨(y : Int), (y' : Int)⟩ : Pr) ∈ both ps → M' y')
    (hr : ∀ y, M' y → ¬ M y → Rch (both ps) x y) (h1 : ∀ y, M y → L' y = L y) (h2 : ∀ y, M' y → ¬ M y → L' y = some (x : Int)) : Cs (both ps) (x + 1) M' L' := by
  refine ⟨fun y y' hy he => ?_, fun y hy => ?_, fun y hy => ?_⟩
  · by_cases hm : M y
    · exact hM _ (h.closed y y' hm he)
    · exact hc y y' hy hm he
  · by_cases hm : M y
    · obtain ⟨r, h3, h4⟩ := h.lab y hm
      exact ⟨r, (h1 y hm).trans h3, h4⟩
    · refine ⟨x, h2 y hy hm, (hr y hy hm).symm, fun z hz => ?_⟩
      rcases Nat.lt_or_ge z x with hzx | hzx
      · exact absurd (h.fwd hz.symm (h.all z hzx)) hm
      · exact hzx
  · rcases Nat.lt_succ_iff_lt_or_eq.1 hy with h3 | h3
    · exact hM y (h.all y h3)
    · rw [h3]; exact hx
theorem Cs.skip {ps : List Pr} {x : Nat} {M : Nat → Prop} {L : Nat → Option Int} (h : Cs ps x M L) (hx : M x) : Cs ps (x + 1) M L :=
  ⟨h.closed, h.lab, fun y hy => by
    rcases Nat.lt_succ_iff_lt_or_eq.1 hy with h3 | h3
    · exact h.all y h3
    · rw [h3]; exact hx⟩
/-- the list of the classes -/
def CL (ss : List Pr) (n : Nat) (l : List Int) : Prop := l.length = n ∧ ∀ y : Nat, y < n → ∃ r : Nat, l[y]? = some (r : Int) ∧ Rch ss y r ∧ ∀ z, Rch ss y z → r ≤ z
theorem CL.one {ss : List Pr} {n : Nat} {l k : List Int} (h : CL ss n l) (g : CL ss n k) : l = k := by
  apply List.ext_getElem?
  intro y
  by_cases hy : y < n
  · obtain ⟨r, h1, h2, h3⟩ := h.2 y hy
    obtain ⟨s, g1, g2, g3⟩ := g.2 y hy
    have := h3 s g2
    have := g3 r h2
    rw [h1, g1, show r = s by omega]
  · rw [List.getElem?_eq_none (by rw [h.1]; omega), List.getElem?_eq_none (by rw [g.1]; omega)]
theorem Cs.fin {ss : List Pr} {n : Nat} {M : Nat → Prop} {l : List Int} (h : Cs ss n M (fun y => l[y]?)) (hl : l.length = n) : CL ss n l := ⟨hl, fun y hy => h.lab y (h.all y hy)⟩
theorem Cs.start (ss : List Pr) (L : Nat → Option Int) (M : Nat → Prop) (hM : ∀ y, ¬ M y) : Cs ss 0 M L := ⟨fun y _ h => absurd h (hM y), fun y h => absurd h (hM y), fun y h => absurd h (Nat.not_lt_zero _)⟩
/-- the labels of what was told -/
def lbl (f : Int) (l : List Int) (t : List Nat) : List Int := t.foldl (fun l y => l.set y f) l
theorem lbl_snoc (f : Int) (l : List Int) (t : List Nat) (x : Nat) : lbl f l (t ++ [x]) = (lbl f l t).set x f := by simp [lbl]
theorem lbl_len (f : Int) : ∀ (t : List Nat) (l : List Int), (lbl f l t).length = l.length
  | [], l => rfl
  | y :: t, l => by
    have := lbl_len f t (l.set y f)
    rw [List.length_set] at this
    exact this
theorem lbl_get (f : Int) : ∀ (t : List Nat) (l : List Int) (y : Nat), (lbl f l t)[y]? = if y ∈ t ∧ y < l.length then some f else l[y]?
  | [], l, y => by simp [lbl]
  | z :: t, l, y => by
    have := lbl_get f t (l.set z f) y
    rw [List.length_set] at this
    show (lbl f (l.set z f) t)[y]? = _
    rw [this, List.getElem?_set]
    by_cases h1 : y ∈ t <;> by_cases h2 : y < l.length <;> by_cases h3 : z = y <;> simp [h1, h2, h3]
    · intro h4; exact absurd h4.symm h3
end Go.Proofs.Ytgijcbipnjmhgaa

namespace Go.Proofs.Ytgijcbipnjmhgaa
set_option linter.unusedVariables false
set_option linter.unusedSimpArgs false

/-- an edge -/
abbrev Eg (ps : List Pr) (x y : Nat) : Prop := (⟨(x : Int), (y : Int)⟩ : Pr) ∈ ps
/-- a thing on a cycle -/
def OnC (ps : List Pr) (x : Nat) : Prop := ∃ z : Nat, Eg ps x z ∧ Rch ps z x
/-- a way of so many edges -/
inductive Wy (ps : List Pr) (f : Nat) : Nat → Nat → Prop
  | nil : Wy ps f 0 f
  | cons {k x y : Nat} : Eg ps x y → Wy ps f k y → Wy ps f (k + 1) x
theorem Wy.rch {ps : List Pr} {f k x : Nat} (h : Wy ps f k x) : Rch ps x f := by
  induction h with
  | nil => exact .refl _
  | cons e _ ih => exact .step e ih
theorem Rch.wy {ps : List Pr} {x f : Nat} (h : Rch ps x f) : ∃ k, Wy ps f k x := by
  induction h with
  | refl x => exact ⟨0, .nil⟩
  | step e _ ih => obtain ⟨k, hk⟩ := ih; exact ⟨k + 1, .cons e hk⟩
/-- the edges of the shortest way -/
def Ds (ps : List Pr) (f y d : Nat) : Prop := Wy ps f d y ∧ ∀ k, Wy ps f k y → d ≤ k
theorem Ds.uniq {ps : List Pr} {f y d e : Nat} (h : Ds ps f y d) (k : Ds ps f y e) : d = e := by
  have := h.2 _ k.1
  have := k.2 _ h.1
  omega
theorem Ds.self (ps : List Pr) (f : Nat) : Ds ps f f 0 := ⟨.nil, fun k _ => Nat.zero_le _⟩
theorem Ds.zero {ps : List Pr} {f y : Nat} (h : Ds ps f y 0) : y = f := by
  cases h.1
  rfl
/-- one step along a shortest way -/
theorem Ds.next {ps : List Pr} {f y d : Nat} (h : Ds ps f y (d + 1)) : ∃ z, Eg ps y z ∧ Ds ps f z d := by
  cases h.1 with
  | cons e k =>
    refine ⟨_, e, k, fun j hj => ?_⟩
    have := h.2 _ (.cons e hj)
    omega
theorem Wy.ds {ps : List Pr} {f k y : Nat} (h : Wy ps f k y) : ∃ d, d ≤ k ∧ Ds ps f y d := by
  induction k using Nat.strongRecOn with
  | ind k ih =>
    by_cases h1 : ∃ j, j < k ∧ Wy ps f j y
    · obtain ⟨j, hj, hw⟩ := h1
      obtain ⟨d, hd, hs⟩ := ih j hj hw
      exact ⟨d, by omega, hs⟩
    · refine ⟨k, Nat.le_refl _, h, fun j hj => ?_⟩
      by_cases h2 : j < k
      · exact absurd ⟨j, h2, hj⟩ h1
      · omega
/-- breadth first: the distances F, the queue q, the place i in it; dn: what is done of the one at i -/
structure Bq (ps : List Pr) (n f : Nat) (F : Nat → Nat) (q : List Nat) (i : Nat) (dn : Nat → Prop) : Prop where
  nod : q.Nodup
  rng : ∀ y ∈ q, y < n
  fst : f ∈ q
  zer : F f = 0
  mkd : ∀ y, y < n → (y ∈ q ↔ F y ≠ n)
  wy : ∀ y ∈ q, Wy ps f (F y) y
  srt : q.Pairwise fun a b => F a ≤ F b
  lea : ∀ (a : Nat) y, q[a]? = some y → F y ≤ a
  top : ∀ x, q[i]? = some x → ∀ y ∈ q, F y ≤ F x + 1
  old : ∀ (a : Nat) x, a < i → q[a]? = some x → ∀ y, Eg ps y x → y ∈ q ∧ F y ≤ F x + 1
  cur : ∀ x, q[i]? = some x → ∀ y, dn y → y ∈ q ∧ F y ≤ F x + 1
theorem Bq.start {ps : List Pr} {n f : Nat} (hf : f < n) : Bq ps n f (fun y => if y = f then 0 else n) [f] 0 (fun _ => False) := by
  refine ⟨by simp, fun y hy => ?_, by simp, by simp, fun y hy => ?_, fun y hy => ?_, by simp, fun a y h => ?_, fun x hx y hy => ?_, fun a x ha => by omega, fun x hx y h => h.elim⟩
  · rw [List.mem_singleton] at hy; subst hy; exact hf
  · rw [List.mem_singleton]
    by_cases e : y = f
    · subst e; simp; omega
    · simp [e]
  · rw [List.mem_singleton] at hy; subst hy; simp; exact .nil
  · have h1 := List.mem_of_getElem? h
    rw [List.mem_singleton] at h1; subst h1; simp
  · rw [List.mem_singleton] at hy; subst hy; simp
theorem Bq.few {ps : List Pr} {n f i : Nat} {F : Nat → Nat} {q : List Nat} {dn : Nat → Prop} (h : Bq ps n f F q i dn) : q.length ≤ n := nodup_le0 n q h.nod h.rng
theorem Bq.have {ps : List Pr} {n f i y : Nat} {F : Nat → Nat} {q : List Nat} {dn : Nat → Prop} (h : Bq ps n f F q i dn) (hy : y < n) (hF : F y ≠ n) : Bq ps n f F q i (fun z => dn z ∨ z = y) :=
  ⟨h.nod, h.rng, h.fst, h.zer, h.mkd, h.wy, h.srt, h.lea, h.top, h.old, fun x hx z hz => hz.elim (h.cur x hx z) fun e => by subst e; exact ⟨(h.mkd z hy).2 hF, h.top x hx z ((h.mkd z hy).2 hF)⟩⟩
theorem Bq.new {ps : List Pr} {n f i x y : Nat} {F : Nat → Nat} {q : List Nat} {dn : Nat → Prop} (h : Bq ps n f F q i dn) (hx : q[i]? = some x) (hy : y < n) (hF : F y = n) (he : Eg ps y x) : F x + 1 < n ∧ q.length < n ∧ Bq ps n f (fun z => if z = y then F x + 1 else F z) (q ++ [y]) i (fun z => dn z ∨ z = y) := by
  have hyq : y ∉ q := fun hm => (h.mkd y hy).1 hm hF
  have hil := (List.getElem?_eq_some_iff.1 hx).1
  have hF' : ∀ z ∈ q, (if z = y then F x + 1 else F z) = F z := fun z hz => by rw [if_neg]; intro e; subst e; exact hyq hz
  have hxq := List.mem_of_getElem? hx
  have hnd : (q ++ [y]).Nodup := by
    rw [List.nodup_append]
    exact ⟨h.nod, by simp, fun a ha b hb e => hyq (by rw [List.mem_singleton] at hb; rw [← hb, ← e]; exact ha)⟩
  have hrg : ∀ z ∈ q ++ [y], z < n := fun z hz => (List.mem_append.1 hz).elim (h.rng z) fun e => by rw [List.mem_singleton] at e; subst e; exact hy
  have hlen := nodup_le0 n _ hnd hrg
  rw [List.length_append, List.length_singleton] at hlen
  have hFx := h.lea i x hx
  refine ⟨by omega, by omega, hnd, hrg, List.mem_append_left _ h.fst, by rw [hF' f h.fst]; exact h.zer, fun z hz => ?_, fun z hz => ?_, ?_, fun a z ha => ?_, fun x' hx' z hz => ?_, fun a x' ha hx' z hz => ?_, fun x' hx' z hz => ?_⟩
  · rw [List.mem_append, List.mem_singleton, h.mkd z hz]
    by_cases e : z = y
    · subst e; simp; omega
    · simp [e]
  · rcases List.mem_append.1 hz with hz | hz
    · rw [hF' z hz]; exact h.wy z hz
    · rw [List.mem_singleton] at hz; subst hz; rw [if_pos rfl]; exact .cons he (h.wy x hxq)
  · rw [List.pairwise_append]
    refine ⟨h.srt.imp_of_mem fun {a b} ha hb hab => by rw [hF' a ha, hF' b hb]; exact hab, by simp, fun a ha b hb => ?_⟩
    rw [List.mem_singleton] at hb
    subst hb
    rw [hF' a ha, if_pos rfl]
    exact h.top x hx a ha
  · by_cases hal : a < q.length
    · rw [List.getElem?_append_left hal] at ha
      rw [hF' z (List.mem_of_getElem? ha)]
      exact h.lea a z ha
    · rw [List.getElem?_append_right (by omega)] at ha
      have hz := List.mem_of_getElem? ha
      rw [List.mem_singleton] at hz
      subst hz
      rw [if_pos rfl]
      omega
  · rw [List.getElem?_append_left hil] at hx'
    have exx : x' = x := by rw [hx] at hx'; injection hx' with e; exact e.symm
    subst exx
    rw [hF' x' hxq]
    rcases List.mem_append.1 hz with hz | hz
    · rw [hF' z hz]; exact h.top x' hx z hz
    · rw [List.mem_singleton] at hz; subst hz; rw [if_pos rfl]; exact Nat.le_refl _
  · rw [List.getElem?_append_left (by omega)] at hx'
    obtain ⟨h1, h2⟩ := h.old a x' ha hx' z hz
    rw [hF' z h1, hF' x' (List.mem_of_getElem? hx')]
    exact ⟨List.mem_append_left _ h1, h2⟩
  · rw [List.getElem?_append_left hil] at hx'
    have exx : x' = x := by rw [hx] at hx'; injection hx' with e; exact e.symm
    subst exx
    rw [hF' x' hxq]
    rcases hz with hz | hz
    · obtain ⟨h1, h2⟩ := h.cur x' hx z hz
      rw [hF' z h1]
      exact ⟨List.mem_append_left _ h1, h2⟩
    · subst hz
      rw [if_pos rfl]
      exact ⟨by simp, Nat.le_refl _⟩
theorem Bq.next {ps : List Pr} {n f i x : Nat} {F : Nat → Nat} {q : List Nat} {dn : Nat → Prop} (h : Bq ps n f F q i dn) (hx : q[i]? = some x) (hd : ∀ y, Eg ps y x → dn y) : Bq ps n f F q (i + 1) (fun _ => False) := by
  refine ⟨h.nod, h.rng, h.fst, h.zer, h.mkd, h.wy, h.srt, h.lea, fun x' hx' y hy => ?_, fun a x' ha hx' y hy => ?_, fun x hx y hy => hy.elim⟩
  · have h1 := h.top x hx y hy
    obtain ⟨l1, e1⟩ := List.getElem?_eq_some_iff.1 hx
    obtain ⟨l2, e2⟩ := List.getElem?_eq_some_iff.1 hx'
    have h2 := List.pairwise_iff_getElem.1 h.srt i (i + 1) l1 l2 (by omega)
    rw [e1, e2] at h2
    omega
  · by_cases e : a = i
    · subst e
      have exx : x' = x := by rw [hx] at hx'; injection hx' with e; exact e.symm
      subst exx
      exact h.cur x' hx y (hd y hy)
    · exact h.old a x' (by omega) hx' y hy
/-- the distances to f: n where there is no way -/
structure Fr (ps : List Pr) (n f : Nat) (F : Nat → Nat) : Prop where
  ds : ∀ y, y < n → F y ≠ n → Ds ps f y (F y)
  wy : ∀ y k, Wy ps f k y → y < n ∧ F y < n
  le : ∀ y, y < n → F y ≤ n
theorem Bq.done {ps : List Pr} {n f : Nat} {F : Nat → Nat} {q : List Nat} {dn : Nat → Prop} (h : Bq ps n f F q q.length dn) : Fr ps n f F := by
  have key : ∀ k y, Wy ps f k y → y ∈ q ∧ F y ≤ k := by
    intro k y hw
    induction hw with
    | nil => exact ⟨h.fst, by rw [h.zer]; exact Nat.le_refl _⟩
    | cons e _ ih =>
      obtain ⟨h1, h2⟩ := ih
      obtain ⟨a, ha⟩ := List.getElem?_of_mem h1
      obtain ⟨h3, h4⟩ := h.old a _ (List.getElem?_eq_some_iff.1 ha).1 ha _ e
      exact ⟨h3, by omega⟩
  have hlt : ∀ y ∈ q, F y < n := fun y hy => by
    obtain ⟨a, ha⟩ := List.getElem?_of_mem hy
    have h1 := h.lea a y ha
    have h2 := (List.getElem?_eq_some_iff.1 ha).1
    have h3 := h.few
    omega
  refine ⟨fun y hy hF => ⟨h.wy y ((h.mkd y hy).2 hF), fun k hk => (key k y hk).2⟩, fun y k hk => ⟨h.rng y (key k y hk).1, hlt y (key k y hk).1⟩, fun y hy => ?_⟩
  by_cases e : F y = n
  · omega
  · have := hlt y ((h.mkd y hy).2 e)
    omega
/-- the nearest that is needed, the lowest of them -/
def Nst (ps : List Pr) (f x y : Nat) : Prop := Eg ps x y ∧ ∃ d, Ds ps f y d ∧ ∀ z e, Eg ps x z → Ds ps f z e → d ≤ e ∧ (e = d → y ≤ z)
theorem Nst.uniq {ps : List Pr} {f x y z : Nat} (h : Nst ps f x y) (k : Nst ps f x z) : y = z := by
  obtain ⟨h1, d, h2, h3⟩ := h
  obtain ⟨k1, e, k2, k3⟩ := k
  have a := h3 z e k1 k2
  have b := k3 y d h1 h2
  have := a.2 (by omega)
  have := b.2 (by omega)
  omega
/-- the way on from x back to f -/
inductive Cyc (ps : List Pr) (f : Nat) : Nat → List Int → Prop
  | fin {x : Nat} : Nst ps f x f → Cyc ps f x []
  | more {x y : Nat} {l : List Int} : Nst ps f x y → y ≠ f → Cyc ps f y l → Cyc ps f x ((y : Int) :: l)
theorem Cyc.uniq {ps : List Pr} {f x : Nat} {l : List Int} (h : Cyc ps f x l) : ∀ {m : List Int}, Cyc ps f x m → l = m := by
  induction h with
  | fin h =>
    intro m k
    cases k with
    | fin _ => rfl
    | more k1 k2 _ => exact absurd (h.uniq k1).symm k2
  | more h1 h2 _ ih =>
    intro m k
    cases k with
    | fin k1 => exact absurd (h1.uniq k1) h2
    | more k1 k2 k3 =>
      have e := h1.uniq k1
      subst e
      rw [ih k3]
/-- the first of the nearest among a rising list -/
theorem Fr.nst {ps : List Pr} {n f x y : Nat} {F : Nat → Nat} {l : List Int} (hF : Fr ps n f F) (hl : ∀ z, z ∈ l ↔ (⟨(x : Int), z⟩ : Pr) ∈ ps) (hy : (y : Int) ∈ l) (hyn : y < n) (hm : ∀ z : Nat, (z : Int) ∈ l → F y ≤ F z ∧ (F z = F y → y ≤ z)) (hw : ∃ z k, Eg ps x z ∧ Wy ps f k z) : Nst ps f x y ∧ Ds ps f y (F y) := by
  obtain ⟨z, k, hz, hk⟩ := hw
  have h1 := (hF.wy z k hk).2
  have h2 := (hm z ((hl _).2 hz)).1
  have h3 := hF.ds y hyn (by omega)
  refine ⟨⟨(hl _).1 hy, F y, h3, fun z e hz he => ?_⟩, h3⟩
  have h4 := hm z ((hl _).2 hz)
  have h5 := hF.wy z _ he.1
  have := (hF.ds z h5.1 (by omega)).uniq he
  rw [this] at h4
  exact h4
end Go.Proofs.Ytgijcbipnjmhgaa

namespace Go.Proofs.Ytgijcbipnjmhgaa
set_option linter.unusedVariables false
set_option linter.unusedSimpArgs false

theorem Rch.mono {ps qs : List Pr} (h : ∀ p ∈ ps, p ∈ qs) {x y : Nat} (k : Rch ps x y) : Rch qs x y := by
  induction k with
  | refl x => exact .refl x
  | step e _ ih => exact .step (h _ e) ih
theorem CL.congr {ss tt : List Pr} {n : Nat} {l : List Int} (h : CL ss n l) (h1 : ∀ p, p ∈ ss ↔ p ∈ tt) : CL tt n l :=
  ⟨h.1, fun y hy => by
    obtain ⟨r, a, b, c⟩ := h.2 y hy
    exact ⟨r, a, b.mono (fun p hp => (h1 p).1 hp), fun z hz => c z (hz.mono (fun p hp => (h1 p).2 hp))⟩⟩
/-- pairs turned round, the last first -/
def tvd (ps : List Pr) : List Pr := (ps.map swapP).reverse
theorem both_tvd (ps : List Pr) (p : Pr) : p ∈ both (tvd ps) ↔ p ∈ both ps := by
  obtain ⟨a, b⟩ := p
  have key : ∀ a b : Int, (⟨a, b⟩ : Pr) ∈ tvd ps ↔ (⟨b, a⟩ : Pr) ∈ ps := fun a b => by
    unfold tvd
    rw [List.mem_reverse]
    exact trn_swap ps a b
  rw [both_mem, both_mem, key, key]
  exact ⟨Or.symm, Or.symm⟩
theorem both_app (ps : List Pr) (a b : Nat) {x y : Nat} (h : Eg (both (ps ++ [(⟨(a : Int), (b : Int)⟩ : Pr)])) x y) : Eg (both ps) x y ∨ (x = a ∧ y = b) ∨ (x = b ∧ y = a) := by
  unfold Eg at h ⊢
  rw [both_mem] at h ⊢
  simp only [List.mem_append, List.mem_singleton, Pr.mk.injEq] at h
  rcases h with (h | h) | (h | h)
  · exact .inl (.inl h)
  · exact .inr (.inl (by omega))
  · exact .inl (.inr h)
  · exact .inr (.inr (by omega))
/-- labels: one class, one label -/
theorem CL.same {ps : List Pr} {n : Nat} {l : List Int} (h : CL (both ps) n l) {x y : Nat} (hx : x < n) (hy : y < n) (hr : Rch (both ps) x y) : l[x]? = l[y]? := by
  obtain ⟨r, h1, h2, h3⟩ := h.2 x hx
  obtain ⟨s, k1, k2, k3⟩ := h.2 y hy
  have := h3 s (hr.trans k2)
  have := k3 r (hr.symm.trans h2)
  rw [h1, k1, show r = s by omega]
theorem CL.iff {ps : List Pr} {n : Nat} {l : List Int} (h : CL (both ps) n l) {x y r s : Nat} (hx : x < n) (hy : y < n) (h1 : l[x]? = some (r : Int)) (k1 : l[y]? = some (s : Int)) : r = s ↔ Rch (both ps) x y := by
  constructor
  · rintro rfl
    obtain ⟨r', a1, a2, a3⟩ := h.2 x hx
    obtain ⟨s', b1, b2, b3⟩ := h.2 y hy
    rw [h1] at a1
    rw [k1] at b1
    injection a1 with a1
    injection b1 with b1
    have e1 : r' = r := by omega
    have e2 : s' = r := by omega
    subst e1
    rw [e2] at b2
    exact a2.trans b2.symm
  · intro hr
    have := h.same hx hy hr
    rw [h1, k1] at this
    injection this with this
    omega
/-- a label is its own label, and no greater than what bears it -/
theorem CL.low {ps : List Pr} {n : Nat} {l : List Int} (h : CL (both ps) n l) {x r : Nat} (hx : x < n) (h1 : l[x]? = some (r : Int)) : r ≤ x ∧ l[r]? = some (r : Int) := by
  obtain ⟨r', a1, a2, a3⟩ := h.2 x hx
  rw [h1] at a1
  injection a1 with a1
  have e1 : r' = r := by omega
  subst e1
  have hle := a3 x (.refl _)
  refine ⟨hle, ?_⟩
  rw [← h.same hx (by omega) a2, h1]
/-- one tie more: what can be come to -/
theorem rch_more {ps : List Pr} {a b x y : Nat} (h : Rch (both (ps ++ [(⟨(a : Int), (b : Int)⟩ : Pr)])) x y) : Rch (both ps) x y ∨ ((Rch (both ps) x a ∨ Rch (both ps) x b) ∧ (Rch (both ps) y a ∨ Rch (both ps) y b)) := by
  induction h with
  | refl x => exact .inl (.refl x)
  | step e _ ih =>
    rename_i x y z _
    rcases both_app ps a b e with e | ⟨rfl, rfl⟩ | ⟨rfl, rfl⟩
    · have hxy : Rch (both ps) x y := .step e (.refl _)
      rcases ih with ih | ⟨h1, h2⟩
      · exact .inl (hxy.trans ih)
      · exact .inr ⟨h1.imp hxy.trans hxy.trans, h2⟩
    · rcases ih with ih | ⟨h1, h2⟩
      · exact .inr ⟨.inl (.refl _), .inr ih.symm⟩
      · exact .inr ⟨.inl (.refl _), h2⟩
    · rcases ih with ih | ⟨h1, h2⟩
      · exact .inr ⟨.inr (.refl _), .inl ih.symm⟩
      · exact .inr ⟨.inr (.refl _), h2⟩
theorem rch_up {ps : List Pr} {a b x y : Nat} (h : Rch (both ps) x y) : Rch (both (ps ++ [(⟨(a : Int), (b : Int)⟩ : Pr)])) x y := h.mono fun p hp => by
  obtain ⟨u, v⟩ := p
  rw [both_mem] at hp ⊢
  exact hp.imp (List.mem_append_left _) (List.mem_append_left _)
theorem rch_ab (ps : List Pr) (a b : Nat) : Rch (both (ps ++ [(⟨(a : Int), (b : Int)⟩ : Pr)])) a b := .step (both_mem.2 (.inl (by simp))) (.refl _)
/-- one tie more joins just two classes -/
theorem CL.more {ps : List Pr} {n a b : Nat} {l m : List Int} (h : CL (both ps) n l) (k : CL (both (ps ++ [(⟨(a : Int), (b : Int)⟩ : Pr)])) n m) (ha : a < n) (hb : b < n) {la lb : Nat} (hla : l[a]? = some (la : Int)) (hlb : l[b]? = some (lb : Int)) {i x : Nat} (hi : i < n) (hx : l[i]? = some (x : Int)) : m[i]? = some (if x = la ∨ x = lb then ((min la lb : Nat) : Int) else (x : Int)) := by
  obtain ⟨r, h1, h2, h3⟩ := k.2 i hi
  have low : ∀ {y s : Nat}, y < n → l[y]? = some (s : Int) → Rch (both ps) y s ∧ ∀ z, Rch (both ps) y z → s ≤ z := fun {y s} hy e => by
    obtain ⟨s', a1, a2, a3⟩ := h.2 y hy
    rw [e] at a1
    injection a1 with a1
    have e1 : s' = s := by omega
    subst e1
    exact ⟨a2, a3⟩
  obtain ⟨ra, qa⟩ := low ha hla
  obtain ⟨rb, qb⟩ := low hb hlb
  obtain ⟨rx, qx⟩ := low hi hx
  rw [h1]
  congr 1
  by_cases hc : x = la ∨ x = lb
  · rw [if_pos hc]
    have hia : Rch (both ps) i a ∨ Rch (both ps) i b := hc.imp (fun e => (h.iff hi ha hx hla).1 e) (fun e => (h.iff hi hb hx hlb).1 e)
    have up : Rch (both (ps ++ [(⟨(a : Int), (b : Int)⟩ : Pr)])) i la ∧ Rch (both (ps ++ [(⟨(a : Int), (b : Int)⟩ : Pr)])) i lb := by
      rcases hia with e | e
      · exact ⟨rch_up (e.trans ra), ((rch_up e).trans (rch_ab ps a b)).trans (rch_up rb)⟩
      · exact ⟨((rch_up e).trans (rch_ab ps a b).symm).trans (rch_up ra), rch_up (e.trans rb)⟩
    have l1 := h3 la up.1
    have l2 := h3 lb up.2
    have l3 : la ≤ r ∨ lb ≤ r := by
      rcases rch_more h2 with e | ⟨-, e⟩
      · rcases hia with f | f
        · exact .inl (qa r (f.symm.trans e))
        · exact .inr (qb r (f.symm.trans e))
      · exact e.imp (fun f => qa r f.symm) (fun f => qb r f.symm)
    omega
  · rw [if_neg hc]
    have hna : ¬ Rch (both ps) i a := fun e => hc (.inl ((h.iff hi ha hx hla).2 e))
    have hnb : ¬ Rch (both ps) i b := fun e => hc (.inr ((h.iff hi hb hx hlb).2 e))
    have l1 := h3 x (rch_up rx)
    have l2 : x ≤ r := by
      rcases rch_more h2 with e | ⟨e, -⟩
      · exact qx r e
      · exact (e.elim hna hnb).elim
    omega
theorem Sam.both {ps : List Pr} {x y : Nat} (h : Sam ps x y) : Rch (both ps) x y := h.1.mono fun p hp => by
  obtain ⟨u, v⟩ := p
  exact both_mem.2 (.inl hp)
end Go.Proofs.Ytgijcbipnjmhgaa

namespace Go.Proofs.Ytgijcbipnjmhgaa
open Go.ChangeShapes Go.WideShapes Go.ChangeAt Go.RowKit
set_option linter.unusedVariables false
set_option linter.unusedSimpArgs false

/-- a row of ints of the call's own, from some place of its block on -/
def Qu (B : Nat) (w : World) (v : Value) (xs : List Nat) : Prop := ∃ g off cap cur, v = .slice (some ⟨g, off, none⟩) xs.length cap ∧ B ≤ g ∧ w.heap[g]? = some (.cells cur 3 (0, 0)) ∧ xs.length ≤ cap ∧ off + cap ≤ cur.size ∧ ∀ (j x : Nat), xs[j]? = some x → cur[off + j]? = some (.int .i64 (x : Int))
theorem cell_cur {w : World} {g i : Nat} {cur : Array Value} {e : TypeId} (h : w.heap[g]? = some (.cells cur e (0, 0))) : w.cell? ⟨g, i, none⟩ = cur[i]? ∧ w.frozen? ⟨g, i, none⟩ = false := by
  simp [World.cell?, World.frozen?, h]
theorem Qu.below {B C : Nat} {w w' : World} {v : Value} {xs : List Nat} (h : Qu B w v xs) (hb : Below C w w') (hC : w.heap.size ≤ C) : Qu B w' v xs := by
  obtain ⟨g, off, cap, cur, h1, h2, h3, h4, h5, h6⟩ := h
  exact ⟨g, off, cap, cur, h1, h2, (hb.block g (Nat.lt_of_lt_of_le (lt_of_block h3) hC)).trans h3, h4, h5, h6⟩
/-- another block is written -/
theorem Qu.far {B g i : Nat} {w : World} {v x : Value} {xs : List Nat} {cs : Array Value} {t : TypeId} {fz : Nat × Nat} (h : Qu B w v xs) (hg : w.heap[g]? = some (.cells cs t fz)) (ht : t ≠ 3) : Qu B (w.setCell ⟨g, i, none⟩ x) v xs := by
  obtain ⟨g1, off, cap, cur, h1, h2, h3, h4, h5, h6⟩ := h
  have hne : g1 ≠ g := fun e => by rw [e, hg] at h3; cases h3; exact ht rfl
  exact ⟨g1, off, cap, cur, h1, h2, (heap_setCell_other w ⟨g, i, none⟩ g1 x hne).trans h3, h4, h5, h6⟩
theorem Qu.first (B : Nat) (w : World) (x : Nat) (hB : B ≤ w.heap.size) : Qu B (w.alloc (.cells #[.int .i64 (x : Int)] 3)) (.slice (some ⟨w.heap.size, 0, none⟩) 1 1) [x] :=
  ⟨w.heap.size, 0, 1, _, rfl, hB, heap_alloc_new w _, Nat.le_refl _, Nat.le_refl _, fun j y hj => by
    cases j with
    | zero => simp at hj; subst hj; rfl
    | succ j => simp at hj⟩
/-- the first one is taken off -/
theorem Qu.pop {B : Nat} {w : World} {v : Value} {x : Nat} {xs : List Nat} (h : Qu B w v (x :: xs)) : ∃ g off cap, v = .slice (some ⟨g, off, none⟩) (xs.length + 1) cap ∧ xs.length + 1 ≤ cap ∧ w.cell? ⟨g, off, none⟩ = some (.int .i64 (x : Int)) ∧ (cap = 1 → Qu B w (.slice (some ⟨g, off, none⟩) xs.length 0) xs) ∧ Qu B w (.slice (some ⟨g, off + 1, none⟩) xs.length (cap - 1)) xs := by
  obtain ⟨g, off, cap, cur, h1, h2, h3, h4, h5, h6⟩ := h
  simp only [List.length_cons] at h1 h4
  refine ⟨g, off, cap, h1, h4, ?_, fun hc => ?_, ⟨g, off + 1, cap - 1, cur, rfl, h2, h3, by omega, by omega, fun j y hj => ?_⟩⟩
  · rw [(cell_cur h3).1]
    exact h6 0 x rfl
  · have hx : xs = [] := List.eq_nil_of_length_eq_zero (by omega)
    subst hx
    exact ⟨g, off, 0, cur, rfl, h2, h3, Nat.le_refl _, by omega, fun j y hj => by cases hj⟩
  · have := h6 (j + 1) y (by simpa using hj)
    rw [show off + 1 + j = off + (j + 1) by omega]
    exact this
/-- one more at the end, for the walk -/
theorem wpList_que {P : Program} (w : World) {ops : Array Oper} {rest : List Oper} {o : Oper} {a : Act} {Q : Exit → Act → World → Prop}
    (hg : o.guard = none) (s x : Operand) (t : TypeId) (hop : o.op = Op.call { callee := Callee.builtin Builtin.append, args := #[s, x], argTypes := #[t, t] })
    (i : TypeInfo) (z : Value) (h1 : P.underlying t = some (.slice 3)) (h2 : P.info? 3 = some i) (h3 : i.zero = some z) (h4 : i.size = 1) (h5 : i.bytes = 8) (h6 : z.cells.size = 1)
    (B : Nat) (v : Value) (xs : List Nat) (y : Nat) (hs : a.eval s = v) (hq : Qu B w v xs) (hB : B ≤ w.heap.size) (ad : Addr) (hx : a.eval x = .slice (some ad) 1 1) (hc : w.cell? ad = some (.int .i64 (y : Int))) (hl : xs.length ≤ 131072)
    (hK : ∀ v' w', Qu B w' v' (xs ++ [y]) → w.grownBy w' v.ownBlock → wpList P ops Q rest (a.put o.dst v') w') : wpList P ops Q (o :: rest) a w := by
  obtain ⟨g, off, cap, cur, rfl, hgB, hh, hle, hsz, hel⟩ := hq
  have hadd : ∀ j u, [Value.int .i64 (y : Int)][j]? = some u → w.cell? (ad.add j) = some u := fun j u hj => by
    cases j with
    | zero => simp at hj; subst hj; unfold Addr.add; simpa using hc
    | succ j => simp at hj
  refine wpList_append_arg w hg s x t hop 3 i z 1 8 h1 h2 h3 h4 h5 h6 (by decide) g off xs.length cap (xs.map fun (x : Nat) => Value.int .i64 (x : Int)) hs (by simp) (fun j u hj => ?_) ad 1 1 [Value.int .i64 (y : Int)] hx rfl hadd (by intro u hu; simp at hu; subst hu; rfl) (fun hr j hj => ?_) (by unfold maxLen; omega) (by omega) (fun hr => ?_) (fun hr v' w' hown hgr => ?_)
  · rw [List.getElem?_map] at hj
    obtain ⟨x1, hx1, rfl⟩ := Option.map_eq_some_iff.1 hj
    rw [(cell_cur hh).1]
    exact hel j x1 hx1
  · have hj0 : j = 0 := by simp at hj; exact hj
    subst hj0
    rw [(cell_cur hh).1, (cell_cur hh).2]
    exact ⟨by rw [Array.getElem?_eq_getElem (by omega)]; rfl, rfl⟩
  · refine hK _ _ ⟨g, off, cap, (cur.setIfInBounds (off + xs.length) (.int .i64 (y : Int))), by simp, hgB, ?_, by simp; omega, by simp; omega, fun j x1 hj => ?_⟩ ⟨rfl, rfl, rfl, by simp [World.setCells, World.setCell], fun k hk hne => ?_⟩
    · show (w.setCell ⟨g, off + xs.length * 1, none⟩ _).heap[g]? = _
      rw [Nat.mul_one]
      have := heap_setCell_same w g (off + xs.length) _ _ (.int .i64 (y : Int)) hh
      simpa using this
    · by_cases hjl : j < xs.length
      · rw [List.getElem?_append_left hjl] at hj
        rw [Array.getElem?_setIfInBounds, if_neg (by omega)]
        exact hel j x1 hj
      · rw [List.getElem?_append_right (by omega)] at hj
        have hj0 : j = xs.length := by
          have := (List.getElem?_eq_some_iff.1 hj).1
          simp at this
          omega
        subst hj0
        simp at hj
        subst hj
        rw [Array.getElem?_setIfInBounds, if_pos rfl, if_pos (by omega)]
    · show (w.setCell ⟨g, off + xs.length * 1, none⟩ _).heap[k]? = _
      exact heap_setCell_other w _ k _ (fun e => hne (by rw [e]; rfl))
  · refine hK v' w' ?_ ⟨hgr.os, hgr.tape, hgr.output, hgr.size, fun k hk _ => hgr.block k hk (by simp)⟩
    rcases hown.2 with ⟨_, h0⟩ | ⟨g', cap', cur', rfl, hb', hh', hn', hc', hs', ht'⟩
    · omega
    · refine ⟨g', 0, cap', cur', by simp, Nat.le_trans hB hb', hh', by simpa using hn', by omega, fun j x1 hj => ?_⟩
      have hjl := (List.getElem?_eq_some_iff.1 hj).1
      simp only [List.length_append, List.length_cons, List.length_nil] at hjl
      have h9 : (cur'.toList.take ((xs.length + 1) * 1))[j]? = ((xs.map fun (x : Nat) => Value.int .i64 (x : Int)) ++ [Value.int .i64 (y : Int)])[j]? := by rw [ht']
      rw [List.getElem?_take, if_pos (by omega)] at h9
      rw [Nat.zero_add, ← Array.getElem?_toList, h9]
      have h8 : ((xs.map fun (x : Nat) => Value.int .i64 (x : Int)) ++ [Value.int .i64 (y : Int)]) = (xs ++ [y]).map fun (x : Nat) => Value.int .i64 (x : Int) := by simp
      rw [h8, List.getElem?_map, hj]
      rfl
end Go.Proofs.Ytgijcbipnjmhgaa

namespace Go.Proofs.Ytgijcbipnjmhgaa
open Go.ChangeShapes Go.WideShapes Go.ChangeAt Go.RowKit
set_option linter.unusedVariables false
set_option linter.unusedSimpArgs false

/-- a search from x0: marks m, a queue q; P: what is being looked at -/
structure Bf (ps : List Pr) (n x0 : Nat) (P : Nat → Prop) (m : List Bool) (q : List Nat) : Prop where
  len : m.length = n
  start : m[x0]? = some true
  qm : ∀ y ∈ q, m[y]? = some true
  reach : ∀ y : Nat, m[y]? = some true → Rch ps x0 y
  closed : ∀ y y' : Nat, m[y]? = some true → y ∉ q → ¬ P y → (⟨(y : Int), (y' : Int)⟩ : Pr) ∈ ps → m[y']? = some true
theorem set_true {m : List Bool} {x y : Nat} : (m.set x true)[y]? = some true ↔ m[y]? = some true ∨ (y = x ∧ x < m.length) := by
  rw [List.getElem?_set]
  by_cases h : x = y
  · subst h
    rw [if_pos rfl]
    by_cases h2 : x < m.length
    · rw [if_pos h2]; simp [h2]
    · rw [if_neg h2]
      constructor
      · intro h; cases h
      · rintro (h | h)
        · exact absurd (List.getElem?_eq_some_iff.1 h).1 h2
        · exact absurd h.2 h2
  · rw [if_neg h]
    constructor
    · exact .inl
    · rintro (h1 | ⟨h1, _⟩)
      · exact h1
      · exact absurd h1.symm h
theorem Bf.first {ps : List Pr} {n x0 : Nat} (hx : x0 < n) : Bf ps n x0 (fun _ => False) ((List.replicate n false).set x0 true) [x0] := by
  have h0 : ∀ y : Nat, ((List.replicate n false).set x0 true)[y]? = some true → y = x0 := fun y hy => by
    rcases set_true.1 hy with h | h
    · rw [List.getElem?_replicate] at h
      split at h
      · cases h
      · cases h
    · exact h.1
  refine ⟨by simp, set_true.2 (.inr ⟨rfl, by simpa using hx⟩), fun y hy => ?_, fun y hy => ?_, fun y y' hy hq _ _ => ?_⟩
  · rw [List.mem_singleton] at hy; subst hy; exact set_true.2 (.inr ⟨rfl, by simpa using hx⟩)
  · rw [h0 y hy]; exact .refl _
  · exact absurd (h0 y hy) (by simpa using hq)
theorem Bf.pop {ps : List Pr} {n x0 x : Nat} {m : List Bool} {q : List Nat} (h : Bf ps n x0 (fun _ => False) m (x :: q)) : Bf ps n x0 (fun y => y = x) m q :=
  ⟨h.len, h.start, fun y hy => h.qm y (List.mem_cons_of_mem _ hy), h.reach, fun y y' hy hq hP he => h.closed y y' hy (fun hc => by rcases List.mem_cons.1 hc with hc | hc; exact hP hc; exact hq hc) id he⟩
theorem Bf.push {ps : List Pr} {n x0 x y : Nat} {m : List Bool} {q : List Nat} (h : Bf ps n x0 (fun y => y = x) m q) (hx : m[x]? = some true) (hy : m[y]? = some false) (he : (⟨(x : Int), (y : Int)⟩ : Pr) ∈ ps) : Bf ps n x0 (fun y => y = x) (m.set y true) (q ++ [y]) := by
  have hl := (List.getElem?_eq_some_iff.1 hy).1
  refine ⟨by rw [List.length_set]; exact h.len, set_true.2 (.inl h.start), fun z hz => ?_, fun z hz => ?_, fun z z' hz hq hP hzz => ?_⟩
  · rcases List.mem_append.1 hz with hz | hz
    · exact set_true.2 (.inl (h.qm z hz))
    · rw [List.mem_singleton] at hz; subst hz; exact set_true.2 (.inr ⟨rfl, hl⟩)
  · rcases set_true.1 hz with hz | hz
    · exact h.reach z hz
    · rw [hz.1]; exact (h.reach x hx).trans (.step he (.refl _))
  · rw [List.mem_append, not_or, List.mem_singleton] at hq
    rcases set_true.1 hz with hz | hz
    · exact set_true.2 (.inl (h.closed z z' hz hq.1 hP hzz))
    · exact absurd hz.1 hq.2
theorem Bf.done {ps : List Pr} {n x0 x : Nat} {m : List Bool} {q : List Nat} (h : Bf ps n x0 (fun y => y = x) m q) (hd : ∀ y' : Nat, (⟨(x : Int), (y' : Int)⟩ : Pr) ∈ ps → m[y']? = some true) : Bf ps n x0 (fun _ => False) m q :=
  ⟨h.len, h.start, h.qm, h.reach, fun y y' hy hq _ he => by
    by_cases e : y = x
    · subst e; exact hd y' he
    · exact h.closed y y' hy hq e he⟩
theorem Bf.fin {ps : List Pr} {n x0 : Nat} {m : List Bool} (h : Bf ps n x0 (fun _ => False) m []) (y : Nat) : m[y]? = some true ↔ Rch ps x0 y := by
  refine ⟨h.reach y, fun hr => ?_⟩
  have fwd : ∀ a b : Nat, Rch ps a b → m[a]? = some true → m[b]? = some true := by
    intro a b hab
    induction hab with
    | refl => exact id
    | step e _ ih => exact fun ha => ih (h.closed _ _ ha (by simp) id e)
  exact fwd x0 y hr h.start
/-- the search's own: its marks and its queue -/
structure Rd (B gm n : Nat) (w : World) (v : Value) (m : List Bool) (q : List Nat) (z : World) : Prop where
  met : z.ownsRow B 4 1 (.slice (some ⟨gm, 0, none⟩) n n) n (m.map Value.bool)
  que : Qu B z v q
  bel : Below B w z
  base : B ≤ z.heap.size
theorem Rd.get {B gm n : Nat} {w z : World} {v : Value} {m : List Bool} {q : List Nat} (h : Rd B gm n w v m q z) {x : Nat} {b : Bool} (hx : m[x]? = some b) : z.cell? ⟨gm, x, none⟩ = some (.bool b) ∧ z.frozen? ⟨gm, x, none⟩ = false := by
  have h1 := h.met.cells rfl x (.bool b) (by rw [List.getElem?_map, hx]; rfl)
  rw [addr_add, Nat.zero_add] at h1
  exact ⟨h1, h.met.frozenAt x⟩
theorem Rd.set {B gm n : Nat} {w z : World} {v : Value} {m : List Bool} {q : List Nat} (h : Rd B gm n w v m q z) (x : Nat) : Rd B gm n w v (m.set x true) q (z.setCell ⟨gm, x, none⟩ (.bool true)) := by
  obtain ⟨c, fz, hh⟩ := row_kindR h.met gm rfl
  refine ⟨?_, h.que.far hh (by decide), h.bel.setCell (p := ⟨gm, x, none⟩) (h.met.lt gm rfl).1 _, by simp; exact h.base⟩
  have := (World.ownsRow.stored h.met x (.bool true)).1
  rw [List.map_set]
  exact this
theorem Rd.below {B gm n : Nat} {w z z' : World} {v : Value} {m : List Bool} {q : List Nat} (h : Rd B gm n w v m q z) (hb : Below z.heap.size z z') : Rd B gm n w v m q z' :=
  ⟨ownsRow_below h.met hb (Nat.le_refl _), h.que.below hb (Nat.le_refl _), h.bel.trans (hb.mono h.base), Nat.le_trans h.base hb.size⟩
theorem Rd.grw {B gm n : Nat} {w z z' : World} {v v' : Value} {m : List Bool} {q q' : List Nat} (h : Rd B gm n w v m q z) (hq : Qu B z' v' q') (hg : z.grownBy z' v.ownBlock) : Rd B gm n w v' m q' z' := by
  obtain ⟨g, off, cap, cur, rfl, hgB, hh, -⟩ := h.que
  refine ⟨own_grwR h.met hg (fun k hk e => ?_), hq, h.bel.grown hg h.base (fun k hk => by cases hk; exact hgB), Nat.le_trans h.base hg.size⟩
  cases hk
  obtain ⟨c, fz, h2⟩ := row_kindR h.met g e
  rw [hh] at h2
  cases h2

set_option maxRecDepth 1000000 in
set_option maxHeartbeats 4000000 in
theorem reached_any (B1 gV n x0 : Nat) (wx w : World) (rs : List Rr) (ps : List Pr) (hn : n ≤ 131072) (hx : x0 < n) (hLw : Lw B1 gV n wx w rs) (hA : Ad .i64 ps rs) (hps : ∀ p ∈ ps, 0 ≤ p.b ∧ p.b < (n : Int)) (hpl : ps.length ≤ 8796093022208) :
    Calls Try.prog 29 #[.int .i64 (n : Int), .slice (some ⟨gV, 0, none⟩) n n, .int .i64 (x0 : Int)] w fun e w' => e = .returned (.slice (some ⟨w.heap.size, 0, none⟩) n n) ∧ Below w.heap.size w w' ∧ ∃ m : List Bool, w'.ownsRow w.heap.size 4 1 (.slice (some ⟨w.heap.size, 0, none⟩) n n) n (m.map Value.bool) ∧ m.length = n ∧ ∀ y : Nat, m[y]? = some true ↔ Rch ps x0 y := by
  obtain ⟨i0, hi0, hz0, hz1, hz2⟩ := info_parts infoBool
  obtain ⟨i1, hi1, hy0, hy1, hy2⟩ := info_parts infoInt
  have HL : Hid (Lw B1 gV n wx w rs) := hLw
  have HA : Hid (Ad .i64 ps rs) := hA
  have HPS : Hid (∀ p ∈ ps, 0 ≤ p.b ∧ p.b < (n : Int)) := hps
  have hx0 : (x0 : Int) < (n : Int) := by omega
  obtain ⟨B, hB⟩ : ∃ B, w.heap.size = B := ⟨_, rfl⟩
  have HBq : Hid (w.heap.size = B) := hB
  clear hLw hA hps hB
  have FST : Hid (∀ w1, w1.ownsRow B 4 1 (.slice (some ⟨B, 0, none⟩) n n) n (List.replicate n (.bool false)) → w.grownBy w1 none → w1.cell? ⟨B, x0, none⟩ = some (.bool false) ∧ w1.frozen? ⟨B, x0, none⟩ = false ∧ (w1.setCell ⟨B, x0, none⟩ (.bool true)).heap.size = w1.heap.size ∧ Rd B B n w (.slice (some ⟨w1.heap.size, 0, none⟩) 1 1) ((List.replicate n false).set x0 true) [x0] ((w1.setCell ⟨B, x0, none⟩ (.bool true)).alloc (.cells #[.int .i64 (x0 : Int)] 3))) := by
    intro w1 ho hg
    have hsz : (w1.setCell ⟨B, x0, none⟩ (.bool true)).heap.size = w1.heap.size := by simp
    have hb1 : Below B w w1 := by rw [← HBq.out]; exact (Below.refl _ w).grown hg (Nat.le_refl _) (fun k h => by cases h)
    have hBs : B ≤ w1.heap.size := by rw [← HBq.out]; exact hg.size
    have ho2 := (World.ownsRow.stored ho x0 (.bool true)).1
    have hb2 : Below (w1.setCell ⟨B, x0, none⟩ (.bool true)).heap.size (w1.setCell ⟨B, x0, none⟩ (.bool true)) ((w1.setCell ⟨B, x0, none⟩ (.bool true)).alloc (.cells #[.int .i64 (x0 : Int)] 3)) := (Below.refl _ _).alloc (Nat.le_refl _) _
    refine ⟨?_, ho.frozenAt x0, hsz, ⟨?_, ?_, ?_, ?_⟩⟩
    · have h1 := ho.cells rfl x0 (.bool false) (by rw [List.getElem?_replicate, if_pos hx])
      rwa [addr_add, Nat.zero_add] at h1
    · have h9 := ownsRow_below ho2 hb2 (Nat.le_refl _)
      rw [List.map_set, List.map_replicate]
      exact h9
    · rw [← hsz]
      exact Qu.first B _ x0 (by rw [hsz]; exact hBs)
    · exact (hb1.setCell (p := ⟨B, x0, none⟩) (Nat.le_refl _) _).trans (hb2.mono (by rw [hsz]; exact hBs))
    · have := hb2.size; rw [hsz] at this; exact Nat.le_trans hBs this
  go_enter Try.func29, Try.ntmps29
  go_upto_region 4 with (at_make; refine wpList_make_full _ rfl _ _ 53 rfl w.heap.size 4 i0 (.bool false) 1 Try.underlying53 hi0 hz0 hz1 _ _ _ _ n rfl rfl rfl rfl (by rw [hz2]; omega) (by unfold maxLen; omega) (Nat.le_refl _) ?_; intro w1 hown1 hgr1; rw [HBq.out] at hown1 ⊢; obtain ⟨cz, fz, szz, hrd⟩ := FST.out w1 (by have h9 := rep_made (.bool false) n; rw [show (Value.bool false).cells = #[.bool false] by rfl] at hown1; rw [h9] at hown1; exact hown1) hgr1; have R1 : Hid (Rd B B n w (.slice (some ⟨w1.heap.size, 0, none⟩) 1 1) ((List.replicate n false).set x0 true) [x0] ((w1.setCell ⟨B, x0, none⟩ (.bool true)).alloc (.cells #[.int .i64 (x0 : Int)] 3))) := hrd; clear hown1 hgr1 hrd)
  go_loopg [8] (unm ((List.replicate n false).set x0 true) + 1) (fun gk s8 wr => ∃ (m : List Bool) (q : List Nat) (v8 : Value), s8 = v8 ∧ gk = unm m + q.length ∧ Rd B B n w v8 m q wr ∧ Bf ps n x0 (fun _ => False) m q ∧ unm m + q.length ≤ 131072)
  case atStart =>
    refine ⟨_, [x0], _, rfl, rfl, R1.out, Bf.first hx, ?_⟩
    have h9 := unm_set (List.replicate n false) x0 (rep_false hx)
    have h8 : unm (List.replicate n false) = n := by simp [unm]
    simp only [List.length_cons, List.length_nil]
    omega
  case round =>
    obtain ⟨m, q, v8, hv8, hgk, hR, hBf, hsum⟩ := hrel
    have hv8' := hv8.symm
    clear hv8
    subst hv8'
    clear R1 FST cz fz szz
    have RR : Hid (Rd B B n w v8 m q wr) := hR
    have BB : Hid (Bf ps n x0 (fun _ => False) m q) := hBf
    clear hR hBf
    cases q with
    | nil =>
      obtain ⟨g, off, cap, cur, hv, -⟩ := RR.out.que
      subst hv
      go_wp2
      go_ret
      refine ⟨?_, ?_, m, ?_, BB.out.len, fun y => BB.out.fin y⟩
      · show Ending.returned (.slice (some ⟨B, 0, none⟩) n n) = _
        rw [HBq.out]
      · rw [HBq.out]; exact RR.out.bel
      · rw [HBq.out]; exact RR.out.met
    | cons x q =>
      simp only [List.length_cons] at hsum hgk
      obtain ⟨g, off, cap, hv, hcap, cx, hq1, hq2⟩ := RR.out.que.pop
      subst hv
      have HQ : Hid ((cap = 1 → Qu B wr (.slice (some ⟨g, off, none⟩) q.length 0) q) ∧ Qu B wr (.slice (some ⟨g, off + 1, none⟩) q.length (cap - 1)) q) := ⟨hq1, hq2⟩
      have hxm : m[x]? = some true := BB.out.qm x (by simp)
      have hxn : x < n := by have := (List.getElem?_eq_some_iff.1 hxm).1; rw [BB.out.len] at this; exact this
      have HXM : Hid (m[x]? = some true) := hxm
      have hlen : (0 : Int) < ((q.length + 1 : Nat) : Int) := by omega
      have hlen2 : (1 : Int) ≤ ((q.length + 1 : Nat) : Int) := by omega
      have hcap1 : (1 : Int) ≤ (cap : Int) := by omega
      clear hq1 hq2 hxm
      go_upto_region 6 with fail
      go_cut [8] (fun s wc => (∃ v2, s = v2 ∧ Qu B wr v2 q) ∧ wc = wr)
      case first =>
        by_cases hc1 : cap = 1
        · have H0 : Hid (Qu B wr (.slice (some ⟨g, off, none⟩) 0 0) q) := by
            have h9 := HQ.out.1 hc1
            rw [show q.length = 0 by omega] at h9
            exact h9
          subst hc1
          go_wp2_with fail
          go_meet
          exact ⟨⟨_, rfl, H0.out⟩, rfl⟩
        · have hc2 : ¬ (cap : Int) = 1 := by omega
          go_wp2_with fail
          go_meet
          exact ⟨⟨_, rfl, HQ.out.2⟩, rfl⟩
      case rest =>
        obtain ⟨⟨v2, hv2, hq2⟩, hwc⟩ := hcut
        have hv2' := hv2.symm
        clear hv2
        subst hv2'
        subst hwc
        have R0 : Hid (Rd B B n w v2 m q wc) := ⟨RR.out.met, hq2, RR.out.bel, RR.out.base⟩
        have B0 : Hid (Bf ps n x0 (fun y => y = x) m q) := BB.out.pop
        clear hq2 RR BB HQ cx
        obtain ⟨r, hrx⟩ : ∃ r, rs[x]? = some r := ⟨_, List.getElem?_eq_getElem (by rw [HL.out.len]; exact hxn)⟩
        obtain ⟨ys, hy1', hy2', hy3', hy4'⟩ := HA.out x r hrx
        obtain ⟨a1, ca, hv1, hsome, -⟩ := own_slice (HL.out.she.get hrx)
        have HY : Hid (∀ y, y ∈ ys ↔ (⟨(x : Int), y⟩ : Pr) ∈ ps) := hy4'
        have hyl : ys.length ≤ 8796093022208 := by omega
        have hxn' : (x : Int) < (n : Int) := by omega
        -- the list of x, as it lies while the search goes on
        have CR : Hid (∀ z, Below B w z → z.cell? ⟨gV, x, none⟩ = some (.slice a1 ys.length ca) ∧ ∀ (j : Nat) (y : Int), ys[j]? = some y → ∃ g, a1 = some ⟨g, 0, none⟩ ∧ z.cell? ⟨g, j, none⟩ = some (.int .i64 y)) := by
          intro z hz
          have hgV := (HL.out.she.outV.lt gV rfl).2
          refine ⟨?_, fun j y hj => ?_⟩
          · have h9 := (HL.out.cell hrx).1
            rw [hv1, hy1'] at h9
            exact (hz.cell (p := ⟨gV, x, none⟩) (by rw [← HBq.out]; exact hgV)).trans h9
          · obtain ⟨g, rfl⟩ := hsome (by have := (List.getElem?_eq_some_iff.1 hj).1; omega)
            have h9 := HL.out.she.get hrx
            have hg9 := (h9.lt g (by rw [hv1]; rfl)).2
            rw [hv1, hy2'] at h9
            have h8 := h9.cells rfl j (.int .i64 y) (by rw [List.getElem?_map, hj]; rfl)
            rw [addr_add, Nat.zero_add] at h8
            exact ⟨g, rfl, (hz.cell (p := ⟨g, j, none⟩) (by rw [← HBq.out]; exact hg9)).trans h8⟩
        clear hrx hy1' hy2' hy3' hy4' hv1 hsome
        go_wp2
        go_loopg [8, 10] ys.length (fun g2 s8 s10 wr => ∃ (j : Nat) (m1 : List Bool) (q1 : List Nat) (v1 : Value), s8 = v1 ∧ s10 = .int .i64 (j : Int) ∧ g2 = ys.length - j ∧ j ≤ ys.length ∧ Rd B B n w v1 m1 q1 wr ∧ Bf ps n x0 (fun y => y = x) m1 q1 ∧ unm m1 + q1.length = unm m + q.length ∧ (∀ y : Nat, m[y]? = some true → m1[y]? = some true) ∧ ∀ (i y : Nat), i < j → ys[i]? = some (y : Int) → m1[y]? = some true)
        case atStart => exact ⟨0, m, q, _, rfl, rfl, rfl, Nat.zero_le _, R0.out, B0.out, rfl, fun _ h => h, fun i y h => absurd h (Nat.not_lt_zero _)⟩
        case round =>
          obtain ⟨j, m1, q1, v1, hv1, rfl, hg2, hj, hR1, hB1, hs1, hmo1, hd1⟩ := hrel
          have hv1' := hv1.symm
          clear hv1
          subst hv1'
          clear R0 B0
          have R1 : Hid (Rd B B n w v1 m1 q1 wr) := hR1
          have B1' : Hid (Bf ps n x0 (fun y => y = x) m1 q1) := hB1
          have S1 : Hid (unm m1 + q1.length = unm m + q.length) := hs1
          have M1 : Hid (∀ y : Nat, m[y]? = some true → m1[y]? = some true) := hmo1
          have E1 : Hid (∀ (i y : Nat), i < j → ys[i]? = some (y : Int) → m1[y]? = some true) := hd1
          obtain ⟨cr, ce⟩ := CR.out wr R1.out.bel
          have hql : q1.length ≤ 131072 := by omega
          clear hR1 hB1 hs1 hmo1 hd1
          by_cases hjy : j < ys.length
          · have hjy' : (j : Int) < (ys.length : Int) := by omega
            obtain ⟨y, hy⟩ : ∃ y, ys[j]? = some y := ⟨_, List.getElem?_eq_getElem hjy⟩
            have hmem := (HY.out y).1 (List.mem_of_getElem? hy)
            obtain ⟨hyy0, hyn⟩ := HPS.out _ hmem
            obtain ⟨yn, rfl⟩ : ∃ yn : Nat, y = (yn : Int) := ⟨y.toNat, by simp only at hyy0; omega⟩
            simp only at hyy0 hyn
            have HYJ : Hid (ys[j]? = some (yn : Int) ∧ (⟨(x : Int), (yn : Int)⟩ : Pr) ∈ ps) := ⟨hy, hmem⟩
            obtain ⟨ge, hga, cy⟩ := ce j _ hy
            subst hga
            obtain ⟨b, hb⟩ : ∃ b, m1[yn]? = some b := ⟨_, List.getElem?_eq_getElem (by rw [B1'.out.len]; omega)⟩
            have HB : Hid (m1[yn]? = some b) := hb
            obtain ⟨cs, fs⟩ := R1.out.get hb
            clear hy hmem hb ce
            cases b with
            | true =>
              go_wp2
              go_roundg (ys.length - (j + 1))
              case measure => omega
              case rel =>
                refine ⟨j + 1, m1, q1, _, rfl, by go_num, rfl, by omega, R1.out, B1'.out, S1.out, M1.out, fun i y hi hyi => ?_⟩
                rcases Nat.lt_succ_iff_lt_or_eq.1 hi with h | h
                · exact E1.out i y h hyi
                · subst h
                  have h9 := HYJ.out.1
                  rw [hyi] at h9
                  have h8 : y = yn := by have := Option.some.inj h9; omega
                  rw [h8]
                  exact HB.out
            | false =>
              go_upto_region 12 with fail
              obtain ⟨z1, hz1⟩ : ∃ z1, wr.setCell ⟨B, yn, none⟩ (.bool true) = z1 := ⟨_, rfl⟩
              have R2 : Hid (Rd B B n w v1 (m1.set yn true) q1 z1) := by unfold Hid; rw [← hz1]; exact R1.out.set yn
              rw [hz1]
              clear hz1 cs fs cr cy
              obtain ⟨cr, ce⟩ := CR.out z1 R2.out.bel
              obtain ⟨ge', hga', cy⟩ := ce j _ HYJ.out.1
              simp only [Option.some.injEq, Addr.mk.injEq] at hga'
              obtain ⟨rfl, -, -⟩ := hga'
              obtain ⟨zA, eA, hbA, hsA, BA⟩ := bx1 z1 #[.int .i64 (yn : Int)] 3
              have R3 : Hid (Rd B B n w v1 (m1.set yn true) q1 zA) := R2.out.below hbA
              have HEA : Hid (z1.alloc (.cells #[.int .i64 (yn : Int)] 3) = zA) := eA
              have cA : zA.cell? ⟨z1.heap.size, 0, none⟩ = some (.int .i64 (yn : Int)) := BA.one
              clear eA hbA hsA BA ce
              go_wp2_with (at_builtin; rw [HEA.out]; refine wpList_que _ rfl _ _ 24 rfl i1 (.int .i64 0) Try.underlying24 hi1 hy0 hy1 hy2 rfl B v1 q1 yn rfl R3.out.que R3.out.base ⟨z1.heap.size, 0, none⟩ rfl cA hql ?_; intro v9 w9 hq9 hg9; have R9 : Hid (Rd B B n w v9 (m1.set yn true) (q1 ++ [yn]) w9) := R3.out.grw hq9 hg9; clear hq9 hg9)
              go_roundg (ys.length - (j + 1))
              case measure => omega
              case rel =>
                refine ⟨j + 1, _, _, _, rfl, by go_num, rfl, by omega, R9.out, B1'.out.push (M1.out x HXM.out) HB.out HYJ.out.2, ?_, fun y hy => set_true.2 (.inl (M1.out y hy)), fun i y hi hyi => ?_⟩
                · have h8 := unm_set m1 yn HB.out
                  have h9 := S1.out
                  simp only [List.length_append, List.length_cons, List.length_nil]
                  omega
                · rcases Nat.lt_succ_iff_lt_or_eq.1 hi with h | h
                  · exact set_true.2 (.inl (E1.out i y h hyi))
                  · subst h
                    have h9 := HYJ.out.1
                    rw [hyi] at h9
                    have h8 : y = yn := by have := Option.some.inj h9; omega
                    rw [h8]
                    exact set_true.2 (.inr ⟨rfl, (List.getElem?_eq_some_iff.1 HB.out).1⟩)
          · have hjy' : ¬ (j : Int) < (ys.length : Int) := by omega
            go_wp2
            go_roundg (unm m1 + q1.length)
            case measure => have h9 := S1.out; omega
            case rel =>
              refine ⟨m1, q1, _, rfl, rfl, R1.out, B1'.out.done (fun y' he => ?_), ?_⟩
              · obtain ⟨i, hi⟩ := List.getElem?_of_mem ((HY.out (y' : Int)).2 he)
                exact E1.out i y' (by have := (List.getElem?_eq_some_iff.1 hi).1; omega) hi
              · have h9 := S1.out; omega
end Go.Proofs.Ytgijcbipnjmhgaa

namespace Go.Proofs.Ytgijcbipnjmhgaa
open Go.ChangeShapes Go.WideShapes Go.ChangeAt Go.RowKit
set_option linter.unusedVariables false
set_option linter.unusedSimpArgs false

/-- has it a label? -/
def Mt (l : List Int) (y : Nat) : Prop := ∃ v, l[y]? = some v ∧ 0 ≤ v
/-- a search for a class: labels l0 before it, l now, a stack q; P: what is being looked at -/
structure Cf (ps : List Pr) (n i : Nat) (l0 : List Int) (P : Nat → Prop) (l : List Int) (q : List Nat) : Prop where
  len0 : l0.length = n
  sgn0 : ∀ (y : Nat) v, l0[y]? = some v → 0 ≤ v ∨ v = -1
  len : l.length = n
  sgn : ∀ (y : Nat) v, l[y]? = some v → 0 ≤ v ∨ v = -1
  old : ∀ (y : Nat) v, l0[y]? = some v → 0 ≤ v → l[y]? = some v
  new : ∀ (y : Nat) v, l[y]? = some v → 0 ≤ v → l0[y]? = some v ∨ (v = (i : Int) ∧ Rch (both ps) i y)
  qm : ∀ y ∈ q, Mt l y ∧ Rch (both ps) i y
  start : Mt l i
  closed : ∀ y y' : Nat, Mt l y → y ∉ q → ¬ P y → (⟨(y : Int), (y' : Int)⟩ : Pr) ∈ both ps → Mt l y'
theorem set_int {l : List Int} {x y : Nat} {f : Int} : (l.set x f)[y]? = if x = y ∧ y < l.length then some f else l[y]? := by
  rw [List.getElem?_set]
  by_cases h : x = y
  · subst h
    by_cases h2 : x < l.length
    · rw [if_pos rfl, if_pos h2, if_pos ⟨rfl, h2⟩]
    · rw [if_pos rfl, if_neg h2, if_neg (fun h => h2 h.2), List.getElem?_eq_none (by omega)]
  · rw [if_neg h, if_neg (fun h3 => h h3.1)]
theorem Mt.set {l : List Int} {x y i : Nat} (h : Mt l y) : Mt (l.set x (i : Int)) y := by
  obtain ⟨v, h1, h2⟩ := h
  rw [Mt, set_int]
  by_cases hc : x = y ∧ y < l.length
  · rw [if_pos hc]; exact ⟨_, rfl, by omega⟩
  · rw [if_neg hc]; exact ⟨v, h1, h2⟩
theorem Mt.here {l : List Int} {x i : Nat} (h : x < l.length) : Mt (l.set x (i : Int)) x := ⟨(i : Int), by rw [set_int, if_pos ⟨rfl, h⟩], by omega⟩
theorem Mt.inv {l : List Int} {x y i : Nat} (h : Mt (l.set x (i : Int)) y) : Mt l y ∨ y = x := by
  obtain ⟨v, h1, h2⟩ := h
  rw [set_int] at h1
  by_cases hc : x = y ∧ y < l.length
  · exact .inr hc.1.symm
  · rw [if_neg hc] at h1; exact .inl ⟨v, h1, h2⟩
theorem Cf.first {ps : List Pr} {n i : Nat} {l0 : List Int} (hC : Cs (both ps) i (Mt l0) (fun y => l0[y]?)) (h0 : l0.length = n) (hs : ∀ (y : Nat) v, l0[y]? = some v → 0 ≤ v ∨ v = -1) (hi : l0[i]? = some (-1)) : Cf ps n i l0 (fun _ => False) (l0.set i (i : Int)) [i] := by
  have hil := (List.getElem?_eq_some_iff.1 hi).1
  refine ⟨h0, hs, by rw [List.length_set]; exact h0, fun y v hv => ?_, fun y v hv hp => ?_, fun y v hv hp => ?_, fun y hy => ?_, Mt.here hil, fun y y' hy hq _ he => ?_⟩
  · rw [set_int] at hv
    split at hv
    · cases hv; exact .inl (by omega)
    · exact hs y v hv
  · rw [set_int, if_neg (fun hc => by rw [← hc.1, hi] at hv; cases hv; omega)]
    exact hv
  · rw [set_int] at hv
    by_cases hc : i = y ∧ y < l0.length
    · rw [if_pos hc] at hv; cases hv; exact .inr ⟨rfl, by rw [← hc.1]; exact .refl _⟩
    · rw [if_neg hc] at hv; exact .inl hv
  · rw [List.mem_singleton] at hy; subst hy; exact ⟨Mt.here hil, .refl _⟩
  · rcases hy.inv with h1 | h1
    · exact (hC.closed y y' h1 he).set
    · exact absurd h1 (by simpa using hq)
theorem Cf.pop {ps : List Pr} {n i x : Nat} {l0 l : List Int} {q : List Nat} (h : Cf ps n i l0 (fun _ => False) l (q ++ [x])) : Cf ps n i l0 (fun y => y = x) l q :=
  ⟨h.len0, h.sgn0, h.len, h.sgn, h.old, h.new, fun y hy => h.qm y (List.mem_append_left _ hy), h.start, fun y y' hy hq hP he => h.closed y y' hy (fun hc => by rcases List.mem_append.1 hc with hc | hc; exact hq hc; exact hP (by simpa using hc)) id he⟩
theorem Cf.push {ps : List Pr} {n i x y : Nat} {l0 l : List Int} {q : List Nat} (h : Cf ps n i l0 (fun y => y = x) l q) (hx : Rch (both ps) i x) (hy : l[y]? = some (-1)) (he : (⟨(x : Int), (y : Int)⟩ : Pr) ∈ both ps) : Cf ps n i l0 (fun y => y = x) (l.set y (i : Int)) (q ++ [y]) := by
  have hyl := (List.getElem?_eq_some_iff.1 hy).1
  have hry : Rch (both ps) i y := hx.trans (.step he (.refl _))
  refine ⟨h.len0, h.sgn0, by rw [List.length_set]; exact h.len, fun z v hv => ?_, fun z v hv hp => ?_, fun z v hv hp => ?_, fun z hz => ?_, h.start.set, fun z z' hz hq hP hzz => ?_⟩
  · rw [set_int] at hv
    split at hv
    · cases hv; exact .inl (by omega)
    · exact h.sgn z v hv
  · have h1 := h.old z v hv hp
    rw [set_int, if_neg (fun hc => by rw [← hc.1, hy] at h1; cases h1; omega)]
    exact h1
  · rw [set_int] at hv
    by_cases hc : y = z ∧ z < l.length
    · rw [if_pos hc] at hv; cases hv; exact .inr ⟨rfl, by rw [← hc.1]; exact hry⟩
    · rw [if_neg hc] at hv; exact h.new z v hv hp
  · rcases List.mem_append.1 hz with hz | hz
    · exact ⟨(h.qm z hz).1.set, (h.qm z hz).2⟩
    · rw [List.mem_singleton] at hz; subst hz; exact ⟨Mt.here hyl, hry⟩
  · rw [List.mem_append, not_or, List.mem_singleton] at hq
    rcases hz.inv with hz | hz
    · exact (h.closed z z' hz hq.1 hP hzz).set
    · exact absurd hz hq.2
theorem Cf.done {ps : List Pr} {n i x : Nat} {l0 l : List Int} {q : List Nat} (h : Cf ps n i l0 (fun y => y = x) l q) (hd : ∀ y' : Nat, (⟨(x : Int), (y' : Int)⟩ : Pr) ∈ both ps → Mt l y') : Cf ps n i l0 (fun _ => False) l q :=
  ⟨h.len0, h.sgn0, h.len, h.sgn, h.old, h.new, h.qm, h.start, fun y y' hy hq _ he => by
    by_cases e : y = x
    · subst e; exact hd y' he
    · exact h.closed y y' hy hq e he⟩
theorem Cf.fin {ps : List Pr} {n i : Nat} {l0 l : List Int} (h : Cf ps n i l0 (fun _ => False) l []) (hC : Cs (both ps) i (Mt l0) (fun y => l0[y]?)) : Cs (both ps) (i + 1) (Mt l) (fun y => l[y]?) := by
  refine hC.step (fun y ⟨v, h1, h2⟩ => ⟨v, h.old y v h1 h2, h2⟩) h.start (fun y y' h1 _ he => h.closed y y' h1 (by simp) id he) (fun y ⟨v, h1, h2⟩ h3 => ?_) (fun y ⟨v, h1, h2⟩ => ?_) (fun y ⟨v, h1, h2⟩ h3 => ?_)
  · rcases h.new y v h1 h2 with h4 | h4
    · exact absurd ⟨v, h4, h2⟩ h3
    · exact h4.2
  · show l[y]? = l0[y]?
    rw [h1, h.old y v h1 h2]
  · show l[y]? = _
    rcases h.new y v h1 h2 with h4 | h4
    · exact absurd ⟨v, h4, h2⟩ h3
    · rw [h1, h4.1]
/-- the marks of labels -/
def mks (l : List Int) : List Bool := l.map fun v => decide (0 ≤ v)
theorem mks_set {l : List Int} {y i : Nat} (hy : l[y]? = some (-1)) : unm (mks (l.set y (i : Int))) + 1 = unm (mks l) := by
  have h1 : mks (l.set y (i : Int)) = (mks l).set y true := by
    unfold mks
    rw [List.map_set, decide_eq_true (show (0 : Int) ≤ (i : Int) by omega)]
  rw [h1]
  refine unm_set _ _ ?_
  unfold mks
  rw [List.getElem?_map, hy]
  rfl
theorem mks_le (l : List Int) : unm (mks l) ≤ l.length := by
  have h1 := List.length_filter_le (fun b => !b) (mks l)
  unfold unm
  unfold mks at h1 ⊢
  rw [List.length_map] at h1
  exact h1
/-- the last one is taken off -/
theorem Qu.last {B : Nat} {w : World} {v : Value} {x : Nat} {xs : List Nat} (h : Qu B w v (xs ++ [x])) : ∃ g off cap, v = .slice (some ⟨g, off, none⟩) (xs.length + 1) cap ∧ xs.length + 1 ≤ cap ∧ w.cell? ⟨g, off + xs.length, none⟩ = some (.int .i64 (x : Int)) ∧ Qu B w (.slice (some ⟨g, off, none⟩) xs.length cap) xs := by
  obtain ⟨g, off, cap, cur, h1, h2, h3, h4, h5, h6⟩ := h
  simp only [List.length_append, List.length_cons, List.length_nil] at h1 h4
  refine ⟨g, off, cap, h1, h4, ?_, ⟨g, off, cap, cur, rfl, h2, h3, by omega, h5, fun j y hj => h6 j y (by rw [List.getElem?_append_left (List.getElem?_eq_some_iff.1 hj).1]; exact hj)⟩⟩
  rw [(cell_cur h3).1]
  exact h6 xs.length x (by rw [List.getElem?_append_right (Nat.le_refl _), Nat.sub_self]; rfl)
theorem split_last (q : List Nat) : q = [] ∨ ∃ p x, q = p ++ [x] := by
  rcases q.eq_nil_or_concat with h | ⟨p, x, h⟩
  · exact .inl h
  · exact .inr ⟨p, x, by rw [h, List.concat_eq_append]⟩
end Go.Proofs.Ytgijcbipnjmhgaa

namespace Go.Proofs.Ytgijcbipnjmhgaa
open Go.ChangeShapes Go.WideShapes Go.ChangeAt Go.RowKit
set_option linter.unusedVariables false
set_option linter.unusedSimpArgs false

set_option maxRecDepth 1000000 in
set_option maxHeartbeats 4000000 in
theorem rbad_any (n : Int) (a : Option Addr) (cap : Nat) (ps : List Pr) (w : World) (hL : LiesA w a ps) (hm : ps.length ≤ 17592186044416) : Calls Try.prog 28 #[.int .i64 n, .slice a ps.length cap] w fun e w' => e = .returned (.bool (!things n ps)) ∧ w' = w := by
  have HL : Hid (LiesA w a ps) := hL
  clear hL
  by_cases h0 : n < 0
  · go_enter Try.func28, Try.ntmps28
    go_wp2
    go_ret
    exact ⟨by rw [things, decide_eq_false (show ¬ 0 ≤ n by omega)]; rfl, rfl⟩
  · by_cases h1 : 131072 < n
    · go_enter Try.func28, Try.ntmps28
      go_wp2
      go_ret
      exact ⟨by rw [things, decide_eq_false (show ¬ n ≤ 131072 by omega)]; simp, rfl⟩
    · have HT : Hid (things n ps = ps.all (thp n)) := by unfold Hid things; rw [decide_eq_true (show 0 ≤ n by omega), decide_eq_true (show n ≤ 131072 by omega)]; rfl
      go_enter Try.func28, Try.ntmps28
      go_wp2
      go_loopg [5] ps.length (fun gk si wr => ∃ (k : Nat), gk = ps.length - k ∧ si = .int .i64 (k : Int) ∧ k ≤ ps.length ∧ (ps.take k).all (thp n) = true ∧ wr = w)
      case atStart => exact ⟨0, rfl, rfl, Nat.zero_le _, rfl, rfl⟩
      case round =>
        obtain ⟨k, hgk, rfl, hk, hall, hw⟩ := hrel
        have hw2 := hw.symm
        clear hw
        subst hw2
        have HALL : Hid ((ps.take k).all (thp n) = true) := hall
        clear hall
        by_cases hkp : k < ps.length
        · have hkp' : (k : Int) < (ps.length : Int) := by omega
          obtain ⟨p, hp⟩ : ∃ p, ps[k]? = some p := ⟨_, List.getElem?_eq_getElem hkp⟩
          obtain ⟨b, o, ha, hLi⟩ : ∃ b o, a = some ⟨b, o, none⟩ ∧ Lies w b o ps := by
            rcases HL.out with h | h
            · rw [h] at hkp; exact absurd hkp (Nat.not_lt_zero _)
            · exact h
          subst ha
          obtain ⟨pa, pb⟩ := p
          obtain ⟨d0, d1⟩ := hLi.pr hp
          simp only at d0 d1
          have HP : Hid (ps[k]? = some ⟨pa, pb⟩) := hp
          have HBAD : Hid (thp n ⟨pa, pb⟩ = false → things n ps = false) := fun hbad => by
            rw [HT.out, List.all_eq_false]
            exact ⟨_, List.mem_of_getElem? HP.out, by simp [hbad]⟩
          clear hLi hp
          by_cases ha0 : pa < 0
          · go_wp2
            go_ret
            exact ⟨by rw [HBAD.out (by unfold thp thg; rw [decide_eq_false (show ¬ 0 ≤ pa by omega)]; rfl)]; rfl, rfl⟩
          · by_cases ha1 : n ≤ pa
            · go_wp2
              go_ret
              exact ⟨by rw [HBAD.out (by unfold thp thg; rw [decide_eq_false (show ¬ pa < n by omega)]; simp)]; rfl, rfl⟩
            · by_cases hb0 : pb < 0
              · go_wp2
                go_ret
                exact ⟨by rw [HBAD.out (by unfold thp thg; rw [decide_eq_false (show ¬ 0 ≤ pb by omega)]; simp)]; rfl, rfl⟩
              · by_cases hb1 : n ≤ pb
                · go_wp2
                  go_ret
                  exact ⟨by rw [HBAD.out (by unfold thp thg; rw [decide_eq_false (show ¬ pb < n by omega)]; simp)]; rfl, rfl⟩
                · have HG : Hid (thp n ⟨pa, pb⟩ = true) := by unfold Hid thp thg; simp; omega
                  go_wp2
                  go_roundg (ps.length - (k + 1))
                  case measure => omega
                  case rel =>
                    refine ⟨k + 1, rfl, by go_num, by omega, ?_, rfl⟩
                    rw [List.take_add_one, HP.out, List.all_append, HALL.out]
                    simp [HG.out]
        · have hkp' : ¬ (k : Int) < (ps.length : Int) := by omega
          go_wp2
          go_ret
          have h9 := HALL.out
          rw [List.take_of_length_le (by omega)] at h9
          exact ⟨by rw [HT.out, h9]; rfl, rfl⟩
end Go.Proofs.Ytgijcbipnjmhgaa
