import Derived.Test.YtgijcbipnjmhgabGq0
namespace Go.Proofs.Ytgijcbipnjmhgab
set_option linter.unusedVariables false
set_option linter.unusedSimpArgs false

/-- the order of what is told: what a told thing needs is told by then, or was marked ahead, or comes to the thing that is told -/
def Od (ps : List Pr) (m : List Bool) (s : List Nat) : Prop := ∀ (s1 : List Nat) (x : Nat) (s2 : List Nat), s = s1 ++ x :: s2 → ∀ u : Nat, u ∈ s1 ++ [x] → ∀ z : Nat, (⟨(u : Int), (z : Int)⟩ : Pr) ∈ ps → m[z]? = some true ∨ z ∈ s1 ++ [x] ∨ Rch ps z x
/-- a walk, with the order of what it tells -/
structure Dk (ps : List Pr) (P : Nat → Prop) (m : List Bool) (t : List Nat) (m' : List Bool) (t' : List Nat) : Prop extends Dq ps P m t m' t' where
  od : ∃ s, t' = t ++ s ∧ Od ps m s
theorem Dk.refl (ps : List Pr) (P : Nat → Prop) (m : List Bool) (t : List Nat) : Dk ps P m t m t :=
  ⟨Dq.refl ps P m t, [], by simp, fun s1 x s2 h => by simp at h⟩
theorem app_split {a b s1 s2 : List Nat} {x : Nat} (h : a ++ b = s1 ++ x :: s2) : (∃ r, a = s1 ++ x :: r) ∨ ∃ c, s1 = a ++ c ∧ b = c ++ x :: s2 := by
  rcases List.append_eq_append_iff.1 h with ⟨c, h1, h2⟩ | ⟨c, h1, h2⟩
  · exact .inr ⟨c, h1, h2⟩
  · cases c with
    | nil => exact .inr ⟨[], by simpa using h1.symm, by simpa using h2.symm⟩
    | cons y c =>
      simp only [List.cons_append, List.cons.injEq] at h2
      obtain ⟨rfl, -⟩ := h2
      exact .inl ⟨c, h1⟩
theorem Dk.trans {ps : List Pr} {P P' : Nat → Prop} {m m1 m2 : List Bool} {t t1 t2 : List Nat} (h : Dk ps P m t m1 t1) (k : Dk ps P' m1 t1 m2 t2) (hP : ∀ y, P' y → P y) : Dk ps P m t m2 t2 := by
  refine ⟨h.toDq.trans k.toDq hP, ?_⟩
  obtain ⟨sa, ha, oa⟩ := h.od
  obtain ⟨sb, hb, ob⟩ := k.od
  obtain ⟨sa', ha', -, hn, hz⟩ := h.told
  obtain rfl : sa' = sa := List.append_cancel_left (ha'.symm.trans ha)
  refine ⟨sa' ++ sb, by rw [hb, ha, List.append_assoc], fun s1 x s2 e u hu z he => ?_⟩
  rcases app_split e with ⟨r, e1⟩ | ⟨c, rfl, e2⟩
  · exact oa s1 x r e1 u hu z he
  · have hin : ∀ y : Nat, m1[y]? = some true → m[y]? = some true ∨ y ∈ (sa' ++ c) ++ [x] := fun y hy => by
      rcases hz y hy with h1 | h1
      · exact .inl h1
      · exact .inr (List.mem_append_left _ (List.mem_append_left _ h1))
    have hu' : u ∈ sa' ∨ u ∈ c ++ [x] := by
      rw [List.append_assoc] at hu
      exact List.mem_append.1 hu
    rcases hu' with h1 | h1
    · rcases hin z (h.closed u z (hn u h1).1 (hn u h1).2 he) with h2 | h2
      · exact .inl h2
      · exact .inr (.inl h2)
    · rcases ob c x s2 e2 u h1 z he with h2 | h2 | h2
      · rcases hin z h2 with h3 | h3
        · exact .inl h3
        · exact .inr (.inl h3)
      · exact .inr (.inl (by rw [List.append_assoc]; exact List.mem_append_right _ h2))
      · exact .inr (.inr h2)
theorem Dk.node {ps : List Pr} {x : Nat} {m m1 : List Bool} {t t1 : List Nat} (hx : m[x]? = some false) (h : Dk ps (Rch ps x) (m.set x true) t m1 t1) (hd : ∀ y' : Nat, (⟨(x : Int), (y' : Int)⟩ : Pr) ∈ ps → m1[y']? = some true) : Dk ps (Rch ps x) m t m1 (t1 ++ [x]) := by
  refine ⟨h.toDq.node hx hd, ?_⟩
  have hl := (List.getElem?_eq_some_iff.1 hx).1
  have hset : ∀ y : Nat, (m.set x true)[y]? = some true → y = x ∨ m[y]? = some true := fun y hy => by
    by_cases e : y = x
    · exact .inl e
    · rw [List.getElem?_set, if_neg (fun e2 => e e2.symm)] at hy; exact .inr hy
  obtain ⟨s, hs, os⟩ := h.od
  obtain ⟨s', hs', -, hn, hz⟩ := h.told
  obtain rfl : s' = s := List.append_cancel_left (hs'.symm.trans hs)
  refine ⟨s' ++ [x], by rw [hs, List.append_assoc], fun s1 y s2 e u hu z he => ?_⟩
  rcases app_split e with ⟨r, e1⟩ | ⟨c, rfl, e2⟩
  · have hys : y ∈ s' := by rw [e1]; simp
    rcases os s1 y r e1 u hu z he with h1 | h1 | h1
    · rcases hset z h1 with h2 | h2
      · subst h2
        rcases h.reach y (hn y hys).2 with h3 | h3
        · exact (tf h3 (hn y hys).1).elim
        · exact .inr (.inr h3)
      · exact .inl h2
    · exact .inr (.inl h1)
    · exact .inr (.inr h1)
  · cases c with
    | cons a c => simp at e2
    | nil =>
      simp only [List.nil_append, List.cons.injEq] at e2
      obtain ⟨rfl, -⟩ := e2
      rw [List.append_nil] at hu ⊢
      have hm : m1[z]? = some true := by
        rcases List.mem_append.1 hu with h1 | h1
        · exact h.closed u z (hn u h1).1 (hn u h1).2 he
        · rw [List.mem_singleton] at h1; subst h1; exact hd z he
      rcases hz z hm with h1 | h1
      · rcases hset z h1 with h2 | h2
        · subst h2; exact .inr (.inl (by simp))
        · exact .inl h2
      · exact .inr (.inl (List.mem_append_left _ h1))
/-- the whole list: what is needed by what is told up to x is told by then, or comes to x -/
def Fnl (ps : List Pr) (t : List Nat) : Prop := ∀ (s1 : List Nat) (x : Nat) (s2 : List Nat), t = s1 ++ x :: s2 → ∀ u : Nat, u ∈ s1 ++ [x] → ∀ z : Nat, (⟨(u : Int), (z : Int)⟩ : Pr) ∈ ps → z ∈ s1 ++ [x] ∨ Rch ps z x
theorem Od.fin {ps : List Pr} {n : Nat} {s : List Nat} (h : Od ps (List.replicate n false) s) : Fnl ps s := fun s1 x s2 e u hu z he => by
  rcases h s1 x s2 e u hu z he with h1 | h1
  · rw [List.getElem?_replicate] at h1
    split at h1 <;> cases h1
  · exact h1
/-- a way to x, by its things -/
inductive RP (ps : List Pr) (x : Nat) : List Nat → Prop
  | one : RP ps x [x]
  | cons {y p : Nat} {l : List Nat} : (⟨(y : Int), (p : Int)⟩ : Pr) ∈ ps → RP ps x (p :: l) → RP ps x (y :: p :: l)
theorem Rch.rp {ps : List Pr} {y x : Nat} (h : Rch ps y x) : ∃ l, RP ps x (y :: l) := by
  induction h with
  | refl x => exact ⟨[], .one⟩
  | step e _ ih =>
    obtain ⟨l, hl⟩ := ih
    exact ⟨_, .cons e hl⟩
theorem RP.cross {ps : List Pr} {x : Nat} {A : Nat → Prop} (hx : ¬ A x) : ∀ {l : List Nat}, RP ps x l → ∀ y l', l = y :: l' → A y → ∃ u z : Nat, (⟨(u : Int), (z : Int)⟩ : Pr) ∈ ps ∧ A u ∧ ¬ A z ∧ z ∈ l' := by
  intro l h
  induction h with
  | one => intro y l' e hy; cases e; exact absurd hy hx
  | @cons a p l he hr ih =>
    intro y l' e hy
    injection e with e1 e2
    subst e1 e2
    by_cases hp : A p
    · obtain ⟨u, z, h1, h2, h3, h4⟩ := ih p l rfl hp
      exact ⟨u, z, h1, h2, h3, List.mem_cons_of_mem _ h4⟩
    · exact ⟨a, p, he, hy, hp, List.mem_cons_self⟩
/-- from the last that was told and is left: what comes to it is come to -/
theorem kos_path {ps : List Pr} {t pre rest : List Nat} {x : Nat} (ht : t.Nodup) (hf : Fnl ps t) (e : t = pre ++ x :: rest) : ∀ {l : List Nat}, RP ps x l → (∀ v ∈ l, v ∈ pre ++ [x]) → ∀ v ∈ l, Rch ps x v := by
  intro l h
  induction h with
  | one => intro _ v hv; rw [List.mem_singleton] at hv; subst hv; exact .refl _
  | @cons y p l he hr ih =>
    intro hin v hv
    have ih' := ih (fun v hv => hin v (List.mem_cons_of_mem _ hv))
    rcases List.mem_cons.1 hv with hvy | hv
    · subst hvy
      by_cases hyx : v = x
      · subst hyx; exact .refl _
      · have hvp : v ∈ pre := by
          rcases List.mem_append.1 (hin v List.mem_cons_self) with h1 | h1
          · exact h1
          · rw [List.mem_singleton] at h1; exact absurd h1 hyx
        obtain ⟨s1, s2, hs⟩ := List.append_of_mem hvp
        have ht2 : t = s1 ++ v :: (s2 ++ x :: rest) := by rw [e, hs]; simp
        have hxa : x ∉ s1 ++ [v] := fun hx => by
          rw [ht2, show s1 ++ v :: (s2 ++ x :: rest) = (s1 ++ [v]) ++ (s2 ++ x :: rest) by simp] at ht
          exact (List.nodup_append.1 ht).2.2 x hx x (by simp) rfl
        obtain ⟨u, z, h1, h2, h3, h4⟩ := RP.cross (A := fun a => a ∈ s1 ++ [v]) hxa (.cons he hr) v (p :: l) rfl (by simp)
        rcases hf s1 v (s2 ++ x :: rest) ht2 u h2 z h1 with h5 | h5
        · exact absurd h5 h3
        · exact (ih' z h4).trans h5
    · exact ih' v hv
theorem kos {ps : List Pr} {t pre rest : List Nat} {x y : Nat} {M : Nat → Prop} (ht : t.Nodup) (hf : Fnl ps t) (e : t = pre ++ x :: rest) (hall : ∀ u v : Nat, (⟨(u : Int), (v : Int)⟩ : Pr) ∈ ps → v ∈ t) (hM : ∀ u v : Nat, (⟨(u : Int), (v : Int)⟩ : Pr) ∈ ps → M v → M u) (hr : ∀ v ∈ rest, M v) (hyt : y ∈ t) (hy : ¬ M y) (h : Rch ps y x) : Rch ps x y := by
  obtain ⟨l, hl⟩ := h.rp
  refine kos_path ht hf e hl ?_ y List.mem_cons_self
  have hunm : ∀ {l : List Nat}, RP ps x l → ∀ y l', l = y :: l' → y ∈ t → ¬ M y → ∀ v ∈ l, v ∈ t ∧ ¬ M v := by
    intro l h
    induction h with
    | one => intro y l' e h1 h2 v hv; cases e; rw [List.mem_singleton] at hv; subst hv; exact ⟨h1, h2⟩
    | @cons a p l he hr ih =>
      intro y l' e h1 h2 v hv
      injection e with e1 e2
      subst e1
      rcases List.mem_cons.1 hv with h3 | h3
      · subst h3; exact ⟨h1, h2⟩
      · exact ih p l rfl (hall _ _ he) (fun h4 => h2 (hM _ _ he h4)) v h3
  intro v hv
  obtain ⟨h1, h2⟩ := hunm hl y l rfl hyt hy v hv
  rw [e, show pre ++ x :: rest = (pre ++ [x]) ++ rest by simp] at h1
  rcases List.mem_append.1 h1 with h3 | h3
  · exact h3
  · exact absurd (hr v h3) h2
end Go.Proofs.Ytgijcbipnjmhgab

namespace Go.Proofs.Ytgijcbipnjmhgab
open Go.ChangeShapes Go.WideShapes Go.ChangeAt Go.RowKit
set_option linter.unusedVariables false
set_option linter.unusedSimpArgs false

set_option maxRecDepth 1000000 in
set_option maxHeartbeats 4000000 in
theorem walkC_any (B bm bn bk bt gm gV n bf bl : Nat) (w0 : World) (rs : List Rr) (ps : List Pr) (T : List Nat → World → Prop) (hn : n ≤ 131072) (hA : Ad .i32 ps rs) (hps : ∀ p ∈ ps, 0 ≤ p.b ∧ p.b < (n : Int)) (hpl : ps.length ≤ 17592186044416)
    (hT : ∀ m t z x, Wc B bm bn bk bt gm gV n (.func (.func 25) #[] #[.pointer (some ⟨bf, 0, none⟩), .pointer (some ⟨bl, 0, none⟩)]) w0 rs m z → T t z → T t (z.setCell ⟨gm, x, none⟩ (.bool true)))
    (htell : ∀ m t z (x : Nat), x < n → t.length < n → Wc B bm bn bk bt gm gV n (.func (.func 25) #[] #[.pointer (some ⟨bf, 0, none⟩), .pointer (some ⟨bl, 0, none⟩)]) w0 rs m z → T t z → Calls Try.prog 25 (#[.int .i64 (x : Int), .pointer (some ⟨bf, 0, none⟩), .pointer (some ⟨bl, 0, none⟩)]) z fun e z' => (∃ v, e = .returned v) ∧ Wc B bm bn bk bt gm gV n (.func (.func 25) #[] #[.pointer (some ⟨bf, 0, none⟩), .pointer (some ⟨bl, 0, none⟩)]) w0 rs m z' ∧ T (t ++ [x]) z') :
    ∀ (k x : Nat) (m : List Bool) (t : List Nat) (z : World), x < n → unm m ≤ k → t.length + unm m ≤ n → Wc B bm bn bk bt gm gV n (.func (.func 25) #[] #[.pointer (some ⟨bf, 0, none⟩), .pointer (some ⟨bl, 0, none⟩)]) w0 rs m z → T t z →
    Calls Try.prog 50 #[.int .i64 (x : Int), .pointer (some ⟨bm, 0, none⟩), .pointer (some ⟨bn, 0, none⟩), .pointer (some ⟨bk, 0, none⟩), .pointer (some ⟨bt, 0, none⟩)] z fun e z' => (∃ v, e = .returned v) ∧ ∃ m' t', Wc B bm bn bk bt gm gV n (.func (.func 25) #[] #[.pointer (some ⟨bf, 0, none⟩), .pointer (some ⟨bl, 0, none⟩)]) w0 rs m' z' ∧ T t' z' ∧ Dq ps (Rch ps x) m t m' t' ∧ m'[x]? = some true := by
  intro k
  induction k using Nat.strongRecOn with
  | ind k ih =>
  intro x m t z hx hk hcn hW hTt
  have IH : Hid (∀ (y : Nat) (m2 : List Bool) (t2 : List Nat) (z : World), y < n → unm m2 < unm m → t2.length + unm m2 ≤ n → Wc B bm bn bk bt gm gV n (.func (.func 25) #[] #[.pointer (some ⟨bf, 0, none⟩), .pointer (some ⟨bl, 0, none⟩)]) w0 rs m2 z → T t2 z → Calls Try.prog 50 #[.int .i64 (y : Int), .pointer (some ⟨bm, 0, none⟩), .pointer (some ⟨bn, 0, none⟩), .pointer (some ⟨bk, 0, none⟩), .pointer (some ⟨bt, 0, none⟩)] z fun e z' => (∃ v, e = .returned v) ∧ ∃ m' t', Wc B bm bn bk bt gm gV n (.func (.func 25) #[] #[.pointer (some ⟨bf, 0, none⟩), .pointer (some ⟨bl, 0, none⟩)]) w0 rs m' z' ∧ T t' z' ∧ Dq ps (Rch ps y) m2 t2 m' t' ∧ m'[y]? = some true) := fun y m2 t2 z h1 h2 h3 h4 h5 => ih (unm m2) (by omega) y m2 t2 z h1 (Nat.le_refl _) h3 h4 h5
  have HW : Hid (Wc B bm bn bk bt gm gV n (.func (.func 25) #[] #[.pointer (some ⟨bf, 0, none⟩), .pointer (some ⟨bl, 0, none⟩)]) w0 rs m z) := hW
  have HT : Hid (T t z) := hTt
  have HA : Hid (Ad .i32 ps rs) := hA
  have HPS : Hid (∀ p ∈ ps, 0 ≤ p.b ∧ p.b < (n : Int)) := hps
  have HT1 : Hid (∀ m t z x, Wc B bm bn bk bt gm gV n (.func (.func 25) #[] #[.pointer (some ⟨bf, 0, none⟩), .pointer (some ⟨bl, 0, none⟩)]) w0 rs m z → T t z → T t (z.setCell ⟨gm, x, none⟩ (.bool true))) := hT
  have HTL : Hid (∀ m t z (x : Nat), x < n → t.length < n → Wc B bm bn bk bt gm gV n (.func (.func 25) #[] #[.pointer (some ⟨bf, 0, none⟩), .pointer (some ⟨bl, 0, none⟩)]) w0 rs m z → T t z → Calls Try.prog 25 (#[.int .i64 (x : Int), .pointer (some ⟨bf, 0, none⟩), .pointer (some ⟨bl, 0, none⟩)]) z fun e z' => (∃ v, e = .returned v) ∧ Wc B bm bn bk bt gm gV n (.func (.func 25) #[] #[.pointer (some ⟨bf, 0, none⟩), .pointer (some ⟨bl, 0, none⟩)]) w0 rs m z' ∧ T (t ++ [x]) z') := htell
  clear ih hW hTt hA hps hT htell
  obtain ⟨b, hb⟩ : ∃ b, m[x]? = some b := ⟨_, List.getElem?_eq_getElem (by rw [HW.out.mlen]; exact hx)⟩
  have HBB : Hid (m[x]? = some b) := hb
  have c1 := HW.out.xm.one
  obtain ⟨cm, fm⟩ := HW.out.get hb
  have hx0 : (0 : Int) ≤ (x : Int) := by omega
  have hxn : (x : Int) < (n : Int) := by omega
  clear hb
  go_enter Try.func50, Try.ntmps50
  cases b with
  | true =>
    go_wp2
    refine bodyPost_ret (results_none rfl _ _ _) rfl ?_
    exact ⟨⟨_, rfl⟩, m, t, HW.out, HT.out, Dq.refl _ _ _ _, HBB.out⟩
  | false =>
    go_upto_region 2 with fail
    obtain ⟨z1, hz1⟩ : ∃ z1, z.setCell ⟨gm, x, none⟩ (.bool true) = z1 := ⟨_, rfl⟩
    have W1 : Hid (Wc B bm bn bk bt gm gV n (.func (.func 25) #[] #[.pointer (some ⟨bf, 0, none⟩), .pointer (some ⟨bl, 0, none⟩)]) w0 rs (m.set x true) z1) := by unfold Hid; rw [← hz1]; exact HW.out.set x
    have T1 : Hid (T t z1) := by unfold Hid; rw [← hz1]; exact HT1.out m t z x HW.out HT.out
    rw [hz1]
    clear hz1 c1 cm fm
    obtain ⟨r, hrx⟩ : ∃ r, rs[x]? = some r := ⟨_, List.getElem?_eq_getElem (by rw [W1.out.lv.len]; exact hx)⟩
    obtain ⟨ys, hy1, hy2, hy3, hy4⟩ := HA.out x r hrx
    obtain ⟨a1, ca, hv1, -, -⟩ := own_slice (W1.out.lv.she.get hrx)
    have HRX : Hid (rs[x]? = some r) := hrx
    have HY : Hid (r.xs = ys.map (Value.int .i32) ∧ ∀ y, y ∈ ys ↔ (⟨(x : Int), y⟩ : Pr) ∈ ps) := ⟨hy2, hy4⟩
    have HV : Hid (r.v = .slice a1 r.n ca) := hv1
    have cn := W1.out.xn.one
    have cr := (W1.out.lv.cell hrx).1
    rw [hv1, hy1] at cr
    have hyl : ys.length ≤ 17592186044416 := by omega
    have HN : Hid (r.n = ys.length) := hy1
    clear hrx hy1 hy2 hy3 hy4 hv1
    go_wp2
    clear cn cr
    go_loopg [20] ys.length (fun gk si wr => ∃ (j : Nat) (m1 : List Bool) (t1 : List Nat), gk = ys.length - j ∧ si = .int .i64 (j : Int) ∧ j ≤ ys.length ∧ Wc B bm bn bk bt gm gV n (.func (.func 25) #[] #[.pointer (some ⟨bf, 0, none⟩), .pointer (some ⟨bl, 0, none⟩)]) w0 rs m1 wr ∧ T t1 wr ∧ Dq ps (Rch ps x) (m.set x true) t m1 t1 ∧ ∀ (i : Nat) (y : Nat), i < j → ys[i]? = some (y : Int) → m1[y]? = some true)
    case atStart => exact ⟨0, _, _, rfl, rfl, Nat.zero_le _, W1.out, T1.out, Dq.refl _ _ _ _, fun i y h => absurd h (Nat.not_lt_zero _)⟩
    case round =>
      obtain ⟨j, m1, t1, hgk, rfl, hj, hW1, hT1, hD1, hd1⟩ := hrel
      clear W1 T1
      have W1 : Hid (Wc B bm bn bk bt gm gV n (.func (.func 25) #[] #[.pointer (some ⟨bf, 0, none⟩), .pointer (some ⟨bl, 0, none⟩)]) w0 rs m1 wr) := hW1
      have T1 : Hid (T t1 wr) := hT1
      have D1 : Hid (Dq ps (Rch ps x) (m.set x true) t m1 t1) := hD1
      have E1 : Hid (∀ (i : Nat) (y : Nat), i < j → ys[i]? = some (y : Int) → m1[y]? = some true) := hd1
      clear hW1 hT1 hD1 hd1
      by_cases hjy : j < ys.length
      · have hjy' : (j : Int) < (ys.length : Int) := by omega
        obtain ⟨y, hy⟩ : ∃ y, ys[j]? = some y := ⟨_, List.getElem?_eq_getElem hjy⟩
        have hmem := (HY.out.2 y).1 (List.mem_of_getElem? hy)
        obtain ⟨hy0, hyn⟩ := HPS.out _ hmem
        obtain ⟨yn, rfl⟩ : ∃ yn : Nat, y = (yn : Int) := ⟨y.toNat, by simp only at hy0; omega⟩
        simp only at hy0 hyn
        have HYJ : Hid (ys[j]? = some (yn : Int) ∧ (⟨(x : Int), (yn : Int)⟩ : Pr) ∈ ps) := ⟨hy, hmem⟩
        obtain ⟨g, ha⟩ : ∃ g, a1 = some ⟨g, 0, none⟩ := by
          obtain ⟨a9, c9, hv9, h9, -⟩ := own_slice (W1.out.lv.she.get HRX.out)
          rw [HV.out] at hv9
          simp only [Value.slice.injEq] at hv9
          obtain ⟨rfl, -, rfl⟩ := hv9
          exact h9 (by rw [HN.out]; omega)
        subst ha
        have cy : wr.cell? ⟨g, j, none⟩ = some (.int .i32 (yn : Int)) := by
          have h9 := W1.out.lv.she.get HRX.out
          rw [HV.out, HY.out.1] at h9
          have h8 := h9.cells rfl j (.int .i32 (yn : Int)) (by rw [List.getElem?_map, hy]; rfl)
          rwa [addr_add, Nat.zero_add] at h8
        have ck := W1.out.xk.one
        have kw : IntKind.i64.wrap (yn : Int) = (yn : Int) := IntWalk.i64_in _ ⟨by omega, by omega⟩
        have hlt : unm m1 < unm m := by
          have h8 := D1.out.unm_le
          have h9 := unm_set m x HBB.out
          omega
        have hc1 : t1.length + unm m1 ≤ n := by
          have h8 := D1.out.cnt
          have h9 := unm_set m x HBB.out
          omega
        clear hy hmem
        go_wp2_with (go_at_call 50; (with_reducible refine (IH.out yn m1 t1 wr (by omega) hlt hc1 W1.out T1.out).mono ?_); rintro e v1 ⟨⟨v, rfl⟩, m2, t2, hW2, hT2, hD2, hm2⟩; have W2 : Hid (Wc B bm bn bk bt gm gV n (.func (.func 25) #[] #[.pointer (some ⟨bf, 0, none⟩), .pointer (some ⟨bl, 0, none⟩)]) w0 rs m2 v1) := hW2; have T2 : Hid (T t2 v1) := hT2; have D2 : Hid (Dq ps (Rch ps yn) m1 t1 m2 t2) := hD2; have M2 : Hid (m2[yn]? = some true) := hm2; clear hW2 hT2 hD2 hm2)
        go_roundg (ys.length - (j + 1))
        case measure => omega
        case rel =>
          refine ⟨j + 1, m2, t2, rfl, by go_num, by omega, W2.out, T2.out, D1.out.trans D2.out (fun y h => .step HYJ.out.2 h), fun i y hi hyi => ?_⟩
          rcases Nat.lt_succ_iff_lt_or_eq.1 hi with h | h
          · exact D2.out.mono y (E1.out i y h hyi)
          · subst h
            have h9 := HYJ.out.1
            rw [hyi] at h9
            have h8 : y = yn := by have := Option.some.inj h9; omega
            rw [h8]
            exact M2.out
      · have hjy' : ¬ (j : Int) < (ys.length : Int) := by omega
        have ct := W1.out.xt.one
        have hc1 : t1.length < n := by
          have h8 := D1.out.cnt
          have h9 := unm_set m x HBB.out
          omega
        go_wp2_with (go_at_call 25; (with_reducible refine (HTL.out m1 t1 wr x hx hc1 W1.out T1.out).mono ?_); rintro e v1 ⟨⟨v, rfl⟩, hW2, hT2⟩; have W2 : Hid (Wc B bm bn bk bt gm gV n (.func (.func 25) #[] #[.pointer (some ⟨bf, 0, none⟩), .pointer (some ⟨bl, 0, none⟩)]) w0 rs m1 v1) := hW2; have T2 : Hid (T (t1 ++ [x]) v1) := hT2; clear hW2 hT2)
        go_end0
        refine ⟨⟨_, rfl⟩, m1, t1 ++ [x], W2.out, T2.out, Dq.node HBB.out D1.out (fun y' he => ?_), D1.out.mono x (by rw [List.getElem?_set, if_pos rfl, if_pos (by rw [HW.out.mlen]; exact hx)])⟩
        obtain ⟨i, hi⟩ := List.getElem?_of_mem ((HY.out.2 (y' : Int)).2 he)
        exact E1.out i y' (by have := (List.getElem?_eq_some_iff.1 hi).1; omega) hi
end Go.Proofs.Ytgijcbipnjmhgab
