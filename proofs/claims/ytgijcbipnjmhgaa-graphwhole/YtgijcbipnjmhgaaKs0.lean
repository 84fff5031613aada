import Derived.Test.YtgijcbipnjmhgaaHp4
import Derived.Test.YtgijcbipnjmhgaaGl
namespace Go.Proofs.Ytgijcbipnjmhgaa
open Go.ChangeShapes Go.WideShapes Go.ChangeAt Go.RowKit
set_option linter.unusedVariables false
set_option linter.unusedSimpArgs false
set_option maxRecDepth 1000000

theorem m_pop (b : Nat) (w : World) : (method 241 70 (.pointer (some ⟨b, 0, none⟩)) "Pop").run Try.prog w = .ok (116, .pointer (some ⟨b, 0, none⟩)) w := by
  obtain ⟨k, hk⟩ : ∃ k, k + 1 = 241 := ⟨241 - 1, rfl⟩
  rw [← hk]
  unfold method
  have hf : Array.find? (fun x => x.name == "Pop") Try.t70.methods = some Try.t70.methods[2]! := by kernel_rfl
  have hp : Try.t70.methods[2]!.path = #[] := by kernel_rfl
  have hg : Try.t70.methods[2]!.func = some (116, true) := by kernel_rfl
  go_simp
  simp [follow, receiverAt, Place.get, asAddr]
  try go_simp
theorem m_push (b : Nat) (w : World) : (method 241 70 (.pointer (some ⟨b, 0, none⟩)) "Push").run Try.prog w = .ok (117, .pointer (some ⟨b, 0, none⟩)) w := by
  obtain ⟨k, hk⟩ : ∃ k, k + 1 = 241 := ⟨241 - 1, rfl⟩
  rw [← hk]
  unfold method
  have hf : Array.find? (fun x => x.name == "Push") Try.t70.methods = some Try.t70.methods[3]! := by kernel_rfl
  have hp : Try.t70.methods[3]!.path = #[] := by kernel_rfl
  have hg : Try.t70.methods[3]!.func = some (117, true) := by kernel_rfl
  go_simp
  simp [follow, receiverAt, Place.get, asAddr]
  try go_simp
/-- the row's block is as before, or new -/
def Nb (w : World) (V V' : Value) : Prop := V'.ownBlock = V.ownBlock ∨ ∃ g, V'.ownBlock = some g ∧ w.heap.size ≤ g
theorem Nb.mv {B b : Nat} {w v u : World} {V V' : Value} (h : Mv B b V.ownBlock w v) (hn : Nb w V V') (k : Mv B b V'.ownBlock v u) : Mv B b V.ownBlock w u :=
  h.trans k (by
    rcases hn with e | ⟨g, e, hg⟩
    · exact .inl e
    · refine .inr fun g' e' => ?_
      rw [e] at e'
      cases e'
      exact hg)
set_option maxHeartbeats 4000000 in
theorem push_any {B b : Nat} {w : World} {V : Value} {xs : List Int} (x : Int) (h : Hq B b w V xs) (hh : Hpp xs xs.length) (hn : xs.length ≤ 549755813888) :
    Calls Try.prog 48 #[hpI b, .iface 3 (.int .i64 x)] w fun e w' => (∃ r, e = .returned r) ∧ ∃ V' ys, Hq B b w' V' ys ∧ Hpp ys ys.length ∧ ys.Perm (xs ++ [x]) ∧ Nb w V V' ∧ Mv B b V.ownBlock w w' := by
  obtain ⟨n, hl⟩ : ∃ n, xs.length = n := ⟨_, rfl⟩
  have HH : Hid (Hq B b w V xs) := h
  have HP : Hid (HpU (xs ++ [x]) (n + 1) n) := by rw [← hl]; exact hh.push x
  have HL : Hid (xs.length = n ∧ n ≤ 549755813888) := ⟨hl, by omega⟩
  have mp := m_push b w
  have k1 : IntKind.i64.wrap (((n + 1 : Nat) : Int) - 1) = (n : Int) := by rw [IntWalk.i64_in _ ⟨by omega, by omega⟩]; omega
  have k2 : IntKind.i64.wrap ((n : Int) + 1 - 1) = (n : Int) := by rw [IntWalk.i64_in _ ⟨by omega, by omega⟩]; omega
  have k3 : IntKind.i64.wrap (n : Int) = (n : Int) := by rw [IntWalk.i64_in _ ⟨by omega, by omega⟩]
  clear h hh hl hn
  go_enter Try.func48, Try.ntmps48
  go_wp2_with (first
    | (go_at_call 117; (with_reducible refine (rpush_any HH.out x (by have := HL.out; omega)).mono ?_); rintro e w1 ⟨⟨r1, rfl⟩, V1, hq1, hn1, hm1⟩; have H1 := hidH hq1; have N1 := hidH hn1; have M1 := hidH hm1; have c1 := hq1.at0; have ml1 := m_len b V1 w1 c1; obtain ⟨a1, p1, hV1, hz1⟩ := hq1.form; rw [List.length_append, List.length_singleton, HL.out.1] at hV1; clear hz1 hq1 hn1 hm1; subst hV1)
    | (go_at_call 113; (with_reducible refine (rlen_any a1 (n + 1) p1 _).mono ?_); rintro e w2 ⟨rfl, rfl⟩)
    | (go_at_call 61; (with_reducible refine (up_any (n + 1) n (by rw [List.length_append, List.length_singleton, HL.out.1]) (by omega) (by have := HL.out; omega) H1.out HP.out).mono ?_); rintro e w3 ⟨⟨r3, rfl⟩, ys, hq3, hp3, hr3, hm3⟩; have H3 := hidH hq3; have P3 := hidH hp3; have R3 := hidH hr3; have M3 := hidH hm3; clear hq3 hp3 hr3 hm3))
  go_end0
  exact ⟨⟨_, rfl⟩, _, ys, H3.out, by rw [R3.out.length_eq, List.length_append, List.length_singleton, HL.out.1]; exact P3.out, R3.out, N1.out, Nb.mv M1.out N1.out M3.out⟩
set_option maxHeartbeats 4000000 in
theorem pop_any {B b : Nat} {w : World} {V : Value} {xs : List Int} (n : Nat) (hl : xs.length = n + 1) (h : Hq B b w V xs) (hh : Hpp xs (n + 1)) (hn : n ≤ 549755813888) :
    Calls Try.prog 47 #[hpI b] w fun e w' => ∃ m, e = .returned (.iface 3 (.int .i64 m)) ∧ (∀ x ∈ xs, m ≤ x) ∧ ∃ V' ys, Hq B b w' V' ys ∧ Hpp ys n ∧ ys.length = n ∧ (m :: ys).Perm xs ∧ V'.ownBlock = V.ownBlock ∧ Mv B b V.ownBlock w w' := by
  have HH : Hid (Hq B b w V xs) := h
  have HP : Hid (HpD (sw xs 0 n) n 0) := hh.pop hl.symm
  have HM : Hid (∀ x ∈ xs, xs[0]! ≤ x) := fun x hx => by
    obtain ⟨i, hi, rfl⟩ := List.mem_iff_getElem.mp hx
    have := hh.min i i (Nat.le_refl _) (by omega)
    rw [getElem!_pos xs i hi] at this
    exact this
  have HL : Hid (xs.length = n + 1 ∧ n ≤ 549755813888) := ⟨hl, hn⟩
  have HS : Hid (Calls Try.prog 115 #[V, .int .i64 0, .int .i64 (n : Int)] w fun e w' => (∃ x, e = .returned x) ∧ Hq B b w' V (sw xs 0 n) ∧ Mv B b V.ownBlock w w') := rswap_any h 0 n (by omega) (by omega)
  have c0 := h.at0
  have ml0 := m_len b V w c0
  have ms0 := m_swap b V w c0
  obtain ⟨a, c, hV, hz⟩ := h.form
  have k1 : IntKind.i64.wrap (((n + 1 : Nat) : Int) - 1) = (n : Int) := by rw [IntWalk.i64_in _ ⟨by omega, by omega⟩]; omega
  have k2 : IntKind.i64.wrap ((n : Int) + 1 - 1) = (n : Int) := by rw [IntWalk.i64_in _ ⟨by omega, by omega⟩]; omega
  have k3 : IntKind.i64.wrap (n : Int) = (n : Int) := by rw [IntWalk.i64_in _ ⟨by omega, by omega⟩]
  rw [hl] at hV
  clear h hh hl hn hz
  subst hV
  go_enter Try.func47, Try.ntmps47
  go_wp2_with (first
    | (go_at_call 113; (with_reducible refine (rlen_any a (n + 1) c _).mono ?_); rintro e w2 ⟨rfl, rfl⟩)
    | (go_at_call 115; (with_reducible refine (HS.out).mono ?_); rintro e w3 ⟨⟨x3, rfl⟩, hq3, hm3⟩; have H3 := hidH hq3; have M3 := hidH hm3; clear hq3 hm3)
    | (go_at_call 60; (with_reducible refine (down_any n (n + 1) (by rw [sw_len]; exact HL.out.1) (by omega) (by have := HL.out; omega) H3.out HP.out).mono ?_); rintro e w4 ⟨⟨r4, rfl⟩, ys, hq4, hp4, hr4, ht4, hm4⟩; have H4 := hidH hq4; have P4 := hidH hp4; have R4 := hidH hr4; have T4 := hidH ht4; have M4 := hidH (M3.out.trans hm4 (.inl rfl)); have mp4 := m_pop b w4; clear hq4 hp4 hr4 ht4 hm4; obtain ⟨m5, em5⟩ : ∃ m : Int, ys[n]! = m := ⟨_, rfl⟩; have E5 := hidH em5; clear em5; have Q5 := hidH (rpop_any H4.out n (by rw [R4.out.length_eq, sw_len]; exact HL.out.1) (by have := HL.out; omega)); rw [E5.out] at Q5)
    | (go_at_call 116; (with_reducible refine (Q5.out).mono ?_); rintro e w5 ⟨rfl, V5, hq5, hn5, hm5⟩; have H5 := hidH hq5; have N5 := hidH hn5; have M5 := hidH (M4.out.trans hm5 (.inl rfl)); clear hq5 hn5 hm5))
  go_ret
  have hyl : ys.length = n + 1 := by rw [R4.out.length_eq, sw_len]; exact HL.out.1
  have hlast : ys[n]! = xs[0]! := by
    rw [T4.out n (Nat.le_refl _), sw_get xs (by have := HL.out; omega) (by have := HL.out; omega), if_pos rfl]
  refine ⟨xs[0]!, by rw [← hlast, E5.out]; rfl, HM.out, V5, ys.take n, H5.out, P4.out.take (by omega), by rw [List.length_take]; omega, ?_, N5.out, M5.out⟩
  refine List.Perm.trans ?_ (R4.out.trans (sw_perm xs (by have := HL.out; omega) (by have := HL.out; omega)))
  rw [← hlast]
  have e : ys = ys.take n ++ [ys[n]!] := by
    rw [getElem!_pos ys n (by omega)]
    conv => lhs; rw [← List.take_append_drop n ys]
    rw [List.drop_eq_getElem_cons (by omega), List.drop_eq_nil_of_le (by omega)]
  conv => rhs; rw [e]
  exact (List.perm_append_singleton _ _).symm
end Go.Proofs.Ytgijcbipnjmhgaa

namespace Go.Proofs.Ytgijcbipnjmhgaa
set_option linter.unusedVariables false
set_option linter.unusedSimpArgs false

/-- the order of what is told: what a told thing needs is told by then, or was marked ahead, or comes to the thing that is told -/
def Od (ps : List Pr) (m : List Bool) (s : List Nat) : Prop := ∀ (s1 : List Nat) (x : Nat) (s2 : List Nat), s = s1 ++ x :: s2 → ∀ u : Nat, u ∈ s1 ++ [x] → ∀ z : Nat, (⟨(u : Int), (z : Int)⟩ : Pr) ∈ ps → m[z]? = some true ∨ z ∈ s1 ++ [x] ∨ Rch ps z x
/-- a walk, with the order of what it tells -/
structure Dk (ps : List Pr) (P : Nat → Prop) (m : List Bool) (t : List Nat) (m' : List Bool) (t' : List Nat) : Prop extends Dq ps P m t m' t' where
  od : ∃ s, t' = t ++ s ∧ Od ps m s
theorem Dk.refl (ps : List Pr) (P : Nat → Prop) (m : List Bool) (t : List Nat) : Dk ps P m t m t :=
  ⟨Dq.refl ps P m t, [], by simp, fun s1 x s2 h => by simp at h⟩
theorem app_split {a b s1 s2 : List Nat} {x : Nat} (h : a ++ b = s1 ++ x :: s2) : (∃ r, a = s1 ++ x :: r) ∨ ∃ c, s1 = a ++ c ∧ b = c ++ x :: s2 := by
  rcases List.append_eq_append_iff.1 h with ⟨c, h1, h2⟩ | ⟨c, h1, h2⟩
  · exact .inr ⟨c, h1, h2⟩
  · cases c with
    | nil => exact .inr ⟨[], by simpa using h1.symm, by simpa using h2.symm⟩
    | cons y c =>
      simp only [List.cons_append, List.cons.injEq] at h2
      obtain ⟨rfl, -⟩ := h2
      exact .inl ⟨c, h1⟩
theorem Dk.trans {ps : List Pr} {P P' : Nat → Prop} {m m1 m2 : List Bool} {t t1 t2 : List Nat} (h : Dk ps P m t m1 t1) (k : Dk ps P' m1 t1 m2 t2) (hP : ∀ y, P' y → P y) : Dk ps P m t m2 t2 := by
  refine ⟨h.toDq.trans k.toDq hP, ?_⟩
  obtain ⟨sa, ha, oa⟩ := h.od
  obtain ⟨sb, hb, ob⟩ := k.od
  obtain ⟨sa', ha', -, hn, hz⟩ := h.told
  obtain rfl : sa' = sa := List.append_cancel_left (ha'.symm.trans ha)
  refine ⟨sa' ++ sb, by rw [hb, ha, List.append_assoc], fun s1 x s2 e u hu z he => ?_⟩
  rcases app_split e with ⟨r, e1⟩ | ⟨c, rfl, e2⟩
  · exact oa s1 x r e1 u hu z he
  · have hin : ∀ y : Nat, m1[y]? = some true → m[y]? = some true ∨ y ∈ (sa' ++ c) ++ [x] := fun y hy => by
      rcases hz y hy with h1 | h1
      · exact .inl h1
      · exact .inr (List.mem_append_left _ (List.mem_append_left _ h1))
    have hu' : u ∈ sa' ∨ u ∈ c ++ [x] := by
      rw [List.append_assoc] at hu
      exact List.mem_append.1 hu
    rcases hu' with h1 | h1
    · rcases hin z (h.closed u z (hn u h1).1 (hn u h1).2 he) with h2 | h2
      · exact .inl h2
      · exact .inr (.inl h2)
    · rcases ob c x s2 e2 u h1 z he with h2 | h2 | h2
      · rcases hin z h2 with h3 | h3
        · exact .inl h3
        · exact .inr (.inl h3)
      · exact .inr (.inl (by rw [List.append_assoc]; exact List.mem_append_right _ h2))
      · exact .inr (.inr h2)
theorem Dk.node {ps : List Pr} {x : Nat} {m m1 : List Bool} {t t1 : List Nat} (hx : m[x]? = some false) (h : Dk ps (Rch ps x) (m.set x true) t m1 t1) (hd : ∀ y' : Nat, (⟨(x : Int), (y' : Int)⟩ : Pr) ∈ ps → m1[y']? = some true) : Dk ps (Rch ps x) m t m1 (t1 ++ [x]) := by
  refine ⟨h.toDq.node hx hd, ?_⟩
  have hl := (List.getElem?_eq_some_iff.1 hx).1
  have hset : ∀ y : Nat, (m.set x true)[y]? = some true → y = x ∨ m[y]? = some true := fun y hy => by
    by_cases e : y = x
    · exact .inl e
    · rw [List.getElem?_set, if_neg (fun e2 => e e2.symm)] at hy; exact .inr hy
  obtain ⟨s, hs, os⟩ := h.od
  obtain ⟨s', hs', -, hn, hz⟩ := h.told
  obtain rfl : s' = s := List.append_cancel_left (hs'.symm.trans hs)
  refine ⟨s' ++ [x], by rw [hs, List.append_assoc], fun s1 y s2 e u hu z he => ?_⟩
  rcases app_split e with ⟨r, e1⟩ | ⟨c, rfl, e2⟩
  · have hys : y ∈ s' := by rw [e1]; simp
    rcases os s1 y r e1 u hu z he with h1 | h1 | h1
    · rcases hset z h1 with h2 | h2
      · subst h2
        rcases h.reach y (hn y hys).2 with h3 | h3
        · exact (tf h3 (hn y hys).1).elim
        · exact .inr (.inr h3)
      · exact .inl h2
    · exact .inr (.inl h1)
    · exact .inr (.inr h1)
  · cases c with
    | cons a c => simp at e2
    | nil =>
      simp only [List.nil_append, List.cons.injEq] at e2
      obtain ⟨rfl, -⟩ := e2
      rw [List.append_nil] at hu ⊢
      have hm : m1[z]? = some true := by
        rcases List.mem_append.1 hu with h1 | h1
        · exact h.closed u z (hn u h1).1 (hn u h1).2 he
        · rw [List.mem_singleton] at h1; subst h1; exact hd z he
      rcases hz z hm with h1 | h1
      · rcases hset z h1 with h2 | h2
        · subst h2; exact .inr (.inl (by simp))
        · exact .inl h2
      · exact .inr (.inl (List.mem_append_left _ h1))
/-- the whole list: what is needed by what is told up to x is told by then, or comes to x -/
def Fnl (ps : List Pr) (t : List Nat) : Prop := ∀ (s1 : List Nat) (x : Nat) (s2 : List Nat), t = s1 ++ x :: s2 → ∀ u : Nat, u ∈ s1 ++ [x] → ∀ z : Nat, (⟨(u : Int), (z : Int)⟩ : Pr) ∈ ps → z ∈ s1 ++ [x] ∨ Rch ps z x
theorem Od.fin {ps : List Pr} {n : Nat} {s : List Nat} (h : Od ps (List.replicate n false) s) : Fnl ps s := fun s1 x s2 e u hu z he => by
  rcases h s1 x s2 e u hu z he with h1 | h1
  · rw [List.getElem?_replicate] at h1
    split at h1 <;> cases h1
  · exact h1
/-- a way to x, by its things -/
inductive RP (ps : List Pr) (x : Nat) : List Nat → Prop
  | one : RP ps x [x]
  | cons {y p : Nat} {l : List Nat} : (⟨(y : Int), (p : Int)⟩ : Pr) ∈ ps → RP ps x (p :: l) → RP ps x (y :: p :: l)
theorem Rch.rp {ps : List Pr} {y x : Nat} (h : Rch ps y x) : ∃ l, RP ps x (y :: l) := by
  induction h with
  | refl x => exact ⟨[], .one⟩
  | step e _ ih =>
    obtain ⟨l, hl⟩ := ih
    exact ⟨_, .cons e hl⟩
theorem RP.cross {ps : List Pr} {x : Nat} {A : Nat → Prop} (hx : ¬ A x) : ∀ {l : List Nat}, RP ps x l → ∀ y l', l = y :: l' → A y → ∃ u z : Nat, (⟨(u : Int), (z : Int)⟩ : Pr) ∈ ps ∧ A u ∧ ¬ A z ∧ z ∈ l' := by
  intro l h
  induction h with
  | one => intro y l' e hy; cases e; exact absurd hy hx
  | @cons a p l he hr ih =>
    intro y l' e hy
    injection e with e1 e2
    subst e1 e2
    by_cases hp : A p
    · obtain ⟨u, z, h1, h2, h3, h4⟩ := ih p l rfl hp
      exact ⟨u, z, h1, h2, h3, List.mem_cons_of_mem _ h4⟩
    · exact ⟨a, p, he, hy, hp, List.mem_cons_self⟩
/-- from the last that was told and is left: what comes to it is come to -/
theorem kos_path {ps : List Pr} {t pre rest : List Nat} {x : Nat} (ht : t.Nodup) (hf : Fnl ps t) (e : t = pre ++ x :: rest) : ∀ {l : List Nat}, RP ps x l → (∀ v ∈ l, v ∈ pre ++ [x]) → ∀ v ∈ l, Rch ps x v := by
  intro l h
  induction h with
  | one => intro _ v hv; rw [List.mem_singleton] at hv; subst hv; exact .refl _
  | @cons y p l he hr ih =>
    intro hin v hv
    have ih' := ih (fun v hv => hin v (List.mem_cons_of_mem _ hv))
    rcases List.mem_cons.1 hv with hvy | hv
    · subst hvy
      by_cases hyx : v = x
      · subst hyx; exact .refl _
      · have hvp : v ∈ pre := by
          rcases List.mem_append.1 (hin v List.mem_cons_self) with h1 | h1
          · exact h1
          · rw [List.mem_singleton] at h1; exact absurd h1 hyx
        obtain ⟨s1, s2, hs⟩ := List.append_of_mem hvp
        have ht2 : t = s1 ++ v :: (s2 ++ x :: rest) := by rw [e, hs]; simp
        have hxa : x ∉ s1 ++ [v] := fun hx => by
          rw [ht2, show s1 ++ v :: (s2 ++ x :: rest) = (s1 ++ [v]) ++ (s2 ++ x :: rest) by simp] at ht
          exact (List.nodup_append.1 ht).2.2 x hx x (by simp) rfl
        obtain ⟨u, z, h1, h2, h3, h4⟩ := RP.cross (A := fun a => a ∈ s1 ++ [v]) hxa (.cons he hr) v (p :: l) rfl (by simp)
        rcases hf s1 v (s2 ++ x :: rest) ht2 u h2 z h1 with h5 | h5
        · exact absurd h5 h3
        · exact (ih' z h4).trans h5
    · exact ih' v hv
theorem kos {ps : List Pr} {t pre rest : List Nat} {x y : Nat} {M : Nat → Prop} (ht : t.Nodup) (hf : Fnl ps t) (e : t = pre ++ x :: rest) (hall : ∀ u v : Nat, (⟨(u : Int), (v : Int)⟩ : Pr) ∈ ps → v ∈ t) (hM : ∀ u v : Nat, (⟨(u : Int), (v : Int)⟩ : Pr) ∈ ps → M v → M u) (hr : ∀ v ∈ rest, M v) (hyt : y ∈ t) (hy : ¬ M y) (h : Rch ps y x) : Rch ps x y := by
  obtain ⟨l, hl⟩ := h.rp
  refine kos_path ht hf e hl ?_ y List.mem_cons_self
  have hunm : ∀ {l : List Nat}, RP ps x l → ∀ y l', l = y :: l' → y ∈ t → ¬ M y → ∀ v ∈ l, v ∈ t ∧ ¬ M v := by
    intro l h
    induction h with
    | one => intro y l' e h1 h2 v hv; cases e; rw [List.mem_singleton] at hv; subst hv; exact ⟨h1, h2⟩
    | @cons a p l he hr ih =>
      intro y l' e h1 h2 v hv
      injection e with e1 e2
      subst e1
      rcases List.mem_cons.1 hv with h3 | h3
      · subst h3; exact ⟨h1, h2⟩
      · exact ih p l rfl (hall _ _ he) (fun h4 => h2 (hM _ _ he h4)) v h3
  intro v hv
  obtain ⟨h1, h2⟩ := hunm hl y l rfl hyt hy v hv
  rw [e, show pre ++ x :: rest = (pre ++ [x]) ++ rest by simp] at h1
  rcases List.mem_append.1 h1 with h3 | h3
  · exact h3
  · exact absurd (hr v h3) h2
end Go.Proofs.Ytgijcbipnjmhgaa
