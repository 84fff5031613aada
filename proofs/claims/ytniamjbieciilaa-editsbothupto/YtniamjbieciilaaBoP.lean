import Derived.Test.YtniamjbieciilaaMgP
namespace Go.Proofs.Ytniamjbieciilaa
open Go.ChangeShapes Go.WideShapes Go.ChangeAt Go.RowKit
set_option linter.unusedVariables false

/-- edits one behind the other, that may touch -/
def wck (size : Int) : Int → List Ed → Prop
  | _, [] => True
  | L, e :: r => 0 ≤ e.f ∧ e.f ≤ e.t ∧ e.t ≤ size ∧ L ≤ e.f ∧ wck size e.t r

theorem wck_mono {size L L' : Int} {l : List Ed} (h : wck size L l) (hL : L' ≤ L) : wck size L' l := by
  cases l with
  | nil => trivial
  | cons e r => obtain ⟨h1, h2, h3, h4, h5⟩ := h; exact ⟨h1, h2, h3, by omega, h5⟩

theorem wck_chk {size L : Int} : ∀ {l : List Ed}, chk size L l = 0 → wck size L l := by
  intro l
  induction l generalizing L with
  | nil => intro _; trivial
  | cons e r ih =>
    intro h
    obtain ⟨h1, h2, h3, h4, h5⟩ := chk_cons h
    exact ⟨h1, h2, h3, h4, wck_mono (ih h5) (by omega)⟩

theorem chk_wider {size size' L : Int} {l : List Ed} (h : chk size L l = 0) (hs : size ≤ size') : chk size' L l = 0 := by
  induction l generalizing L with
  | nil => rfl
  | cons e r ih =>
    obtain ⟨h1, h2, h3, h4, h5⟩ := chk_cons h
    rw [chk, if_pos ⟨h1, h2, by omega⟩, if_neg (by omega)]
    exact ih h5

theorem chk_later {size L : Int} {e : Ed} {r : List Ed} (h : chk size L (e :: r) = 0) : ∀ z ∈ r, e.t < z.f := by
  induction r generalizing e L with
  | nil => simp
  | cons y t ih =>
    obtain ⟨h1, h2, h3, h4, h5⟩ := chk_cons h
    obtain ⟨k1, k2, k3, k4, k5⟩ := chk_cons h5
    intro z hz
    rcases List.mem_cons.1 hz with rfl | hz
    · omega
    · have := ih h5 z hz; omega

theorem chk_first {size L : Int} {l : List Ed} (h : chk size L l = 0) : ∀ z ∈ l, L ≤ z.f := by
  cases l with
  | nil => simp
  | cons e r =>
    obtain ⟨h1, h2, h3, h4, h5⟩ := chk_cons h
    intro z hz
    rcases List.mem_cons.1 hz with rfl | hz
    · exact h4
    · have := chk_later h z hz; omega

/-- joined, they do the same -/
theorem app_jn1 (tx : List UInt8) (a : Nat) : ∀ (r : List Ed) (c : Ed), appF tx a (jn1 c r) = appF tx a (c :: r) := by
  intro r
  induction r generalizing a with
  | nil => intro c; rfl
  | cons e r ih =>
    intro c
    unfold jn1
    split
    · rename_i h
      rw [ih]
      simp only [appF, h]
      simp
    · show (tx.drop a).take (c.f.toNat - a) ++ (c.s.data.toList ++ appF tx c.t.toNat (jn1 e r)) = _
      rw [ih]
      rfl

theorem app_jn (tx : List UInt8) (a : Nat) (l : List Ed) : appF tx a (jn l) = appF tx a l := by
  cases l with
  | nil => rfl
  | cons e r => exact app_jn1 tx a r e

theorem jn1_chk {size L : Int} : ∀ {r : List Ed} {c : Ed}, 0 ≤ c.f → c.f ≤ c.t → c.t ≤ size → L ≤ c.f → wck size c.t r → chk size L (jn1 c r) = 0 := by
  intro r
  induction r generalizing L with
  | nil => intro c h1 h2 h3 h4 _; rw [jn1, chk, if_pos ⟨h1, h2, h3⟩, if_neg (by omega)]; rfl
  | cons e r ih =>
    intro c h1 h2 h3 h4 h5
    obtain ⟨k1, k2, k3, k4, k5⟩ := h5
    unfold jn1
    split
    · exact ih (c := ⟨c.f, e.t, c.s ++ e.s⟩) h1 (by simp only; omega) k3 h4 k5
    · rw [chk, if_pos ⟨h1, h2, h3⟩, if_neg (by omega)]
      exact ih k1 k2 k3 (by omega) k5

theorem jn_chk {size : Int} {l : List Ed} (h : wck size 0 l) : chk size 0 (jn l) = 0 := by
  cases l with
  | nil => rfl
  | cons e r => obtain ⟨h1, h2, h3, h4, h5⟩ := h; exact jn1_chk h1 h2 h3 h4 h5

theorem jn1_apartAll {size L : Int} : ∀ {r : List Ed} {c : Ed}, chk size (c.t + 1) r = 0 → jn1 c r = c :: r := by
  intro r
  induction r with
  | nil => intro c _; rfl
  | cons e r ih =>
    intro c h
    obtain ⟨h1, h2, h3, h4, h5⟩ := chk_cons h
    rw [jn1, if_neg (by omega), ih h5]

theorem jn_good {size L : Int} {l : List Ed} (h : chk size L l = 0) : jn l = l := by
  cases l with
  | nil => rfl
  | cons e r => exact jn1_apartAll (L := L) (chk_cons h).2.2.2.2

theorem mtg_good : ∀ {l : List Ed}, Good l → mtg l = false
  | [], _ => rfl
  | [x], _ => rfl
  | x :: y :: r, h => by
    rw [mtg, mts_good h (i := 0) rfl rfl, Bool.false_or]
    exact mtg_good (good_tail h)

/-- one with nothing -/
theorem mrg_none {size : Int} {a : List Ed} (h : vld size a = 0) : mrg a [] = a ∧ mrgE a [] = 0 := by
  obtain ⟨h1, h2⟩ := vld_chk h
  unfold mrg mrgE
  rw [sbs_right, mtg_good (good_of h1), jn_good h1]
  simp only [Bool.false_eq_true, if_false]
  rw [if_neg (by omega), if_neg (by omega)]
  exact ⟨rfl, rfl⟩

theorem apt_ahd {x y : Ed} (hx : x.f ≤ x.t) (hy : y.f ≤ y.t) (h : Apt x y) : ahd x y = true ∧ ahd y x = false := by
  obtain ⟨h1, h2⟩ := h
  unfold ahd ins
  simp
  omega

/-- each of the one list stands apart of each of the other -/
def Both (a b : List Ed) : Prop := ∀ x ∈ a, ∀ y ∈ b, Apt x y ∨ Apt y x

theorem sbs_turned {a b : List Ed} (ha : ∀ e ∈ a, e.f ≤ e.t) (hb : ∀ e ∈ b, e.f ≤ e.t) (h : Both a b) : sbs b a = sbs a b := by
  induction hn : a.length + b.length generalizing a b with
  | zero =>
    have h1 : a = [] := List.eq_nil_of_length_eq_zero (by omega)
    have h2 : b = [] := List.eq_nil_of_length_eq_zero (by omega)
    subst h1 h2; rfl
  | succ n ih =>
    cases a with
    | nil => rw [sbs_left, sbs_right]
    | cons x a =>
      cases b with
      | nil => rw [sbs_left, sbs_right]
      | cons y b =>
        have hx := ha x (by simp)
        have hy := hb y (by simp)
        rcases h x (by simp) y (by simp) with hh | hh
        · obtain ⟨p1, p2⟩ := apt_ahd hx hy hh
          rw [sbs_a p2, sbs_b p1, ih (a := a) (b := y :: b) (fun e he => ha e (by simp [he])) hb (fun u hu v hv => h u (by simp [hu]) v hv) (by simp at hn ⊢; omega)]
        · obtain ⟨p1, p2⟩ := apt_ahd hy hx hh
          rw [sbs_b p1, sbs_a p2, ih (a := x :: a) (b := b) ha (fun e he => hb e (by simp [he])) (fun u hu v hv => h u hu v (by simp [hv])) (by simp at hn ⊢; omega)]

theorem both_of {a b : List Ed} (ha : ∀ e ∈ a, e.f ≤ e.t) (hb : ∀ e ∈ b, e.f ≤ e.t) (hm : mtg (sbs a b) = false) : Both a b := by
  have hp := mtg_apt (fun e he => by rcases (sbs_mem _ _ _).1 he with h | h; exact ha e h; exact hb e h) hm
  exact sbs_pairs hp

theorem mrg_turned {a b : List Ed} (ha : Good a) (hb : Good b) : mrg b a = mrg a b ∧ mrgE b a = mrgE a b := by
  have ha' := good_mem ha
  have hb' := good_mem hb
  have key : ∀ {a b : List Ed}, (∀ e ∈ a, e.f ≤ e.t) → (∀ e ∈ b, e.f ≤ e.t) → mtg (sbs a b) = false → sbs b a = sbs a b := fun h1 h2 h => sbs_turned h1 h2 (both_of h1 h2 h)
  unfold mrg mrgE
  cases h1 : mtg (sbs a b) with
  | false => rw [key ha' hb' h1, h1]; exact ⟨rfl, rfl⟩
  | true =>
    cases h2 : mtg (sbs b a) with
    | false => have := key hb' ha' h2; rw [this, h2] at h1; cases h1
    | true => exact ⟨rfl, rfl⟩

theorem sbs_wck {size L : Int} {a b : List Ed} {La Lb : Int} (ha : chk size La a = 0) (hb : chk size Lb b = 0) (hLa : L ≤ La) (hLb : L ≤ Lb) (h : Both a b) : wck size L (sbs a b) := by
  induction hn : a.length + b.length generalizing a b L La Lb with
  | zero =>
    have h1 : a = [] := List.eq_nil_of_length_eq_zero (by omega)
    have h2 : b = [] := List.eq_nil_of_length_eq_zero (by omega)
    subst h1 h2; rw [sbs_left]; trivial
  | succ n ih =>
    cases a with
    | nil => rw [sbs_left]; exact wck_mono (wck_chk hb) hLb
    | cons x a =>
      cases b with
      | nil => rw [sbs_right]; exact wck_mono (wck_chk ha) hLa
      | cons y b =>
        obtain ⟨p1, p2, p3, p4, p5⟩ := chk_cons ha
        obtain ⟨q1, q2, q3, q4, q5⟩ := chk_cons hb
        rcases h x (by simp) y (by simp) with hh | hh
        · obtain ⟨r1, r2⟩ := apt_ahd p2 q2 hh
          rw [sbs_a r2]
          refine ⟨p1, p2, p3, by omega, ?_⟩
          refine ih (La := x.t + 1) (Lb := y.f) p5 ?_ (by omega) hh.1 (fun u hu v hv => h u (by simp [hu]) v hv) (by simp at hn ⊢; omega)
          rw [chk, if_pos ⟨q1, q2, q3⟩, if_neg (by omega)]; exact q5
        · obtain ⟨r1, r2⟩ := apt_ahd q2 p2 hh
          rw [sbs_b r1]
          refine ⟨q1, q2, q3, by omega, ?_⟩
          refine ih (La := x.f) (Lb := y.t + 1) ?_ q5 hh.1 (by omega) (fun u hu v hv => h u hu v (by simp [hv])) (by simp at hn ⊢; omega)
          rw [chk, if_pos ⟨p1, p2, p3⟩, if_neg (by omega)]; exact p5

/-- where an edit of the second list stands among those of the first -/
theorem sbs_split {size La Lb : Int} {a b : List Ed} {y : Ed} (ha : chk size La a = 0) (hb : chk size Lb (y :: b) = 0) (h : Both a (y :: b)) :
    ∃ P A, a = P ++ A ∧ (∀ p ∈ P, Apt p y) ∧ (∀ z ∈ A, Apt y z) ∧ sbs a (y :: b) = P ++ y :: sbs A b ∧ sbs a b = P ++ sbs A b := by
  induction a generalizing La with
  | nil => exact ⟨[], [], rfl, by simp, by simp, by rw [sbs_left, sbs_left]; rfl, by rw [sbs_left]; rfl⟩
  | cons x a ih =>
    obtain ⟨p1, p2, p3, p4, p5⟩ := chk_cons ha
    obtain ⟨q1, q2, q3, q4, q5⟩ := chk_cons hb
    rcases h x (by simp) y (by simp) with hh | hh
    · obtain ⟨r1, r2⟩ := apt_ahd p2 q2 hh
      obtain ⟨P, A, e1, e2, e3, e4, e5⟩ := ih p5 (fun u hu v hv => h u (by simp [hu]) v hv)
      refine ⟨x :: P, A, by rw [e1]; rfl, ?_, e3, by rw [sbs_a r2, e4]; rfl, ?_⟩
      · intro p hp
        rcases List.mem_cons.1 hp with rfl | hp
        · exact hh
        · exact e2 p hp
      · cases b with
        | nil => rw [sbs_right, sbs_right] at *; rw [e5]; rfl
        | cons v b =>
          have hyv : y.t < v.f := chk_later hb v (by simp)
          have hv := (chk_cons q5).2.1
          have hxv : Apt x v := ⟨by have := hh.1; omega, fun ⟨c1, c2, c3⟩ => by have := hh.1; omega⟩
          rw [sbs_a (apt_ahd p2 hv hxv).2, e5]; rfl
    · refine ⟨[], x :: a, rfl, by simp, ?_, by rw [sbs_b (apt_ahd q2 p2 hh).1]; rfl, rfl⟩
      intro z hz
      rcases List.mem_cons.1 hz with rfl | hz
      · exact hh
      · have := chk_later ha z hz
        exact ⟨by have := hh.1; omega, fun ⟨c1, c2, c3⟩ => by have := hh.1; omega⟩

/-- the text ahead of what the first edits leave, and where they end -/
def appP (tx : List UInt8) : Nat → List Ed → List UInt8
  | _, [] => []
  | a, e :: r => (tx.drop a).take (e.f.toNat - a) ++ (e.s.data.toList ++ appP tx e.t.toNat r)
def endP : Nat → List Ed → Nat
  | a, [] => a
  | _, e :: r => endP e.t.toNat r

theorem app_split (tx : List UInt8) (P R : List Ed) (a : Nat) : appF tx a (P ++ R) = appP tx a P ++ appF tx (endP a P) R := by
  induction P generalizing a with
  | nil => rfl
  | cons e r ih => rw [List.cons_append, appF, appP, endP, ih]; simp

theorem appP_len {tx : List UInt8} {P : List Ed} {L : Int} {a : Nat} (h : wck tx.length L P) (ha : (a : Int) ≤ L) (hs : a ≤ tx.length) : ((appP tx a P).length : Int) = endP a P - a + grw P ∧ endP a P ≤ tx.length := by
  induction P generalizing L a with
  | nil => simp only [appP, endP, grw, List.length_nil]; omega
  | cons e r ih =>
    obtain ⟨h1, h2, h3, h4, h5⟩ := h
    have := ih (a := e.t.toNat) h5 (by omega) (by omega)
    simp only [appP, endP, grw, List.length_append, List.length_take, List.length_drop, bytes_len]
    omega

theorem wck_left {size : Int} : ∀ {P R : List Ed} {L : Int}, wck size L (P ++ R) → wck size L P
  | [], _, _, _ => trivial
  | e :: r, R, L, h => by obtain ⟨h1, h2, h3, h4, h5⟩ := h; exact ⟨h1, h2, h3, h4, wck_left h5⟩

theorem endP_le {P : List Ed} {a : Nat} {m : Int} (h : ∀ p ∈ P, 0 ≤ p.t ∧ p.t ≤ m) (ha : (a : Int) ≤ m) : (endP a P : Int) ≤ m := by
  induction P generalizing a with
  | nil => exact ha
  | cons e r ih => rw [endP]; exact ih (fun p hp => h p (by simp [hp])) (by have := h e (by simp); omega)

/-- what stands up to a place ahead of the next edit -/
theorem app_ahead {tx : List UInt8} {Q : List Ed} {a m : Nat} (h : ∀ z ∈ Q, (m : Int) ≤ z.f) (hm : a ≤ m) : appF tx a Q = (tx.drop a).take (m - a) ++ appF tx m Q := by
  have e1 : tx.drop m = (tx.drop a).drop (m - a) := by rw [List.drop_drop]; congr 1; omega
  cases Q with
  | nil => simp only [appF]; rw [e1, List.take_append_drop]
  | cons z r =>
    have hz := h z (by simp)
    have e2 : (tx.drop a).take (z.f.toNat - a) = (tx.drop a).take (m - a) ++ (tx.drop m).take (z.f.toNat - m) := by
      rw [e1, show z.f.toNat - a = (m - a) + (z.f.toNat - m) by omega, List.take_add]
    simp only [appF]
    rw [e2, List.append_assoc]

/-- one edit more, done behind the others -/
theorem app_one {tx : List UInt8} {P Q : List Ed} {y : Ed} (hw : wck tx.length 0 (P ++ y :: Q)) (hP : ∀ p ∈ P, p.t ≤ y.f) (hQ : ∀ z ∈ Q, y.t ≤ z.f) :
    ∃ n : Nat, (n : Int) = y.f + grw P ∧ n + (y.t - y.f).toNat ≤ (appF tx 0 (P ++ Q)).length ∧ appF (appF tx 0 (P ++ Q)) 0 [⟨n, n + (y.t - y.f), y.s⟩] = appF tx 0 (P ++ y :: Q) := by
  obtain ⟨hl, he⟩ := appP_len (a := 0) (wck_left hw) (Int.le_refl _) (Nat.zero_le _)
  have hpt : ∀ p ∈ P, 0 ≤ p.t ∧ p.t ≤ y.f := by
    intro p hp
    refine ⟨?_, hP p hp⟩
    have : ∀ {P : List Ed} {L : Int}, wck tx.length L P → ∀ p ∈ P, 0 ≤ p.t := by
      intro P
      induction P with
      | nil => simp
      | cons e r ih =>
        intro L h p hp
        obtain ⟨h1, h2, h3, h4, h5⟩ := h
        rcases List.mem_cons.1 hp with rfl | hp
        · omega
        · exact ih h5 p hp
    exact this (wck_left hw) p hp
  have hy : 0 ≤ y.f ∧ y.f ≤ y.t ∧ y.t ≤ tx.length := by
    have : ∀ {P : List Ed} {L : Int}, wck tx.length L (P ++ y :: Q) → 0 ≤ y.f ∧ y.f ≤ y.t ∧ y.t ≤ tx.length := by
      intro P
      induction P with
      | nil => intro L h; obtain ⟨h1, h2, h3, h4, h5⟩ := h; exact ⟨h1, h2, h3⟩
      | cons e r ih => intro L h; obtain ⟨h1, h2, h3, h4, h5⟩ := h; exact ih h5
    exact this hw
  have hend : (endP 0 P : Int) ≤ y.f := endP_le hpt (by omega)
  obtain ⟨e0, he0⟩ : ∃ e0, endP 0 P = e0 := ⟨_, rfl⟩
  obtain ⟨X, hX⟩ : ∃ X, appP tx 0 P = X := ⟨_, rfl⟩
  obtain ⟨f, hf⟩ := Int.eq_ofNat_of_zero_le hy.1
  obtain ⟨t, ht⟩ := Int.eq_ofNat_of_zero_le (Int.le_trans hy.1 hy.2.1)
  rw [he0] at hl he hend
  rw [hX] at hl
  have hA : (tx.drop e0).take (f - e0) ++ ((tx.drop f).take (t - f) ++ appF tx t Q) = appF tx e0 Q := by
    rw [← app_ahead (a := f) (m := t) (fun z hz => by have := hQ z hz; omega) (by omega), ← app_ahead (a := e0) (m := f) (fun z hz => by have := hQ z hz; omega) (by omega)]
  have hl1 : ((tx.drop e0).take (f - e0)).length = f - e0 := by rw [List.length_take, List.length_drop]; omega
  have hl2 : ((tx.drop f).take (t - f)).length = t - f := by rw [List.length_take, List.length_drop]; omega
  have hS : appF tx 0 (P ++ Q) = (X ++ (tx.drop e0).take (f - e0)) ++ ((tx.drop f).take (t - f) ++ appF tx t Q) := by
    rw [app_split, he0, hX, ← hA]; simp
  have hS2 : appF tx 0 (P ++ Q) = ((X ++ (tx.drop e0).take (f - e0)) ++ (tx.drop f).take (t - f)) ++ appF tx t Q := by
    rw [hS]; simp
  have hn : ((X ++ (tx.drop e0).take (f - e0)).length : Int) = y.f + grw P := by
    rw [List.length_append, hl1]; omega
  refine ⟨(X ++ (tx.drop e0).take (f - e0)).length, hn, ?_, ?_⟩
  · have := congrArg List.length hS
    simp only [List.length_append, hl2] at this
    rw [List.length_append]
    omega
  · obtain ⟨N, hN⟩ : ∃ N, (X ++ (tx.drop e0).take (f - e0)).length = N := ⟨_, rfl⟩
    rw [hN]
    have e1 : ((N : Int) + (y.t - y.f)).toNat = N + (t - f) := by omega
    have hN2 : ((X ++ (tx.drop e0).take (f - e0)) ++ (tx.drop f).take (t - f)).length = N + (t - f) := by rw [List.length_append, hN, hl2]
    rw [appF, appF]
    simp only [Int.toNat_natCast, Nat.sub_zero, List.drop_zero, e1]
    conv => lhs; lhs; rw [hS, List.take_left' hN]
    conv => lhs; rhs; rhs; rw [hS2, List.drop_left' hN2]
    rw [app_split, he0, hX, appF, hf, ht]
    simp

/-- Shift of where it begins -/
theorem sh_both {P A : List Ed} {at_ m : Int} (hP : ∀ p ∈ P, p.t ≤ at_) (hA : ∀ z ∈ A, at_ ≤ z.f ∧ at_ < z.t) : shS at_ m (P ++ A) = some (m + grw P) := by
  induction P generalizing m with
  | nil =>
    simp only [List.nil_append, grw, Int.add_zero]
    induction A with
    | nil => rfl
    | cons z r ih =>
      have := hA z (by simp)
      rw [shS, if_neg (by omega), if_neg (by omega)]
      exact ih (fun z hz => hA z (by simp [hz]))
  | cons e r ih =>
    have := hP e (by simp)
    rw [List.cons_append, shS, if_neg (by omega), if_pos this, ih (fun p hp => hP p (by simp [hp])), grw]
    congr 1
    omega

/-- one step of the play: the edits of the second list from the last to the first -/
theorem both_step {tx : List UInt8} {a b : List Ed} {y : Ed} {La Lb : Int} (ha : chk tx.length La a = 0) (hb : chk tx.length Lb (y :: b) = 0) (hLa : 0 ≤ La) (hLb : 0 ≤ Lb) (h : Both a (y :: b)) :
    ∃ n : Nat, shS y.f 0 a = some ((n : Int) - y.f) ∧ n + (y.t - y.f).toNat ≤ (appF tx 0 (sbs a b)).length ∧ appF (appF tx 0 (sbs a b)) 0 [⟨n, n + (y.t - y.f), y.s⟩] = appF tx 0 (sbs a (y :: b)) := by
  obtain ⟨P, A, e1, e2, e3, e4, e5⟩ := sbs_split ha hb h
  have hw := sbs_wck ha hb hLa hLb h
  rw [e4] at hw
  obtain ⟨q1, q2, q3, q4, q5⟩ := chk_cons hb
  have hQ : ∀ z ∈ sbs A b, y.t ≤ z.f := by
    intro z hz
    rcases (sbs_mem _ _ _).1 hz with hz | hz
    · exact (e3 z hz).1
    · have := chk_later hb z hz; omega
  obtain ⟨n, k1, k2, k3⟩ := app_one hw (fun p hp => (e2 p hp).1) hQ
  refine ⟨n, ?_, by rw [e5]; exact k2, by rw [e5, e4]; exact k3⟩
  have hAz : ∀ z ∈ A, z.f ≤ z.t := fun z hz => (chk_ok ha z (by rw [e1]; simp [hz])).2.1
  rw [e1, sh_both (fun p hp => (e2 p hp).1) (fun z hz => by
    have h1 := (e3 z hz).1
    have h2 := (e3 z hz).2
    have h3 := hAz z hz
    omega)]
  congr 1
  omega
end Go.Proofs.Ytniamjbieciilaa
