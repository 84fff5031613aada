import Derived.Test.YteolfolkolpehaaDoorCm3
namespace Go.Proofs.YteolfolkolpehaaDoor
open Go.ChangeShapes Go.WideShapes Go.ChangeAt Go.RowKit
set_option linter.unusedVariables false

theorem rch_facts (put b : List Ed) (M : Int) (hp : ∀ e ∈ put, e.t ≤ M) (hb : ∀ e ∈ b, e.t ≤ M) (n i j : Nat) (h : Int) (hi : i ≤ put.length) (hj : j ≤ b.length) (hM : h ≤ M) :
    i ≤ (rch put b n i j h).1 ∧ (rch put b n i j h).1 ≤ put.length ∧ j ≤ (rch put b n i j h).2.1 ∧ (rch put b n i j h).2.1 ≤ b.length ∧ h ≤ (rch put b n i j h).2.2 ∧ (rch put b n i j h).2.2 ≤ M := by
  induction n generalizing i j h with
  | zero => simp only [rch]; omega
  | succ n ih =>
    rw [rch]
    split
    · rename_i hc
      obtain ⟨e, he⟩ : ∃ e, put[i]? = some e := ⟨_, List.getElem?_eq_getElem hc.1⟩
      rw [getD_of he] at hc ⊢
      have h1 := hp e (List.mem_of_getElem? he)
      have := ih (i + 1) j (max h e.t) (by omega) hj (by omega)
      omega
    · split
      · rename_i hc
        obtain ⟨e, he⟩ : ∃ e, b[j]? = some e := ⟨_, List.getElem?_eq_getElem hc.1⟩
        rw [getD_of he] at hc ⊢
        have h1 := hb e (List.mem_of_getElem? he)
        have := ih i (j + 1) (max h e.t) hi (by omega) (by omega)
        omega
      · simp only; omega

theorem rch_some (put b : List Ed) (M : Int) (hp : ∀ e ∈ put, e.t ≤ M) (hb : ∀ e ∈ b, e.t ≤ M) (hM : low put b ≤ M) (hn : 0 < put.length + b.length) :
    0 < (rch put b (put.length + b.length) 0 0 (low put b)).1 + (rch put b (put.length + b.length) 0 0 (low put b)).2.1 := by
  obtain ⟨n, hn'⟩ : ∃ n, put.length + b.length = n + 1 := ⟨put.length + b.length - 1, by omega⟩
  rw [hn', rch]
  split
  · rename_i hc
    obtain ⟨e, he⟩ : ∃ e, put[0]? = some e := ⟨_, List.getElem?_eq_getElem hc.1⟩
    rw [getD_of he] at hc ⊢
    have h1 := hp e (List.mem_of_getElem? he)
    have := rch_facts put b M hp hb n 1 0 (max (low put b) e.t) hc.1 (Nat.zero_le _) (by omega)
    simp only [Nat.zero_add]
    omega
  · rename_i hc
    split
    · rename_i hd
      obtain ⟨e, he⟩ : ∃ e, b[0]? = some e := ⟨_, List.getElem?_eq_getElem hd.1⟩
      rw [getD_of he] at hd ⊢
      have h1 := hb e (List.mem_of_getElem? he)
      have := rch_facts put b M hp hb n 0 1 (max (low put b) e.t) (Nat.zero_le _) hd.1 (by omega)
      simp only [Nat.zero_add]
      omega
    · rename_i hd
      exfalso
      cases put with
      | nil =>
        cases b with
        | nil => simp at hn
        | cons e r => apply hd; simp [low, List.getD]
      | cons p q =>
        cases b with
        | nil => apply hc; simp [low, List.getD]
        | cons e r =>
          simp [low, List.getD] at hc hd
          omega

/-- the groups, one by one -/
def gr : Nat → List Ed → List Ed → List Ed → Int → List Ed
  | 0, _, _, _, _ => []
  | n + 1, put, a, b, m =>
    if put.length + b.length = 0 then [] else
    ⟨low put b - m, (rch put b (put.length + b.length) 0 0 (low put b)).2.2 - (m + grw (a.take (rch put b (put.length + b.length) 0 0 (low put b)).1)), ⟨(wv (put.take (rch put b (put.length + b.length) 0 0 (low put b)).1) (b.take (rch put b (put.length + b.length) 0 0 (low put b)).2.1) (low put b) (rch put b (put.length + b.length) 0 0 (low put b)).2.2).toArray⟩⟩ ::
      gr n (put.drop (rch put b (put.length + b.length) 0 0 (low put b)).1) (a.drop (rch put b (put.length + b.length) 0 0 (low put b)).1) (b.drop (rch put b (put.length + b.length) 0 0 (low put b)).2.1) (m + grw (a.take (rch put b (put.length + b.length) 0 0 (low put b)).1))

theorem gr_nil (n : Nat) (a : List Ed) (m : Int) : gr n [] a [] m = [] := by cases n <;> simp [gr]

theorem low_le (put b : List Ed) (M : Int) (hp : ∀ e ∈ put, e.f ≤ M) (hb : ∀ e ∈ b, e.f ≤ M) (hM : 0 ≤ M) : low put b ≤ M := by
  cases put with
  | nil =>
    cases b with
    | nil => exact hM
    | cons e r => exact hb e (List.mem_cons_self ..)
  | cons p q =>
    cases b with
    | nil => exact hp p (List.mem_cons_self ..)
    | cons e r => have := hp p (List.mem_cons_self ..); simp only [low]; omega

theorem low_ge (put b : List Ed) (hp : ∀ e ∈ put, 0 ≤ e.f) (hb : ∀ e ∈ b, 0 ≤ e.f) : 0 ≤ low put b := by
  cases put with
  | nil =>
    cases b with
    | nil => exact Int.le_refl _
    | cons e r => exact hb e (List.mem_cons_self ..)
  | cons p q =>
    cases b with
    | nil => exact hp p (List.mem_cons_self ..)
    | cons e r => have := hp p (List.mem_cons_self ..); have := hb e (List.mem_cons_self ..); simp only [low]; omega

/-- edits in order, none beyond a mark -/
def Nm (M : Int) (e : Ed) : Prop := 0 ≤ e.f ∧ e.f ≤ e.t ∧ e.t ≤ M

theorem rch_all (put b : List Ed) (M : Int) (hM : 0 ≤ M) (hp : ∀ e ∈ put, Nm M e) (hb : ∀ e ∈ b, Nm M e) (hn : 0 < put.length + b.length) :
    0 ≤ low put b ∧ low put b ≤ M ∧ (rch put b (put.length + b.length) 0 0 (low put b)).1 ≤ put.length ∧ (rch put b (put.length + b.length) 0 0 (low put b)).2.1 ≤ b.length ∧ 0 < (rch put b (put.length + b.length) 0 0 (low put b)).1 + (rch put b (put.length + b.length) 0 0 (low put b)).2.1 ∧ low put b ≤ (rch put b (put.length + b.length) 0 0 (low put b)).2.2 ∧ (rch put b (put.length + b.length) 0 0 (low put b)).2.2 ≤ M := by
  have h1 := low_le put b M (fun e he => Int.le_trans (hp e he).2.1 (hp e he).2.2) (fun e he => Int.le_trans (hb e he).2.1 (hb e he).2.2) hM
  have h2 := low_ge put b (fun e he => (hp e he).1) (fun e he => (hb e he).1)
  have h3 := rch_some put b M (fun e he => (hp e he).2.2) (fun e he => (hb e he).2.2) h1 hn
  have h4 := rch_facts put b M (fun e he => (hp e he).2.2) (fun e he => (hb e he).2.2) (put.length + b.length) 0 0 (low put b) (Nat.zero_le _) (Nat.zero_le _) h1
  exact ⟨h2, h1, h4.2.1, h4.2.2.2.1, h3, h4.2.2.2.2.1, h4.2.2.2.2.2⟩

theorem gr_fuel (M : Int) (hM : 0 ≤ M) (n1 : Nat) : ∀ (n2 : Nat) (put a b : List Ed) (m : Int), (∀ e ∈ put, Nm M e) → (∀ e ∈ b, Nm M e) → put.length + b.length ≤ n1 → put.length + b.length ≤ n2 → gr n1 put a b m = gr n2 put a b m := by
  induction n1 with
  | zero =>
    intro n2 put a b m _ _ h _
    have e1 : put = [] := List.eq_nil_of_length_eq_zero (by omega)
    have e2 : b = [] := List.eq_nil_of_length_eq_zero (by omega)
    subst e1; subst e2
    rw [gr_nil, gr_nil]
  | succ n ih =>
    intro n2 put a b m hp hb h h2
    by_cases h0 : put.length + b.length = 0
    · have e1 : put = [] := List.eq_nil_of_length_eq_zero (by omega)
      have e2 : b = [] := List.eq_nil_of_length_eq_zero (by omega)
      subst e1; subst e2
      rw [gr_nil, gr_nil]
    · obtain ⟨k, rfl⟩ : ∃ k, n2 = k + 1 := ⟨n2 - 1, by omega⟩
      obtain ⟨_, _, r1, r2, r3, _, _⟩ := rch_all put b M hM hp hb (by omega)
      rw [gr, gr, if_neg h0, if_neg h0]
      congr 1
      exact ih k _ _ _ _ (fun e he => hp e (List.mem_of_mem_drop he)) (fun e he => hb e (List.mem_of_mem_drop he)) (by simp only [List.length_drop]; omega) (by simp only [List.length_drop]; omega)

/-- one round of groups -/
theorem gr_step {M : Int} (hM : 0 ≤ M) {put a b : List Ed} {m lo hi : Int} {i j : Nat} {x : ByteArray} (hp : ∀ e ∈ put, Nm M e) (hb : ∀ e ∈ b, Nm M e) (hn : 0 < put.length + b.length) (hlo : low put b = lo) (hr : rch put b (put.length + b.length) 0 0 lo = (i, j, hi)) (hx : x = ⟨(wv (put.take i) (b.take j) lo hi).toArray⟩) :
    gr (put.length + b.length) put a b m = ⟨lo - m, hi - (m + grw (a.take i)), x⟩ :: gr ((put.drop i).length + (b.drop j).length) (put.drop i) (a.drop i) (b.drop j) (m + grw (a.take i)) := by
  obtain ⟨k, hk⟩ : ∃ k, put.length + b.length = k + 1 := ⟨put.length + b.length - 1, by omega⟩
  obtain ⟨_, _, r1, r2, r3, _, _⟩ := rch_all put b M hM hp hb hn
  conv => lhs; rw [hk]
  rw [gr, if_neg (by omega)]
  rw [hlo, hr] at r1 r2 r3
  rw [hlo, hr]
  subst hx
  simp only at r1 r2 r3
  congr 1
  exact gr_fuel M hM _ _ _ _ _ _ (fun e he => hp e (List.mem_of_mem_drop he)) (fun e he => hb e (List.mem_of_mem_drop he)) (by simp only [List.length_drop]; omega) (by simp only [List.length_drop]; omega)
end Go.Proofs.YteolfolkolpehaaDoor
