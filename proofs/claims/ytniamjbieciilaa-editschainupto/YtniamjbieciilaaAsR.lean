import Derived.Test.YtniamjbieciilaaAsQ
namespace Go.Proofs.Ytniamjbieciilaa
open Go.ChangeShapes Go.WideShapes Go.ChangeAt Go.RowKit
set_option linter.unusedVariables false

theorem app_upto {tx : List UInt8} {Q : List Ed} {a m : Nat} (h : ∀ z ∈ Q, (m : Int) ≤ z.f) (hm : a ≤ m) : appF tx a Q = (tx.drop a).take (m - a) ++ appF tx m Q := by
  have e1 : tx.drop m = (tx.drop a).drop (m - a) := by rw [List.drop_drop]; congr 1; omega
  cases Q with
  | nil => simp only [appF]; rw [e1, List.take_append_drop]
  | cons z r =>
    have hz := h z (by simp)
    have e2 : (tx.drop a).take (z.f.toNat - a) = (tx.drop a).take (m - a) ++ (tx.drop m).take (z.f.toNat - m) := by
      rw [e1, show z.f.toNat - a = (m - a) + (z.f.toNat - m) by omega, List.take_add]
    simp only [appF]
    rw [e2, List.append_assoc]

/-- the bytes of a row of cells -/
def tbc (tx : List UInt8) : List (Bool × Cel) → List UInt8
  | [] => []
  | (_, .O p) :: r => (tx.drop p.toNat).take 1 ++ tbc tx r
  | (_, .N c) :: r => c :: tbc tx r
  | (_, .E) :: r => tbc tx r
theorem tbc_append (tx : List UInt8) (a b : List (Bool × Cel)) : tbc tx (a ++ b) = tbc tx a ++ tbc tx b := by
  induction a with
  | nil => rfl
  | cons x r ih =>
    obtain ⟨f, t⟩ := x
    cases t <;> simp [tbc, ih]
theorem tbc_fo (tx : List UInt8) (o : Bool) (R : List (Bool × Cel)) : tbc tx (fo o R) = tbc tx R := by
  cases R with
  | nil => rfl
  | cons x r => obtain ⟨f, t⟩ := x; cases t <;> rfl
theorem tbc_run (tx s : List UInt8) : tbc tx (runC s) = s := by
  induction s with
  | nil => rfl
  | cons c r ih => show c :: tbc tx (runC r) = _; rw [ih]
theorem take_one {tx : List UInt8} {p : Nat} (h : p < tx.length) : ∃ c, (tx.drop p).take 1 = [c] := ⟨tx[p], by rw [List.drop_eq_getElem_cons h]; rfl⟩

theorem tbc_drop {tx : List UInt8} {last : Int} {q : Bool} {R : List (Bool × Cel)} (h : Hn tx.length last q R) (h0 : 0 ≤ last) : ∀ k, k < R.length → tbc tx (R.drop k) = (tbc tx R).drop k ∧ tbc tx (R.take k) = (tbc tx R).take k := by
  induction R generalizing last q with
  | nil => intro k hk; simp at hk
  | cons x r ih =>
    intro k hk
    obtain ⟨f, t⟩ := x
    cases k with
    | zero => exact ⟨rfl, by simp [tbc]⟩
    | succ k =>
      simp at hk
      cases t with
      | E => rw [h.1] at hk; simp at hk
      | N c =>
        obtain ⟨i1, i2⟩ := ih h.2 h0 k hk
        simp only [List.drop_succ_cons, List.take_succ_cons, tbc]
        exact ⟨i1, by rw [i2]⟩
      | O p =>
        have h1 := h.1
        have h2 := h.2.1
        obtain ⟨i1, i2⟩ := ih h.2.2.2 (by omega) k hk
        obtain ⟨c, hc⟩ := take_one (tx := tx) (p := p.toNat) (by omega)
        simp only [List.drop_succ_cons, List.take_succ_cons, tbc, hc, List.cons_append, List.nil_append]
        exact ⟨i1, by rw [i2]⟩

theorem tbc_DC {tx : List UInt8} {R : List (Bool × Cel)} (h : Hn tx.length 0 true R) {c : List Ed} {x L : Int} (g : Bool) (hc : chk ((R.length : Int) - 1) L c = 0) (hx0 : 0 ≤ x) (hx : x ≤ L) (hy : x ≤ (R.length : Int) - 1) :
    tbc tx (DC R x g c) = appF (tbc tx R) x.toNat c := by
  induction c generalizing x L g with
  | nil => rw [DC, tbc_fo, appF, (tbc_drop h (Int.le_refl _) x.toNat (by omega)).1]
  | cons e r ih =>
    obtain ⟨h1, h2, h3, h4, h5⟩ := chk_cons hc
    obtain ⟨q', h'⟩ := Hn_drop h (k := x.toNat) (by omega)
    have hl0 := (lst_mono h (j := 0) (k := x.toNat) (Nat.zero_le _)).2
    rw [lst_zero] at hl0
    have ht : ∀ k, k < (fo g (R.drop x.toNat)).length → tbc tx ((fo g (R.drop x.toNat)).take k) = (tbc tx (R.drop x.toNat)).take k := by
      intro k hk
      rw [fo_length] at hk
      have := (tbc_drop h' hl0 k hk).2
      rw [← this]
      cases hd : R.drop x.toNat with
      | nil => rfl
      | cons a s =>
        obtain ⟨f, t⟩ := a
        cases k with
        | zero => rfl
        | succ k => cases t <;> rfl
    rw [DC, appF, tbc_append, tbc_append, tbc_run, ih true h5 (by omega) (by omega) h3, ht _ (by rw [fo_length, List.length_drop]; omega), (tbc_drop h (Int.le_refl _) x.toNat (by omega)).1]
    congr 2
    omega

theorem LC_app {tx : List UInt8} {last : Int} {q : Bool} {R : List (Bool × Cel)} (h : Hn tx.length last q R) (h0 : 0 ≤ last) (t : List UInt8) (ht : t ≠ [] → q = false) : appF tx last.toNat (LC tx.length last t R) = t ++ tbc tx R := by
  induction R generalizing last q t with
  | nil => exact absurd h (by simp [Hn])
  | cons a r ih =>
    obtain ⟨f, u⟩ := a
    cases u with
    | E =>
      obtain ⟨h1, h2, h3⟩ := h
      subst h1
      rw [LC, tbc]
      cases f with
      | true => rw [if_pos (.inl rfl), appF, appF]; simp [tbc]
      | false =>
        obtain ⟨q1, q2⟩ := h3 rfl
        have ht0 : t = [] := by
          cases t with
          | nil => rfl
          | cons c s => have := ht (by simp); rw [q1] at this; cases this
        subst ht0
        rw [if_neg (by simp; omega), appF, List.drop_eq_nil_of_le (by omega)]; rfl
    | N c =>
      obtain ⟨h1, h2⟩ := h
      rw [LC, ih h2 h0 _ (fun _ => rfl), tbc]; simp
    | O p =>
      obtain ⟨h1, h2, h3, h4⟩ := h
      have hc := LC_chk h4 (by omega) []
      have hi := ih h4 (by omega) [] (fun h => absurd rfl h)
      have hu : appF tx p.toNat (LC tx.length (p + 1) [] r) = (tx.drop p.toNat).take 1 ++ tbc tx r := by
        rw [app_upto (m := (p + 1).toNat) (fun z hz => by have := chk_first hc z hz; omega) (by omega), hi, show (p + 1).toNat - p.toNat = 1 by omega]; rfl
      rw [LC, tbc]
      cases f with
      | true =>
        rw [if_pos (.inl rfl), appF]
        simp only
        rw [hu]
        simp
      | false =>
        obtain ⟨q1, q2⟩ := h3 rfl
        have ht0 : t = [] := by
          cases t with
          | nil => rfl
          | cons c s => have := ht (by simp); rw [q1] at this; cases this
        subst ht0 q2
        rw [if_neg (by simp), hu]; rfl

theorem tbc_U {tx : List UInt8} {p k : Nat} (h : p + k = tx.length) : tbc tx (cn false (oseg p k)) = tx.drop p := by
  induction k generalizing p with
  | zero => rw [List.drop_eq_nil_of_le (by omega)]; rfl
  | succ k ih =>
    have hi := ih (p := p + 1) (by omega)
    show (tx.drop (p : Int).toNat).take 1 ++ tbc tx (cn false (oseg ((p : Int) + 1) k)) = _
    rw [show ((p : Int) + 1) = ((p + 1 : Nat) : Int) from rfl, hi, Int.toNat_natCast, show tx.drop (p + 1) = (tx.drop p).drop 1 by rw [List.drop_drop], List.take_append_drop]

/-- one list for two does what both do -/
theorem two_app {tx : List UInt8} {S : Nat} {a b : List Ed} (ha : chk tx.length 0 a = 0) (hS : (S : Int) = tx.length + grw a) (hb : chk S 0 b = 0) :
    appF tx 0 (LT tx.length 0 false [] (DT 0 (IE 0 a tx.length) 0 b)) = appF (appF tx 0 a) 0 b ∧ chk tx.length 0 (LT tx.length 0 false [] (DT 0 (IE 0 a tx.length) 0 b)) = 0 := by
  have hwX : wdt (IE 0 a tx.length) = S := by rw [wdt_IE (ch_chk ha (Int.le_refl _) (by omega))]; omega
  have hlU : ((cn false (oseg 0 tx.length)).length : Int) - 1 = tx.length := by rw [cn_len, wdt_oseg]; omega
  have hHU : Hn tx.length 0 true (cn false (oseg 0 tx.length)) := Hn_U (by omega)
  obtain ⟨RX, hRX⟩ : ∃ RX, cn false (IE 0 a tx.length) = RX := ⟨_, rfl⟩
  have hX2 : RX = DC (cn false (oseg 0 tx.length)) 0 false a := by
    rw [← hRX, ← DT_whole ha (Int.le_refl _) (Int.le_refl _) (by omega)]
    exact cn_DT (.inr rfl) (by rw [wdt_oseg]; exact ha) (Int.le_refl _) (Int.le_refl _) (by rw [wdt_oseg]; omega)
  have hlX : (RX.length : Int) - 1 = S := by rw [← hRX, cn_len, hwX]; omega
  have hHX : Hn tx.length 0 true RX := by
    rw [hX2]
    have := Hn_DC hHU (c := a) (x := 0) (L := 0) (g := false) (.inr rfl) (by rw [hlU]; exact ha) (Int.le_refl _) (Int.le_refl _) (by rw [hlU]; omega) true (.inr rfl)
    rwa [show (0 : Int).toNat = 0 from rfl, lst_zero] at this
  have hHY : Hn tx.length 0 true (DC RX 0 false b) := by
    have := Hn_DC hHX (c := b) (x := 0) (L := 0) (g := false) (.inr rfl) (by rw [hlX]; exact hb) (Int.le_refl _) (Int.le_refl _) (by omega) true (.inr rfl)
    rwa [show (0 : Int).toNat = 0 from rfl, lst_zero] at this
  have hL : LT tx.length 0 false [] (DT 0 (IE 0 a tx.length) 0 b) = LC tx.length 0 [] (DC RX 0 false b) := by
    rw [LT_cn, cn_DT (L := 0) (.inr rfl) (by rw [hwX]; exact hb) (Int.le_refl _) (Int.le_refl _) (by rw [hwX]; omega), hRX]
  have t0 : tbc tx (cn false (oseg 0 tx.length)) = tx := tbc_U (p := 0) (by omega)
  have t1 : tbc tx RX = appF tx 0 a := by
    rw [hX2, tbc_DC hHU false (by rw [hlU]; exact ha) (Int.le_refl _) (Int.le_refl _) (by rw [hlU]; omega), t0]; rfl
  have t2 : tbc tx (DC RX 0 false b) = appF (appF tx 0 a) 0 b := by
    rw [tbc_DC hHX false (by rw [hlX]; exact hb) (Int.le_refl _) (Int.le_refl _) (by omega), t1]; rfl
  have t3 := LC_app hHY (Int.le_refl _) [] (fun h => absurd rfl h)
  refine ⟨?_, by rw [hL]; exact LC_chk hHY (Int.le_refl _) []⟩
  rw [hL, ← t2]
  exact t3

/-- one list alone -/
theorem LT_IE {size L p : Int} {a : List Ed} (h : chk size L a = 0) (hp : p ≤ L) (hs : p ≤ size) : LT size p false [] (IE p a size) = a := by
  induction a generalizing L p with
  | nil =>
    rw [IE]
    have := LT_oseg size p (size - p).toNat []
    rw [List.append_nil] at this
    rw [this, LT, if_neg (by simp; omega)]
  | cons e r ih =>
    obtain ⟨h1, h2, h3, h4, h5⟩ := chk_cons h
    rw [IE, LT_oseg, LT_free (ofree_run _), nb_run]
    have hem : (runT e.s.data.toList).isEmpty = false := by
      cases hd : runT e.s.data.toList with
      | nil => exact absurd hd (run_ne _)
      | cons _ _ => rfl
    rw [hem, show (false || !false) = true from rfl, List.nil_append]
    have hst : (IE e.t r size = [] ∧ e.t = size) ∨ ∃ R', IE e.t r size = .O e.t :: R' := by
      by_cases hlt : e.t < size
      · exact .inr (IE_start (ch_chk h5 (by omega) h3) (fun x hx => by have := chk_first h5 x (List.mem_of_getElem? hx); omega) hlt)
      · have : r = [] := by
          cases r with
          | nil => rfl
          | cons y s => have := chk_cons h5; omega
        subst this
        refine .inl ⟨?_, by omega⟩
        rw [IE, show (size - e.t).toNat = 0 by omega]; rfl
    rw [LT_open hst, ih h5 (by omega) h3, show p + ((e.f - p).toNat : Int) = e.f by omega]

theorem gr_len {M : Int} (hM : 0 ≤ M) : ∀ (n : Nat) (put a b : List Ed) (m : Int), (∀ e ∈ put, Nm M e) → (∀ e ∈ b, Nm M e) → (gr n put a b m).length ≤ put.length + b.length := by
  intro n
  induction n with
  | zero => intro put a b m _ _; simp [gr]
  | succ n ih =>
    intro put a b m hp hb
    rw [gr]
    split
    · simp
    · obtain ⟨_, _, r1, r2, r3, _, _⟩ := rch_all put b M hM hp hb (by omega)
      have := ih (put.drop (rch put b (put.length + b.length) 0 0 (low put b)).1) (a.drop (rch put b (put.length + b.length) 0 0 (low put b)).1) (b.drop (rch put b (put.length + b.length) 0 0 (low put b)).2.1) (m + grw (a.take (rch put b (put.length + b.length) 0 0 (low put b)).1)) (fun e he => hp e (List.mem_of_mem_drop he)) (fun e he => hb e (List.mem_of_mem_drop he))
      rw [List.length_cons]
      simp only [List.length_drop] at this
      omega
end Go.Proofs.Ytniamjbieciilaa
