import Derived.Test.YtniamjbieciilaaCoQ
namespace Go.Proofs.Ytniamjbieciilaa
open Go.ChangeShapes Go.WideShapes Go.ChangeAt Go.RowKit
set_option linter.unusedVariables false

/-- a row's bytes, each with whether something lies right ahead of it; at the end the mark of the end -/
inductive Cel where
  | O (p : Int)
  | N (c : UInt8)
  | E

def cn : Bool → List Tok → List (Bool × Cel)
  | g, [] => [(g, .E)]
  | g, .M :: r => cn true r
  | g, .N c :: r => (true, .N c) :: cn true r
  | g, .O p :: r => (g, .O p) :: cn false r
/-- .. without the end -/
def cnA : Bool → List Tok → List (Bool × Cel)
  | g, [] => []
  | g, .M :: r => cnA true r
  | g, .N c :: r => (true, .N c) :: cnA true r
  | g, .O p :: r => (g, .O p) :: cnA false r
def stA : Bool → List Tok → Bool
  | g, [] => g
  | g, .M :: r => stA true r
  | g, .N c :: r => stA true r
  | g, .O p :: r => stA false r
def fo (o : Bool) : List (Bool × Cel) → List (Bool × Cel)
  | [] => []
  | (f, t) :: r => (o || f, t) :: r
def runC (s : List UInt8) : List (Bool × Cel) := s.map fun c => (true, .N c)

/-- a row's cells behind a list of edits -/
def DC (R : List (Bool × Cel)) : Int → Bool → List Ed → List (Bool × Cel)
  | x, o, [] => fo o (R.drop x.toNat)
  | x, o, e :: r => (fo o (R.drop x.toNat)).take (e.f - x).toNat ++ (runC e.s.data.toList ++ DC R e.t true r)

/-- the edits that make a row of cells -/
def LC (size : Int) : Int → List UInt8 → List (Bool × Cel) → List Ed
  | last, tx, [] => []
  | last, tx, (f, .E) :: r => if f = true ∨ last < size then [⟨last, size, ⟨tx.toArray⟩⟩] else []
  | last, tx, (f, .N c) :: r => LC size last (tx ++ [c]) r
  | last, tx, (f, .O p) :: r => if f = true ∨ last < p then ⟨last, p, ⟨tx.toArray⟩⟩ :: LC size (p + 1) [] r else LC size (p + 1) [] r

theorem cn_append (g : Bool) (A B : List Tok) : cn g (A ++ B) = cnA g A ++ cn (stA g A) B := by
  induction A generalizing g with
  | nil => rfl
  | cons t r ih => cases t <;> simp [cn, cnA, stA, ih]
theorem cnA_append (g : Bool) (A B : List Tok) : cnA g (A ++ B) = cnA g A ++ cnA (stA g A) B := by
  induction A generalizing g with
  | nil => rfl
  | cons t r ih => cases t <;> simp [cnA, stA, ih]
theorem cn_map (g : Bool) (s : List UInt8) : cnA g (s.map .N) = runC s := by
  induction s generalizing g with
  | nil => rfl
  | cons c r ih => rw [List.map_cons, cnA, ih]; rfl
theorem st_map (g : Bool) (s : List UInt8) (h : s ≠ []) : stA g (s.map .N) = true := by
  induction s generalizing g with
  | nil => exact absurd rfl h
  | cons c r ih =>
    rw [List.map_cons, stA]
    cases r with
    | nil => rfl
    | cons d q => exact ih true (by simp)
theorem cn_run (g : Bool) (s : List UInt8) : cnA g (runT s) = runC s ∧ stA g (runT s) = true := by
  unfold runT
  split
  · rename_i h; subst h; exact ⟨rfl, rfl⟩
  · rename_i h; exact ⟨cn_map g s, st_map g s h⟩
theorem cn_run_append (g : Bool) (s : List UInt8) (B : List Tok) : cn g (runT s ++ B) = runC s ++ cn true B := by
  rw [cn_append, (cn_run g s).1, (cn_run g s).2]
theorem fo_cn (g : Bool) (Y : List Tok) : fo true (cn g Y) = cn true Y := by
  induction Y generalizing g with
  | nil => rfl
  | cons t r ih => cases t <;> simp [cn, fo] <;> exact ih true
theorem fo_false (R : List (Bool × Cel)) : fo false R = R := by
  cases R with
  | nil => rfl
  | cons a r => obtain ⟨f, t⟩ := a; simp [fo]

theorem K_in {x y c : Int} {t : Tok} {r : List Tok} (h : x ≤ c ∧ c + wd t ≤ y) : K x y c (t :: r) = t :: K x y (c + wd t) r := by rw [K, if_pos h]; rfl
theorem K_out {x y c : Int} {t : Tok} {r : List Tok} (h : ¬ (x ≤ c ∧ c + wd t ≤ y)) : K x y c (t :: r) = K x y (c + wd t) r := by rw [K, if_neg h]; rfl
theorem wd_O (p : Int) : wd (.O p) = 1 := rfl
theorem wd_N (c : UInt8) : wd (.N c) = 1 := rfl
theorem wd_M : wd .M = 0 := rfl

theorem K1 {x y pos : Int} {Y : List Tok} (g : Bool) (hx : x ≤ pos) (hy : y ≤ pos + wdt Y) : cnA g (K x y pos Y) = (cn g Y).take (y - pos).toNat := by
  induction Y generalizing g pos with
  | nil => rw [wdt, Int.add_zero] at hy; rw [show (y - pos).toNat = 0 by omega]; rfl
  | cons t r ih =>
    rw [wdt] at hy
    by_cases h : pos + wd t ≤ y
    · rw [K_in ⟨hx, h⟩]
      cases t with
      | M =>
        rw [wd_M] at hy h ⊢
        rw [cnA, cn, ih true (by omega) (by omega), Int.add_zero]
      | O p =>
        rw [wd_O] at hy h ⊢
        rw [cnA, cn, ih false (by omega) (by omega), show (y - pos).toNat = (y - (pos + 1)).toNat + 1 by omega, List.take_succ_cons]
      | N c =>
        rw [wd_N] at hy h ⊢
        rw [cnA, cn, ih true (by omega) (by omega), show (y - pos).toNat = (y - (pos + 1)).toNat + 1 by omega, List.take_succ_cons]
    · rw [K_out (fun q => h q.2), K_past (by omega)]
      cases t with
      | M => rw [wd_M] at h; rw [show (y - pos).toNat = 0 by omega]; rfl
      | O p => rw [wd_O] at h; rw [show (y - pos).toNat = 0 by omega]; rfl
      | N c => rw [wd_N] at h; rw [show (y - pos).toNat = 0 by omega]; rfl

theorem K2 {x y pos : Int} {Y : List Tok} (g : Bool) (hx : pos ≤ x) (hxy : x ≤ y) (hy : y ≤ pos + wdt Y) : cnA true (K x y pos Y) = (fo true ((cn g Y).drop (x - pos).toNat)).take (y - x).toNat := by
  induction Y generalizing g pos with
  | nil =>
    rw [wdt, Int.add_zero] at hy
    rw [show (y - x).toNat = 0 by omega]; rfl
  | cons t r ih =>
    by_cases hp : pos = x
    · subst hp
      rw [K1 true (Int.le_refl _) hy, show (pos - pos).toNat = 0 by omega, List.drop_zero, fo_cn]
    · rw [wdt] at hy
      rw [K_out (fun q => by have := q.1; omega)]
      cases t with
      | M =>
        rw [wd_M] at hy ⊢
        rw [cn, Int.add_zero]
        exact ih true hx (by omega)
      | O p =>
        rw [wd_O] at hy ⊢
        rw [cn, ih false (by omega) (by omega), show (x - pos).toNat = (x - (pos + 1)).toNat + 1 by omega, List.drop_succ_cons]
      | N c =>
        rw [wd_N] at hy ⊢
        rw [cn, ih true (by omega) (by omega), show (x - pos).toNat = (x - (pos + 1)).toNat + 1 by omega, List.drop_succ_cons]

theorem K3 {x pos : Int} {Y : List Tok} (g : Bool) (hx : pos ≤ x) (hy : x ≤ pos + wdt Y) : cn true (K x (pos + wdt Y) pos Y) = fo true ((cn g Y).drop (x - pos).toNat) := by
  induction Y generalizing g pos with
  | nil =>
    rw [wdt, Int.add_zero] at hy
    rw [show (x - pos).toNat = 0 by omega]; rfl
  | cons t r ih =>
    by_cases hp : pos = x
    · subst hp
      rw [K_all (Int.le_refl _) (Int.le_refl _), show (pos - pos).toNat = 0 by omega, List.drop_zero, fo_cn]
    · rw [K_out (fun q => by have := q.1; omega), wdt, ← Int.add_assoc]
      rw [wdt, ← Int.add_assoc] at hy
      cases t with
      | M =>
        rw [wd_M, Int.add_zero] at hy ⊢
        rw [cn]
        exact ih true hx hy
      | O p =>
        rw [wd_O] at hy ⊢
        rw [cn, ih false (by omega) hy, show (x - pos).toNat = (x - (pos + 1)).toNat + 1 by omega, List.drop_succ_cons]
      | N c =>
        rw [wd_N] at hy ⊢
        rw [cn, ih true (by omega) hy, show (x - pos).toNat = (x - (pos + 1)).toNat + 1 by omega, List.drop_succ_cons]

/-- the cells of a row behind edits hang on the row's cells alone -/
theorem cn_DT {Y : List Tok} {c : List Ed} {x L : Int} {g : Bool} (hg : g = true ∨ x = 0) (hc : chk (wdt Y) L c = 0) (hx0 : 0 ≤ x) (hx : x ≤ L) (hy : x ≤ wdt Y) : cn g (DT 0 Y x c) = DC (cn false Y) x g c := by
  induction c generalizing x L g with
  | nil =>
    rw [DT, DC]
    rcases hg with rfl | rfl
    · have := K3 (Y := Y) (pos := 0) false hx0 (by omega)
      rw [Int.sub_zero] at this
      exact this
    · rw [K_all (Int.le_refl _) (Int.le_refl _)]
      show cn g Y = fo g ((cn false Y).drop 0)
      rw [List.drop_zero]
      cases g with
      | true => exact (fo_cn false Y).symm
      | false => exact (fo_false _).symm
  | cons e r ih =>
    obtain ⟨h1, h2, h3, h4, h5⟩ := chk_cons hc
    rw [DT, DC, cn_append, cn_run_append, ih (.inl rfl) h5 (by omega) (by omega) h3]
    congr 1
    rcases hg with rfl | rfl
    · have := K2 (Y := Y) (pos := 0) (x := x) (y := e.f) false hx0 (by omega) (by omega)
      rw [Int.sub_zero] at this
      exact this
    · rw [K1 g (Int.le_refl _) (by omega)]
      show _ = (fo g ((cn false Y).drop 0)).take _
      rw [List.drop_zero]
      cases g with
      | true => rw [fo_cn]
      | false => rw [fo_false]

theorem LT_cn (size last : Int) (g : Bool) (tx : List UInt8) (Y : List Tok) : LT size last g tx Y = LC size last tx (cn g Y) := by
  induction Y generalizing last g tx with
  | nil => rfl
  | cons t r ih =>
    cases t with
    | M => rw [LT, cn, ih]
    | N c => rw [LT, cn, LC, ih]
    | O p => rw [LT, cn, LC, ih]

/-- an honest row: its old bytes grow, and where nothing lies ahead of a byte it stands right behind the one ahead of it -/
def Hn (S : Int) : Int → Bool → List (Bool × Cel) → Prop
  | last, q, [] => False
  | last, q, (f, .E) :: r => r = [] ∧ last ≤ S ∧ (f = false → q = true ∧ last = S)
  | last, q, (f, .N c) :: r => f = true ∧ Hn S last false r
  | last, q, (f, .O p) :: r => last ≤ p ∧ p < S ∧ (f = false → q = true ∧ p = last) ∧ Hn S (p + 1) true r

theorem Hn_le {S : Int} {R : List (Bool × Cel)} {last : Int} {q : Bool} (h : Hn S last q R) : last ≤ S := by
  induction R generalizing last q with
  | nil => exact absurd h (by simp [Hn])
  | cons a r ih =>
    obtain ⟨f, t⟩ := a
    cases t with
    | E => exact h.2.1
    | N c => exact ih h.2
    | O p => have := h.1; have := h.2.1; omega
theorem Hn_mono {S : Int} {R : List (Bool × Cel)} {last last' : Int} {q' : Bool} (h : Hn S last false R) (hl : last' ≤ last) : Hn S last' q' R := by
  induction R generalizing last q' with
  | nil => exact absurd h (by simp [Hn])
  | cons a r ih =>
    obtain ⟨f, t⟩ := a
    cases t with
    | E => exact ⟨h.1, by have := h.2.1; omega, fun hf => by have := (h.2.2 hf).1; cases this⟩
    | N c => exact ⟨h.1, ih h.2 hl⟩
    | O p => exact ⟨by have := h.1; omega, h.2.1, (fun hf => by have := (h.2.2.1 hf).1; cases this), h.2.2.2⟩
theorem Hn_fo {S : Int} {R : List (Bool × Cel)} {last : Int} {q q' : Bool} (h : Hn S last q R) : Hn S last q' (fo true R) := by
  cases R with
  | nil => exact absurd h (by simp [Hn])
  | cons a r =>
    obtain ⟨f, t⟩ := a
    cases t with
    | E => exact ⟨h.1, h.2.1, (fun hf => by cases hf)⟩
    | N c => exact ⟨rfl, h.2⟩
    | O p => exact ⟨h.1, h.2.1, (fun hf => by cases hf), h.2.2.2⟩

/-- where the next old byte may stand behind so many cells -/
def lst : Int → List (Bool × Cel) → Nat → Int
  | last, _, 0 => last
  | last, [], _ + 1 => last
  | last, (_, .O p) :: r, k + 1 => lst (p + 1) r k
  | last, (_, .N _) :: r, k + 1 => lst last r k
  | last, (_, .E) :: r, k + 1 => lst last r k
theorem lst_zero (last : Int) (R : List (Bool × Cel)) : lst last R 0 = last := by cases R <;> rw [lst]
theorem lst_nil (last : Int) (k : Nat) : lst last [] k = last := by cases k <;> rw [lst]
theorem lst_mono {S : Int} {R : List (Bool × Cel)} {last : Int} {q : Bool} (h : Hn S last q R) : ∀ {j k : Nat}, j ≤ k → last ≤ lst last R j ∧ lst last R j ≤ lst last R k := by
  induction R generalizing last q with
  | nil => exact absurd h (by simp [Hn])
  | cons a r ih =>
    intro j k hjk
    obtain ⟨f, t⟩ := a
    cases k with
    | zero => obtain rfl : j = 0 := by omega
              rw [lst_zero]; exact ⟨Int.le_refl _, Int.le_refl _⟩
    | succ k =>
      cases t with
      | E =>
        obtain ⟨rfl, h2, h3⟩ := h
        cases j with
        | zero => rw [lst_zero, lst, lst_nil]; exact ⟨Int.le_refl _, Int.le_refl _⟩
        | succ j => rw [lst, lst, lst_nil, lst_nil]; exact ⟨Int.le_refl _, Int.le_refl _⟩
      | N c =>
        cases j with
        | zero => rw [lst_zero, lst]; exact ⟨Int.le_refl _, (ih h.2 (Nat.le_refl k)).1⟩
        | succ j => rw [lst, lst]; exact ih h.2 (by omega)
      | O p =>
        have h1 := h.1
        cases j with
        | zero => rw [lst_zero, lst]; have := (ih h.2.2.2 (Nat.le_refl k)).1; exact ⟨Int.le_refl _, by omega⟩
        | succ j => rw [lst, lst]; have := ih h.2.2.2 (j := j) (k := k) (by omega); exact ⟨by omega, this.2⟩
theorem Hn_drop {S : Int} {R : List (Bool × Cel)} {last : Int} {q : Bool} {k : Nat} (h : Hn S last q R) (hk : k < R.length) : ∃ q', Hn S (lst last R k) q' (R.drop k) := by
  induction R generalizing last q k with
  | nil => simp at hk
  | cons a r ih =>
    obtain ⟨f, t⟩ := a
    cases k with
    | zero => rw [lst_zero]; exact ⟨q, h⟩
    | succ k =>
      simp at hk
      cases t with
      | E => rw [h.1] at hk; simp at hk
      | N c => rw [lst]; exact ih h.2 hk
      | O p => rw [lst]; exact ih h.2.2.2 hk

/-- a piece of an honest row, and then something honest from there on -/
theorem Hn_take {S : Int} {R Z : List (Bool × Cel)} {last : Int} {q : Bool} {k : Nat} (h : Hn S last q R) (hk : k < R.length) (hz : ∀ q', Hn S (lst last R k) q' Z) : Hn S last q (R.take k ++ Z) := by
  induction R generalizing last q k with
  | nil => simp at hk
  | cons a r ih =>
    obtain ⟨f, t⟩ := a
    cases k with
    | zero => rw [lst_zero] at hz; exact hz q
    | succ k =>
      simp at hk
      cases t with
      | E => rw [h.1] at hk; simp at hk
      | N c => rw [lst] at hz; exact ⟨h.1, ih h.2 hk hz⟩
      | O p => rw [lst] at hz; exact ⟨h.1, h.2.1, h.2.2.1, ih h.2.2.2 hk hz⟩
theorem Hn_run {S last : Int} {Z : List (Bool × Cel)} (s : List UInt8) (h : Hn S last false Z) (q : Bool) : Hn S last q (runC s ++ Z) := by
  induction s generalizing q with
  | nil => exact Hn_mono h (Int.le_refl _)
  | cons c r ih => exact ⟨rfl, ih false⟩

theorem fo_length (o : Bool) (R : List (Bool × Cel)) : (fo o R).length = R.length := by cases R <;> rfl
theorem lst_fo (o : Bool) (R : List (Bool × Cel)) (last : Int) (k : Nat) : lst last (fo o R) k = lst last R k := by
  cases R with
  | nil => rfl
  | cons a r =>
    obtain ⟨f, t⟩ := a
    cases k with
    | zero => rw [lst_zero, lst_zero]
    | succ k => cases t <;> rw [fo, lst, lst]
theorem lst_drop (R : List (Bool × Cel)) (last : Int) (j k : Nat) : lst (lst last R j) (R.drop j) k = lst last R (j + k) := by
  induction R generalizing last j with
  | nil =>
    rw [List.drop_nil, lst_nil, lst_nil, lst_nil]
  | cons a r ih =>
    obtain ⟨f, t⟩ := a
    cases j with
    | zero => rw [Nat.zero_add, lst_zero]; rfl
    | succ j =>
      rw [show j + 1 + k = (j + k) + 1 by omega, List.drop_succ_cons]
      cases t <;> rw [lst, lst] <;> exact ih _ _

theorem Hn_DC {S : Int} {R : List (Bool × Cel)} (h : Hn S 0 true R) {c : List Ed} {x L : Int} {g : Bool} (hg : g = true ∨ x = 0) (hc : chk ((R.length : Int) - 1) L c = 0) (hx0 : 0 ≤ x) (hx : x ≤ L) (hy : x ≤ (R.length : Int) - 1) :
    ∀ q, (g = true ∨ q = true) → Hn S (lst 0 R x.toNat) q (DC R x g c) := by
  have hd : ∀ q, (g = true ∨ q = true) → Hn S (lst 0 R x.toNat) q (fo g (R.drop x.toNat)) := by
    intro q hq
    rcases hg with rfl | rfl
    · obtain ⟨q', h'⟩ := Hn_drop h (k := x.toNat) (by omega)
      exact Hn_fo h'
    · rw [show (0 : Int).toNat = 0 from rfl, lst_zero, List.drop_zero]
      cases g with
      | true => exact Hn_fo (q := true) h
      | false =>
        rw [fo_false]
        rcases hq with hq | rfl
        · cases hq
        · exact h
  induction c generalizing x L g with
  | nil => exact hd
  | cons e r ih =>
    obtain ⟨h1, h2, h3, h4, h5⟩ := chk_cons hc
    intro q hq
    rw [DC]
    have hl : (e.f - x).toNat < (fo g (R.drop x.toNat)).length := by rw [fo_length, List.length_drop]; omega
    refine Hn_take (hd q hq) hl (fun q' => ?_)
    rw [lst_fo, lst_drop, show x.toNat + (e.f - x).toNat = e.f.toNat by omega]
    have hm := (lst_mono h (j := e.f.toNat) (k := e.t.toNat) (by omega)).2
    have hi := ih (x := e.t) (g := true) (.inl rfl) h5 (by omega) (by omega) h3 (fun q _ => by
      obtain ⟨q', h'⟩ := Hn_drop h (k := e.t.toNat) (by omega)
      exact Hn_fo h') false (.inl rfl)
    exact Hn_run _ (Hn_mono hi hm) q'
end Go.Proofs.Ytniamjbieciilaa
