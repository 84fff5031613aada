import Derived.Test.YtniamjbieciilaaAsR
import Derived.Test.YtniamjbieciilaaAp2
namespace Go.Proofs.Ytniamjbieciilaa
open Go.ChangeShapes Go.WideShapes Go.ChangeAt Go.RowKit
set_option linter.unusedVariables false

theorem cmp_row {n : Nat} {a b : List Ed} (ha : chk n 0 a = 0) (hb : chk (n + grw a) 0 b = 0) : gr (a.length + b.length) (lay 0 a) a b 0 = LT n 0 false [] (DT 0 (IE 0 a n) 0 b) := by
  have := comp_main n _ a b 0 0 0 0 rfl (Int.le_refl _) (by omega) (by omega) ha (Int.le_refl _) (by rw [Int.add_zero]; exact hb) (by omega)
  simpa using this.symm

/-- Compose of two right lists, in short -/
theorem cmp_ok {n : Nat} {a b : List Ed} (hn : n ≤ 4611686018427387904) (ha : vld n a = 0) (hb : vld (n + grw a) b = 0) :
    (cmpE n a b = if (LT n 0 false [] (DT 0 (IE 0 a n) 0 b)).length ≤ 65536 then 0 else 2) ∧ (cmpL n a b = if (LT n 0 false [] (DT 0 (IE 0 a n) 0 b)).length ≤ 65536 then LT n 0 false [] (DT 0 (IE 0 a n) 0 b) else []) := by
  have h62 : val62 n a = 0 := by unfold val62; rw [if_pos (by omega)]; exact ha
  have hr := cmp_row (vld_chk ha).1 (vld_chk hb).1
  unfold cmpE cmpL
  rw [if_pos h62, if_pos hb, hr]
  refine ⟨rfl, ?_⟩
  by_cases h : (LT n 0 false [] (DT 0 (IE 0 a n) 0 b)).length ≤ 65536
  · rw [if_pos ⟨h62, hb, h⟩, if_pos h]
  · rw [if_neg (fun x => h x.2.2), if_neg h]

theorem cmp_len {n : Nat} {a b : List Ed} (ha : chk n 0 a = 0) (hb : chk (n + grw a) 0 b = 0) : (LT n 0 false [] (DT 0 (IE 0 a n) 0 b)).length ≤ a.length + b.length := by
  rw [← cmp_row ha hb]
  have hw := wdt_IE (ch_chk ha (Int.le_refl _) (show (0 : Int) ≤ n by omega))
  have h0 := wdt_ge (IE 0 a n)
  have := gr_len (M := n + grw a) (by omega) (a.length + b.length) (lay 0 a) a b 0 (fun e he => by
    have h1 := lay_nm (m := 0) ha (Int.le_refl 0) (by omega) (by omega) e he
    exact ⟨h1.1, by omega, by omega⟩) (fun e he => chk_ok hb e he)
  rwa [lay_len] at this

theorem cmp_nil {n : Nat} {a : List Ed} (hn : n ≤ 4611686018427387904) (ha : vld n a = 0) : cmpE n a [] = 0 ∧ cmpL n a [] = a ∧ cmpE n [] a = 0 ∧ cmpL n [] a = a := by
  obtain ⟨hc, hl⟩ := vld_chk ha
  have h1 : LT n 0 false [] (DT 0 (IE 0 a n) 0 []) = a := by
    rw [DT, K_all (Int.le_refl _) (Int.le_refl _)]
    exact LT_IE hc (Int.le_refl _) (by omega)
  have h2 : LT n 0 false [] (DT 0 (IE 0 [] n) 0 a) = a := by
    have : IE 0 [] n = oseg 0 n := by rw [IE]; congr 1
    rw [this, DT_whole hc (Int.le_refl _) (Int.le_refl _) (by omega)]
    exact LT_IE hc (Int.le_refl _) (by omega)
  obtain ⟨k1, k2⟩ := cmp_ok (b := []) hn ha rfl
  obtain ⟨k3, k4⟩ := cmp_ok (a := []) (b := a) hn rfl (by rw [show grw ([] : List Ed) = 0 from rfl, Int.add_zero]; exact ha)
  rw [h1] at k1 k2
  rw [h2] at k3 k4
  rw [k1, k2, k3, k4, if_pos hl, if_pos hl]
  exact ⟨rfl, rfl, rfl, rfl⟩

theorem nb_K_two {x y y' z pos : Int} {Y : List Tok} (h1 : x ≤ y) (h2 : y ≤ y') (h3 : y' ≤ z) : (nb (K x y pos Y)).length + (nb (K y' z pos Y)).length ≤ (nb (K x z pos Y)).length := by
  induction Y generalizing pos with
  | nil => simp [K, nb]
  | cons t r ih =>
    have hi := ih (pos := pos + wd t)
    rw [K, K, K, nb_append, nb_append, nb_append]
    simp only [List.length_append]
    cases t with
    | M =>
      have : ∀ (p : Prop) [Decidable p], (nb (if p then [Tok.M] else [])).length = 0 := fun p _ => by split <;> rfl
      rw [this, this, this]; omega
    | O p =>
      have : ∀ (q : Prop) [Decidable q], (nb (if q then [Tok.O p] else [])).length = 0 := fun q _ => by split <;> rfl
      rw [this, this, this]; omega
    | N c =>
      have e : ∀ (q : Prop) [Decidable q], (nb (if q then [Tok.N c] else [])).length = if q then 1 else 0 := fun q _ => by split <;> rfl
      rw [e, e, e]
      rw [wd_N] at hi ⊢
      split <;> split <;> split <;> omega
theorem nb_K_le (x y pos : Int) (Y : List Tok) : (nb (K x y pos Y)).length ≤ (nb Y).length := by
  induction Y generalizing pos with
  | nil => simp [K]
  | cons t r ih =>
    have hi := ih (pos + wd t)
    rw [K, nb_append, List.length_append]
    cases t with
    | M => split <;> simp [nb] <;> exact hi
    | O p => split <;> simp [nb] <;> exact hi
    | N c => split <;> simp [nb] <;> omega
theorem nb_DT {Y : List Tok} {c : List Ed} {x L : Int} (hc : chk (wdt Y) L c = 0) (hx : x ≤ L) (hy : x ≤ wdt Y) : (nb (DT 0 Y x c)).length ≤ (nb (K x (wdt Y) 0 Y)).length + tots c := by
  induction c generalizing x L with
  | nil => rw [DT, Int.zero_add, tots]; omega
  | cons e r ih =>
    obtain ⟨h1, h2, h3, h4, h5⟩ := chk_cons hc
    have hi := ih (x := e.t) h5 (by omega) h3
    have hk := nb_K_two (pos := 0) (Y := Y) (x := x) (y := e.f) (y' := e.t) (z := wdt Y) (by omega) h2 h3
    rw [DT, nb_append, nb_append, nb_run, tots]
    simp only [List.length_append, bytes_len]
    omega
theorem nb_IE {a : List Ed} {p e : Int} : (nb (IE p a e)).length = tots a := by
  have ho : ∀ (p : Int) (k : Nat), nb (oseg p k) = [] := fun p k => by
    induction k generalizing p with
    | zero => rfl
    | succ k ih => exact ih (p + 1)
  induction a generalizing p with
  | nil => rw [IE, ho]; rfl
  | cons x r ih => rw [IE, nb_append, nb_append, nb_run, ho, tots]; simp only [List.length_append, bytes_len, ih]; simp
theorem tots_LT (size last : Int) (op : Bool) (t : List UInt8) (Y : List Tok) : tots (LT size last op t Y) ≤ t.length + (nb Y).length := by
  have es : ∀ l : List UInt8, (⟨l.toArray⟩ : ByteArray).size = l.length := fun l => by rw [← bytes_len]
  induction Y generalizing last op t with
  | nil =>
    rw [LT]
    split
    · simp only [tots, es]; omega
    · simp [tots]
  | cons u r ih =>
    cases u with
    | M => exact ih last true t
    | N c => have := ih last true (t ++ [c]); rw [LT, nb]; simp at this ⊢; omega
    | O p =>
      have := ih (p + 1) false []
      rw [LT, show nb (.O p :: r) = nb r from rfl]
      split
      · simp only [tots, es]; simp at this; omega
      · simp at this; omega
theorem cmp_tots {n : Nat} {a b : List Ed} (ha : chk n 0 a = 0) (hb : chk (n + grw a) 0 b = 0) : tots (LT n 0 false [] (DT 0 (IE 0 a n) 0 b)) ≤ tots a + tots b := by
  have hw := wdt_IE (ch_chk ha (Int.le_refl _) (show (0 : Int) ≤ n by omega))
  have h0 := wdt_ge (IE 0 a n)
  have h1 := tots_LT n 0 false [] (DT 0 (IE 0 a n) 0 b)
  have h2 := nb_DT (Y := IE 0 a n) (c := b) (x := 0) (L := 0) (by rw [hw, show (n : Int) - 0 + grw a = n + grw a by omega]; exact hb) (Int.le_refl _) h0
  have h3 := nb_K_le 0 (wdt (IE 0 a n)) 0 (IE 0 a n)
  rw [nb_IE] at h3
  simp at h1
  omega

structure ChainF (tx : ByteArray) (a b c : List Ed) : Prop where
  sz : (appB tx a).size = tx.size + grw a
  ab : vld (appB tx a).size b = 0 → cmpE tx.size a b = 0 → vld tx.size (cmpL tx.size a b) = 0 ∧ appB tx (cmpL tx.size a b) = appB (appB tx a) b ∧ (cmpL tx.size a b).length ≤ a.length + b.length ∧ tots (cmpL tx.size a b) ≤ tots a + tots b
  many : vld (appB tx a).size b = 0 → cmpE tx.size a b ≠ 0 → cmpE tx.size a b = 2 ∧ 65536 < a.length + b.length
  wrong : vld (appB tx a).size b ≠ 0 → cmpE tx.size a b = vld (appB tx a).size b
  three : vld (appB tx a).size b = 0 → cmpE tx.size a b = 0 → cmpE (appB tx a).size b c = 0 → cmpE tx.size (cmpL tx.size a b) c = cmpE tx.size a (cmpL (appB tx a).size b c) ∧ cmpL tx.size (cmpL tx.size a b) c = cmpL tx.size a (cmpL (appB tx a).size b c) ∧ tots (cmpL (appB tx a).size b c) ≤ tots b + tots c

theorem chain_facts {tx : ByteArray} {a b c : List Ed} (hn : tx.size ≤ 1048576) (hT : tx.size + tots a + tots b + tots c ≤ 1048576) (ha : vld tx.size a = 0) : ChainF tx a b c := by
  obtain ⟨hc, hl⟩ := vld_chk ha
  obtain ⟨hb1, hb2⟩ := app_bound hc
  have hA : appB tx a = ⟨(appF tx.data.toList 0 a).toArray⟩ := by unfold appB; rw [if_pos ha]
  have hAd : (appB tx a).data.toList = appF tx.data.toList 0 a := by rw [hA]
  have hsz : (appB tx a).size = tx.size + grw a := by rw [← bytes_len, hAd]; exact hb1
  obtain ⟨S, hS⟩ : ∃ S, (appB tx a).size = S := ⟨_, rfl⟩
  have hSn : (S : Int) = tx.size + grw a := by rw [← hS]; exact hsz
  have hlt := bytes_len tx
  refine ⟨hsz, ?_, ?_, ?_, ?_⟩
  · rw [hS]
    intro hvb hE
    have hvb' : vld (tx.size + grw a) b = 0 := by rw [← hSn]; exact hvb
    obtain ⟨k1, k2⟩ := cmp_ok (by omega) ha hvb'
    have hck := vld_chk hvb'
    have hm : (LT tx.size 0 false [] (DT 0 (IE 0 a tx.size) 0 b)).length ≤ 65536 := by
      rcases Nat.lt_or_ge 65536 (LT tx.size 0 false [] (DT 0 (IE 0 a tx.size) 0 b)).length with h | h
      · rw [if_neg (by omega)] at k1; omega
      · exact h
    rw [if_pos hm] at k2
    have h2 := two_app (tx := tx.data.toList) (S := S) (a := a) (b := b) (by rw [hlt]; exact hc) (by rw [hlt]; exact hSn) (vld_chk hvb).1
    rw [hlt] at h2
    have hv : vld tx.size (cmpL tx.size a b) = 0 := by unfold vld; rw [k2, if_neg (by omega)]; exact h2.2
    refine ⟨hv, ?_, by rw [k2]; exact cmp_len hc hck.1, by rw [k2]; exact cmp_tots hc hck.1⟩
    have e1 : appB tx (cmpL tx.size a b) = ⟨(appF tx.data.toList 0 (cmpL tx.size a b)).toArray⟩ := by unfold appB; rw [if_pos hv]
    have e2 : appB (appB tx a) b = ⟨(appF (appB tx a).data.toList 0 b).toArray⟩ := by
      generalize appB tx a = A at *
      unfold appB; rw [if_pos (by rw [hS]; exact hvb)]
    rw [e1, e2, hAd, k2, h2.1]
  · rw [hS]
    intro hvb hE
    have hvb' : vld (tx.size + grw a) b = 0 := by rw [← hSn]; exact hvb
    obtain ⟨k1, k2⟩ := cmp_ok (by omega) ha hvb'
    have hlen := cmp_len hc (vld_chk hvb').1
    by_cases hm : (LT tx.size 0 false [] (DT 0 (IE 0 a tx.size) 0 b)).length ≤ 65536
    · rw [if_pos hm] at k1; exact absurd k1 hE
    · rw [if_neg hm] at k1; exact ⟨k1, by omega⟩
  · rw [hS]
    intro hvb
    have h62 : val62 tx.size a = 0 := by unfold val62; rw [if_pos (by omega)]; exact ha
    unfold cmpE
    rw [if_pos h62, ← hSn, if_neg hvb]
  · rw [hS]
    intro hvb hE hE2
    have hvb' : vld (tx.size + grw a) b = 0 := by rw [← hSn]; exact hvb
    obtain ⟨k1, k2⟩ := cmp_ok (by omega) ha hvb'
    have hck := vld_chk hvb'
    have hm : (LT tx.size 0 false [] (DT 0 (IE 0 a tx.size) 0 b)).length ≤ 65536 := by
      rcases Nat.lt_or_ge 65536 (LT tx.size 0 false [] (DT 0 (IE 0 a tx.size) 0 b)).length with h | h
      · rw [if_neg (by omega)] at k1; omega
      · exact h
    rw [if_pos hm] at k2
    have hSle : S ≤ 1048576 := by omega
    have hvc : vld (S + grw b) c = 0 := by
      unfold cmpE at hE2
      have h62 : val62 S b = 0 := by unfold val62; rw [if_pos (by omega)]; exact hvb
      rw [if_pos h62] at hE2
      by_cases h : vld (S + grw b) c = 0
      · exact h
      · rw [if_neg h] at hE2; exact absurd hE2 h
    obtain ⟨j1, j2⟩ := cmp_ok (n := S) (by omega) hvb hvc
    have hm2 : (LT S 0 false [] (DT 0 (IE 0 b S) 0 c)).length ≤ 65536 := by
      rcases Nat.lt_or_ge 65536 (LT S 0 false [] (DT 0 (IE 0 b S) 0 c)).length with h | h
      · rw [if_neg (by omega)] at j1; omega
      · exact h
    rw [if_pos hm2] at j2
    obtain ⟨q1, q2, q3, q4⟩ := assoc hc hSn (vld_chk hvb).1 (vld_chk hvc).1
    rw [k2, j2]
    have v1 : vld tx.size (LT tx.size 0 false [] (DT 0 (IE 0 a tx.size) 0 b)) = 0 := by unfold vld; rw [if_neg (by omega)]; exact q2
    have v2 : vld (tx.size + grw (LT tx.size 0 false [] (DT 0 (IE 0 a tx.size) 0 b))) c = 0 := by rw [q4]; exact hvc
    have v3 : vld (tx.size + grw a) (LT S 0 false [] (DT 0 (IE 0 b S) 0 c)) = 0 := by rw [← hSn]; unfold vld; rw [if_neg (by omega)]; exact q3
    obtain ⟨x1, x2⟩ := cmp_ok (by omega) v1 v2
    obtain ⟨y1, y2⟩ := cmp_ok (by omega) ha v3
    rw [x1, x2, y1, y2, q1]
    exact ⟨rfl, rfl, cmp_tots (vld_chk hvb).1 (vld_chk hvc).1⟩
end Go.Proofs.Ytniamjbieciilaa
