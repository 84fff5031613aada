import Derived.Test.YtmnbakalcpanlaaGreatDoorLc4
namespace Go.Proofs.YtmnbakalcpanlaaGreatDoor
open Go.ChangeShapes Go.WideShapes Go.ChangeAt Go.RowKit
set_option linter.unusedVariables false
set_option linter.unusedSimpArgs false

/-- a token with its places moved -/
def mv1 (d : Nat) (q : Tk) : Tk := ⟨q.k, q.f + d, q.t + d⟩
def mvF (d : Nat) (x : Option (Nat × Nat)) : Option (Nat × Nat) := x.map fun x => (x.1, d + x.2)
theorem cut_move {b J : ByteArray} {d : Nat} (h : ∀ j, bt J (d + j) = bt b j) : ∀ m p, b.size - p ≤ m → cut J (d + p) = ((cut b p).1.map (mv1 d), mvF d (cut b p).2)
  | m, p, hm => by
    have F : Fg b J p (d + p) := fun j => by rw [Nat.add_assoc]; exact h (p + j)
    by_cases hp : p < b.size
    · have hp' : d + p < J.size := (F.lt 0).2 hp
      cases hc : pce b p with
      | no y z =>
        obtain ⟨h1, h2⟩ := F.pce_no hp hc
        rw [cut_no hp hc, cut_no hp' h2]
        simp only [List.map_nil, mvF, Option.map_some]
        congr 3
        omega
      | ok k t =>
        obtain ⟨t1, t2, -⟩ := pce_ok hp hc
        have h2 := F.pce_ok hp hc
        rw [cut_ok hp hc, cut_ok hp' h2]
        match m, hm with
        | 0, hm => omega
        | m + 1, hm =>
          have ih := cut_move h m t (by omega)
          rw [show d + p + (t - p) = d + t by omega, ih]
          simp only [List.map_cons, mv1]
          congr 2
          congr 1
          · push_cast; omega
          · push_cast; omega
    · have hn : ¬ d + p < J.size := fun e => hp ((F.lt 0).1 e)
      rw [cut_end hp, cut_end hn]
      rfl
theorem cut_bl {b : ByteArray} (hb : b.size = b.size) : (cut b (blE b 0)).2 = (cut b 0).2 ∧ ((∃ q, (cut b 0).1 = q :: (cut b (blE b 0)).1 ∧ q = ⟨0, 0, (blE b 0 : Nat)⟩ ∧ 0 < blE b 0) ∨ (blE b 0 = 0 ∧ ∀ q r, (cut b 0).1 = q :: r → q.k ≠ 0)) := by
  by_cases hc : 0 < b.size ∧ blk (bt b 0) = true
  · have e : pce b 0 = .ok 0 (blE b 0) := by unfold pce; rw [if_pos hc.2]
    have := pce_ok hc.1 e
    rw [cut_ok hc.1 e]
    exact ⟨rfl, .inl ⟨_, rfl, rfl, this.1⟩⟩
  · rw [blE_out hc]
    refine ⟨rfl, .inr ⟨rfl, fun q r hq => ?_⟩⟩
    by_cases h0 : 0 < b.size
    · cases hp : pce b 0 with
      | no y z => rw [cut_no h0 hp] at hq; cases hq
      | ok k t =>
        rw [cut_ok h0 hp] at hq
        cases hq
        have hk : k ≠ 0 := by
          intro hk
          rcases pce_shape h0 hp with e | e | e | e | e | e
          · exact hc ⟨h0, e.2.1⟩
          all_goals omega
        simp only [ne_eq]
        omega
    · rw [cut_end h0] at hq; cases hq
theorem Jn.blE_at {a b J : ByteArray} (h : Jn a b J) : blE J a.size = a.size + 1 + blE b 0 := by
  have hsz := h.size
  rw [blE_in (by omega) (by rw [h.lf]; decide)]
  have hl := blE_le b b.size 0 (by omega) (by omega)
  refine blE_ag (s := b) (blE b 0) 0 (a.size + 1) (by omega) (fun j _ => by rw [Nat.zero_add]; exact h.two j) ?_
  rw [h.two]
  exact blE_stop b b.size 0 (by omega)
theorem Jn.blE_to {a b J : ByteArray} (h : Jn a b J) : ∀ m p, a.size - p ≤ m → p ≤ a.size → blE a p = a.size → blE J p = a.size + 1 + blE b 0
  | m, p, hm, hp, he => by
    have hsz := h.size
    by_cases hc : p < a.size ∧ blk (bt a p) = true
    · rw [blE_in hc.1 hc.2] at he
      rw [blE_in (by omega) (by rw [h.one p hc.1]; exact hc.2)]
      match m, hm with
      | 0, hm => omega
      | m + 1, hm => exact h.blE_to m (p + 1) (by omega) (by omega) he
    · rw [blE_out hc] at he
      rw [he]
      exact h.blE_at
/-- the pieces of the whole: a's, the seam, b's -/
def jl (A E : Nat) (B : List Tk) : List Tk → List Tk
  | [] => ⟨0, A, E⟩ :: B
  | q :: r => if q.k = 0 ∧ r = [] then ⟨0, q.f, E⟩ :: B else q :: jl A E B r
theorem Jn.cut_at {a b J : ByteArray} (h : Jn a b J) : ∀ m p, a.size - p ≤ m → p ≤ a.size → (cut a p).2 = none → cut J p = (jl a.size (a.size + 1 + blE b 0) ((cut b (blE b 0)).1.map (mv1 (a.size + 1))) (cut a p).1, mvF (a.size + 1) (cut b 0).2)
  | m, p, hm, hp, he => by
    have hsz := h.size
    have hrest := cut_move (b := b) (J := J) (d := a.size + 1) h.two b.size (blE b 0) (by omega)
    rw [(cut_bl rfl).1] at hrest
    by_cases hlt : p < a.size
    · cases hc : pce a p with
      | no y z => rw [cut_no hlt hc] at he; cases he
      | ok k t =>
        obtain ⟨t1, t2, -⟩ := pce_ok hlt hc
        rw [cut_ok hlt hc] at he ⊢
        have hempty : (cut a t).1 = [] ↔ t = a.size := by
          constructor
          · intro e
            apply Classical.byContradiction
            intro hne
            have ht : t < a.size := by omega
            cases hc' : pce a t with
            | no y z => rw [cut_no ht hc'] at he; cases he
            | ok k' t' => rw [cut_ok ht hc'] at e; cases e
          · intro e; rw [cut_end (by omega)]
        by_cases hl : k = 0 ∧ t = a.size
        · obtain ⟨rfl, rfl⟩ := hl
          have hsh := pce_shape hlt hc
          obtain ⟨hbl, hbe⟩ : blk (bt a p) = true ∧ a.size = blE a p := by
            rcases hsh with e | e | e | e | e | e
            · exact ⟨e.2.1, e.2.2⟩
            all_goals omega
          have hpj : pce J p = .ok 0 (a.size + 1 + blE b 0) := by
            unfold pce
            rw [h.one p hlt, if_pos hbl, h.blE_to a.size p (by omega) hp hbe.symm]
          rw [cut_ok (by omega) hpj, hrest, jl, if_pos ⟨rfl, hempty.2 rfl⟩]
          simp
        · have hpj := h.pce_a hlt hc (fun h0 => by omega)
          rw [cut_ok (by omega) hpj, jl]
          rw [if_neg (fun e => hl ⟨by have := e.1; simp only at this; omega, hempty.1 e.2⟩)]
          match m, hm with
          | 0, hm => omega
          | m + 1, hm =>
            rw [h.cut_at m t (by omega) t2 he]
    · obtain rfl : p = a.size := by omega
      have hpj : pce J a.size = .ok 0 (a.size + 1 + blE b 0) := by
        unfold pce
        rw [h.lf, if_pos (by decide), h.blE_at]
      rw [cut_end (s := a) (p := a.size) (by omega), cut_ok (by omega) hpj, hrest, jl]
      simp
theorem Jn.cut_no {a b J : ByteArray} (h : Jn a b J) : ∀ m p y z, a.size - p ≤ m → (cut a p).2 = some (y, z) → y ≠ 22 → y ≠ 23 → (cut J p).2 = some (y, z)
  | m, p, y, z, hm, he, h22, h23 => by
    have hsz := h.size
    by_cases hlt : p < a.size
    · cases hc : pce a p with
      | no y' z' =>
        rw [Go.Proofs.YtmnbakalcpanlaaGreatDoor.cut_no hlt hc] at he
        cases he
        rw [Go.Proofs.YtmnbakalcpanlaaGreatDoor.cut_no (by omega) (h.pce_no hlt hc h22 h23)]
      | ok k t =>
        obtain ⟨t1, t2, -⟩ := pce_ok hlt hc
        rw [cut_ok hlt hc] at he
        have ht : t < a.size := by
          apply Classical.byContradiction
          intro hn
          rw [cut_end (by omega)] at he
          cases he
        rw [cut_ok (by omega) (h.pce_a hlt hc (fun _ => ht))]
        match m, hm with
        | 0, hm => omega
        | m + 1, hm => exact h.cut_no m t y z (by omega) he h22 h23
    · rw [cut_end hlt] at he; cases he
-- line feeds
theorem fnd_hit {s : ByteArray} {c i : Nat} (hi : i < s.size) (hb : bt s i = c) : ∀ m k, i - k ≤ m → k ≤ i → fnd s c k ≤ i
  | m, k, hm, hk => by
    by_cases h : k < s.size ∧ bt s k ≠ c
    · rw [fnd_in h.1 h.2]
      have : k ≠ i := fun e => h.2 (by rw [e]; exact hb)
      match m, hm with
      | 0, hm => omega
      | m + 1, hm => exact fnd_hit hi hb m (k + 1) (by omega) (by omega)
    · rw [fnd_out h]; exact hk
theorem nlc_nat (s : ByteArray) (k : Int) (f t : Nat) : nlc s ⟨k, f, t⟩ = decide (0 ≤ Lib.indexByte (s.extract f t).data.toList 10) := rfl
theorem nlc_has {s : ByteArray} {f t i : Nat} (ht : t ≤ s.size) (h1 : f ≤ i) (h2 : i < t) (hb : bt s i = 10) (k : Int) : nlc s ⟨k, f, t⟩ = true := by
  have hz : (s.extract f t).size = t - f := by rw [ByteArray.size_extract]; omega
  have e : (s.extract f t).data.toList = dl (s.extract f t) 0 := by rw [dl_drop]; rfl
  have hx := idx_fnd (s.extract f t) 10 (s.extract f t).size 0 (by omega) (by omega)
  have hi : bt (s.extract f t) (i - f) = 10 := by rw [bt_ex _ _ _ _ ht, if_pos (by omega), show f + (i - f) = i by omega]; exact hb
  have hf := fnd_hit (s := s.extract f t) (c := 10) (i := i - f) (by omega) hi (i - f) 0 (by omega) (by omega)
  have e10 : (10 : UInt8).toNat = 10 := rfl
  rw [e10, if_pos (by omega), ← e] at hx
  rw [nlc_nat, decide_eq_true_eq, hx]
  omega
theorem nlc_ag {s s' : ByteArray} {f t d : Nat} (k : Int) (hft : f ≤ t) (ht : t ≤ s.size) (ha : Ag s s' f (d + f) (t - f)) : nlc s' ⟨k, (f : Int) + d, (t : Int) + d⟩ = nlc s ⟨k, f, t⟩ := by
  have e1 : ((f : Int) + (d : Int)) = ((d + f : Nat) : Int) := by omega
  have e2 : ((t : Int) + (d : Int)) = ((d + t : Nat) : Int) := by omega
  have := ext_ag ha (by omega)
  rw [show f + (t - f) = t by omega, show d + f + (t - f) = d + t by omega] at this
  rw [e1, e2, nlc_nat, nlc_nat, this]
theorem nlc_ag0 {s s' : ByteArray} {f t : Nat} (k : Int) (hft : f ≤ t) (ht : t ≤ s.size) (ha : Ag s s' f f (t - f)) : nlc s' ⟨k, f, t⟩ = nlc s ⟨k, f, t⟩ := by
  have := nlc_ag (d := 0) k hft ht (by rw [Nat.zero_add]; exact ha)
  simpa using this
/-- places of a list that lie in a text -/
def Inn (s : ByteArray) (l : List Tk) : Prop := ∀ q ∈ l, ∃ k f t : Nat, q = ⟨k, f, t⟩ ∧ k < 80 ∧ f ≤ t ∧ t ≤ s.size
theorem aft_move {b J : ByteArray} {d : Nat} (h : ∀ j, bt J (d + j) = bt b j) : ∀ l, Inn b l → aft J (l.map (mv1 d)) = aft b l
  | [], _ => rfl
  | q :: r, hi => by
    obtain ⟨k, f, t, rfl, -, h1, h2⟩ := hi q (List.mem_cons_self ..)
    have e := nlc_ag (s' := J) (d := d) (k : Int) h1 h2 (fun j _ => by rw [Nat.add_assoc]; exact h (f + j))
    simp only [List.map_cons, aft]
    rw [aft_move h r (fun q hq => hi q (List.mem_cons_of_mem _ hq))]
    show (if (k : Int) = 0 ∨ (k : Int) = 1 then (if nlc J ⟨k, (f : Int) + d, (t : Int) + d⟩ = true then true else aft b r) else false) = _
    rw [e]
theorem wau_move {b J : ByteArray} {d : Nat} (h : ∀ j, bt J (d + j) = bt b j) : ∀ l, Inn b l → wau J (l.map (mv1 d)) = (wau b l).map (mv1 d)
  | [], _ => rfl
  | q :: r, hi => by
    have hr : Inn b r := fun q hq => hi q (List.mem_cons_of_mem _ hq)
    simp only [List.map_cons, wau]
    rw [aft_move h r hr, wau_move h r hr]
    show ((mv1 d q) :: (if (ask q.k.toNat && aft b r) = true then [(⟨6, q.t + d, q.t + d⟩ : Tk)] else [])) ++ _ = _
    split <;> simp [mv1]
/-- a list without blanks at its end, and where these begin -/
def rlB : List Tk → List Tk
  | [] => []
  | q :: r => if q.k = 0 ∧ r = [] then [] else q :: rlB r
def frB (A : Nat) : List Tk → Int
  | [] => A
  | q :: r => if q.k = 0 ∧ r = [] then q.f else frB A r
theorem wau_nil {s : ByteArray} {l : List Tk} (h : l ≠ []) : wau s l ≠ [] := by
  cases l with
  | nil => exact absurd rfl h
  | cons q r => simp [wau]
theorem Jn.aft_jl {a b J : ByteArray} (h : Jn a b J) (B : List Tk) {E : Nat} (hE : a.size < E) (hE2 : E ≤ J.size) : ∀ l, Inn a l → aft J (jl a.size E B l) = aft a l
  | [], _ => by
    have := nlc_has (s := J) (f := a.size) (t := E) (i := a.size) hE2 (by omega) hE h.lf 0
    simp only [jl, aft]
    simp [this]
  | q :: r, hi => by
    obtain ⟨k, f, t, rfl, -, h1, h2⟩ := hi q (List.mem_cons_self ..)
    have ih := h.aft_jl B hE hE2 r (fun q hq => hi q (List.mem_cons_of_mem _ hq))
    rw [jl]
    by_cases hc : (k : Int) = 0 ∧ r = []
    · rw [if_pos hc]
      have := nlc_has (s := J) (f := f) (t := E) (i := a.size) hE2 (by omega) hE h.lf 0
      obtain ⟨hk, rfl⟩ := hc
      simp only [aft]
      simp only [hk, true_or, if_true]
      simp [this]
    · rw [if_neg hc]
      have e := nlc_ag0 (s' := J) (k : Int) h1 h2 (h.ag (by omega))
      simp only [aft]
      rw [e, ih]
theorem Jn.wau_jl {a b J : ByteArray} (h : Jn a b J) (B : List Tk) {E : Nat} (hE : a.size < E) (hE2 : E ≤ J.size) : ∀ l, Inn a l → wau J (jl a.size E B l) = rlB (wau a l) ++ (⟨0, frB a.size (wau a l), E⟩ : Tk) :: wau J B
  | [], _ => by
    simp only [jl, wau, rlB, frB]
    have : ask 0 = false := by decide
    simp [this]
  | q :: r, hi => by
    obtain ⟨k, f, t, rfl, -, h1, h2⟩ := hi q (List.mem_cons_self ..)
    have hr : Inn a r := fun q hq => hi q (List.mem_cons_of_mem _ hq)
    have ih := h.wau_jl B hE hE2 r hr
    have ia := h.aft_jl B hE hE2 r hr
    rw [jl]
    by_cases hc : (k : Int) = 0 ∧ r = []
    · rw [if_pos hc]
      obtain ⟨hk, rfl⟩ := hc
      have k0 : k = 0 := by omega
      subst k0
      have a0 : ask 0 = false := by decide
      simp [wau, rlB, frB, a0]
    · rw [if_neg hc]
      have hX : ∀ X : List Tk, (∀ x ∈ X, x.k ≠ 0) → (r = [] → (k : Int) ≠ 0) → rlB ((⟨k, f, t⟩ : Tk) :: X ++ wau a r) = (⟨k, f, t⟩ : Tk) :: X ++ rlB (wau a r) ∧ frB a.size ((⟨k, f, t⟩ : Tk) :: X ++ wau a r) = frB a.size (wau a r) := by
        intro X hx hk
        have key : ∀ X : List Tk, (∀ x ∈ X, x.k ≠ 0) → rlB (X ++ wau a r) = X ++ rlB (wau a r) ∧ frB a.size (X ++ wau a r) = frB a.size (wau a r) := by
          intro X
          induction X with
          | nil => intro _; exact ⟨rfl, rfl⟩
          | cons x X ihx =>
            intro hx
            obtain ⟨e1, e2⟩ := ihx (fun y hy => hx y (List.mem_cons_of_mem _ hy))
            have : ¬ (x.k = 0 ∧ X ++ wau a r = []) := fun e => hx x (List.mem_cons_self ..) e.1
            constructor
            · rw [List.cons_append, rlB, if_neg this, e1]; rfl
            · rw [List.cons_append, frB, if_neg this, e2]
        obtain ⟨e1, e2⟩ := key X hx
        have : ¬ ((k : Int) = 0 ∧ X ++ wau a r = []) := fun e => by
          have hne : wau a r = [] := (List.append_eq_nil_iff.1 e.2).2
          by_cases hr0 : r = []
          · exact hk hr0 e.1
          · exact wau_nil hr0 hne
        constructor
        · rw [List.cons_append, rlB, if_neg this, e1]; rfl
        · rw [List.cons_append, frB, if_neg this, e2]
      have hk : r = [] → (k : Int) ≠ 0 := fun hr0 hk0 => hc ⟨hk0, hr0⟩
      simp only [wau]
      rw [ia, ih]
      split
      · obtain ⟨e1, e2⟩ := hX [(⟨6, t, t⟩ : Tk)] (by intro x hx; simp at hx; subst hx; simp) hk
        rw [e1, e2]
        simp
      · obtain ⟨e1, e2⟩ := hX [] (by intro x hx; cases hx) hk
        rw [e1, e2]
        simp
/-- a list without blanks at its beginning, and where these end -/
def tlB : List Tk → List Tk
  | [] => []
  | q :: r => if q.k = 0 then r else q :: r
def hdB : List Tk → Int
  | [] => 0
  | q :: r => if q.k = 0 then q.t else 0
theorem Jn.scan {a b J : ByteArray} (h : Jn a b J) (ia : Inn a (cut a 0).1) (ib : Inn b (cut b 0).1) (ha : (cut a 0).2 = none) :
    (cut J 0).2 = mvF (a.size + 1) (cut b 0).2 ∧ wau J (cut J 0).1 = rlB (wau a (cut a 0).1) ++ (⟨0, frB a.size (wau a (cut a 0).1), ((a.size + 1 : Nat) : Int) + hdB (wau b (cut b 0).1)⟩ : Tk) :: (tlB (wau b (cut b 0).1)).map (mv1 (a.size + 1)) := by
  have hsz := h.size
  have hc := h.cut_at a.size 0 (by omega) (by omega) ha
  have hbl := blE_le b b.size 0 (by omega) (by omega)
  rw [hc]
  refine ⟨rfl, ?_⟩
  simp only
  rw [h.wau_jl _ (by omega) (by omega) _ ia]
  obtain ⟨-, ⟨q, e1, rfl, e3⟩ | ⟨e1, e2⟩⟩ := cut_bl (b := b) rfl
  · have ib' : Inn b (cut b (blE b 0)).1 := fun q hq => ib q (by rw [e1]; exact List.mem_cons_of_mem _ hq)
    rw [wau_move h.two _ ib', e1]
    have a0 : ask ((0 : Int)).toNat = false := by decide
    simp only [wau, a0, Bool.false_and]
    simp only [List.nil_append, List.cons_append, Bool.false_eq_true, if_false, tlB, hdB, if_true]
    congr 3
  · rw [e1, wau_move h.two _ ib]
    have : hdB (wau b (cut b 0).1) = 0 ∧ tlB (wau b (cut b 0).1) = wau b (cut b 0).1 := by
      cases hl : (cut b 0).1 with
      | nil => exact ⟨rfl, rfl⟩
      | cons q r =>
        have := e2 q r hl
        simp only [wau, List.cons_append, hdB, tlB]
        rw [if_neg this, if_neg this]
        exact ⟨rfl, rfl⟩
    rw [this.1, this.2]
    congr 3
end Go.Proofs.YtmnbakalcpanlaaGreatDoor
