import Derived.Test.YtclpodmgpfdleaaLst
namespace Go.Proofs.Ytclpodmgpfdleaa
open Go.ChangeShapes Go.WideShapes Go.ChangeAt Go.RowKit
set_option linter.unusedVariables false

theorem sh_tail {size L p m : Int} {ys : List Ed} (h : chk size L ys = 0) (hp : p < L) : shS p m ys = some m := by
  induction ys generalizing L m with
  | nil => rfl
  | cons e r ih =>
    obtain ⟨h1, h2, h3, h4, h5⟩ := chk_cons h
    rw [shS, if_neg (by omega), if_neg (by omega)]
    exact ih h5 (by omega)

theorem sh_head {p m : Int} {xs : List Ed} {i : Nat} (h : ∀ e ∈ xs.take i, e.t ≤ p) : shS p m xs = shS p (m + grw (xs.take i)) (xs.drop i) := by
  induction i generalizing xs m with
  | zero => simp [grw]
  | succ i ih =>
    cases xs with
    | nil => simp [grw]
    | cons e r =>
      have he := h e (by simp)
      rw [shS, if_neg (by omega), if_pos he, List.take_succ_cons, List.drop_succ_cons, grw, ih (fun x hx => h x (by rw [List.take_succ_cons]; exact List.mem_cons_of_mem _ hx))]
      congr 1
      omega

theorem grw_append (a b : List Ed) : grw (a ++ b) = grw a + grw b := by
  induction a with
  | nil => simp [grw]
  | cons e r ih => rw [List.cons_append, grw, grw, ih]; omega

/-- where the play stands at a place: i edits end at it or ahead of it; the last place told -/
def KI (tx : ByteArray) (xs : List Ed) (p i last : Nat) : Prop := ∃ (P : List UInt8) (b q : Nat) (L : Int), i ≤ xs.length ∧ P ++ appF tx.data.toList b (xs.drop i) = appF tx.data.toList 0 xs ∧
  (P.length : Int) = b + grw (xs.take i) ∧ b ≤ q ∧ q ≤ p ∧ b ≤ tx.size ∧ (∀ e, xs[i]? = some e → (q : Int) ≤ e.f) ∧ (last : Int) ≤ P.length + ((q : Int) - b) ∧ chk tx.size L (xs.drop i) = 0 ∧ (b : Int) ≤ L ∧
  (∀ e ∈ xs.take i, e.t ≤ (p : Int)) ∧ (p = tx.size + 1 → last = (appF tx.data.toList 0 xs).length)

theorem KI_start {tx : ByteArray} {xs : List Ed} (h : chk tx.size 0 xs = 0) : KI tx xs 0 0 0 := by
  refine ⟨[], 0, 0, 0, Nat.zero_le _, by simp, by simp [grw], Nat.le_refl _, Nat.le_refl _, Nat.zero_le _, ?_, by simp, by simpa using h, by omega, by simp, fun h => by omega⟩
  intro e he
  exact (chk_ok h e (List.mem_of_getElem? he)).1

theorem KI_adv {tx : ByteArray} {xs : List Ed} {p i last : Nat} {e : Ed} (hp : p ≤ tx.size) (h : KI tx xs p i last) (he : xs[i]? = some e) (ht : e.t ≤ (p : Int)) : KI tx xs p (i + 1) last := by
  obtain ⟨P, b, q, L, h1, h2, h3, h4, h5, h6, h7, h8, h9, h10, h11, h12⟩ := h
  have hq := h7 e he
  have hi := (List.getElem?_eq_some_iff.1 he).1
  have hl := bytes_len tx
  rw [drop_get he] at h9 h2
  obtain ⟨k1, k2, k3, k4, k5⟩ := chk_cons h9
  rw [appF] at h2
  have hb : b ≤ e.f.toNat := by omega
  have hLen : ((tx.data.toList.drop b).take (e.f.toNat - b)).length = e.f.toNat - b := by
    rw [List.length_take, List.length_drop]; omega
  have htk : xs.take (i + 1) = xs.take i ++ [e] := by
    obtain ⟨hk, rfl⟩ := List.getElem?_eq_some_iff.1 he
    rw [List.take_succ_eq_append_getElem hk]
  refine ⟨P ++ ((tx.data.toList.drop b).take (e.f.toNat - b) ++ e.s.data.toList), e.t.toNat, e.t.toNat, e.t + 1, by omega, ?_, ?_, Nat.le_refl _, by omega, by omega, ?_, ?_, k5, by omega, ?_, fun h => by omega⟩
  · rw [← h2]; simp [List.append_assoc]
  · rw [htk, grw_append, grw, grw]
    simp only [List.length_append, hLen, bytes_len]
    omega
  · intro e2 he2
    rw [drop_get he2] at k5
    have := chk_cons k5
    omega
  · simp only [List.length_append, hLen, bytes_len]
    omega
  · intro x hx
    rw [htk, List.mem_append, List.mem_singleton] at hx
    rcases hx with hx | rfl
    · exact h11 x hx
    · exact ht

theorem KI_no {tx : ByteArray} {xs : List Ed} {p i last : Nat} {e : Ed} (hp : p ≤ tx.size) (hv : vld 4611686018427387904 xs = 0) (hx : tx.size ≤ 140737488351232) (h : KI tx xs p i last) (he : xs[i]? = some e) (ht : (p : Int) < e.t) (hf : e.f < (p : Int)) :
    (shN xs p = 0 ∧ shB xs p = false) ∧ KI tx xs (p + 1) i last := by
  obtain ⟨P, b, q, L, h1, h2, h3, h4, h5, h6, h7, h8, h9, h10, h11, h12⟩ := h
  refine ⟨?_, P, b, q, L, h1, h2, h3, h4, by omega, h6, h7, h8, h9, h10, fun x hx => by have := h11 x hx; omega, fun h => ?_⟩
  · exact sh_none (k := i) (m := 0 + grw (xs.take i)) ⟨by omega, by omega, hv⟩ (sh_head h11) he ⟨hf, ht⟩
  · rw [drop_get he] at h9
    have := chk_cons h9
    omega

theorem KI_ok {tx : ByteArray} {xs : List Ed} {p i last : Nat} (hp : p ≤ tx.size) (hv : vld 4611686018427387904 xs = 0) (hck : chk tx.size 0 xs = 0) (hx : tx.size + tots xs ≤ 1048576) (h : KI tx xs p i last)
    (ht : ∀ e, xs[i]? = some e → (p : Int) < e.t) (hf : ∀ e, xs[i]? = some e → (p : Int) ≤ e.f) :
    ∃ n : Nat, shN xs p = n ∧ shB xs p = true ∧ last ≤ n ∧ n ≤ (appF tx.data.toList 0 xs).length ∧ KI tx xs (p + 1) i n ∧
      (p < tx.size → (∀ e, xs[i]? = some e → (p : Int) < e.f) → (appF tx.data.toList 0 xs)[n]? = tx.data.toList[p]?) := by
  have hl := bytes_len tx
  obtain ⟨hb1, hb2⟩ := app_bound hck
  obtain ⟨P, b, q, L, h1, h2, h3, h4, h5, h6, h7, h8, h9, h10, h11, h12⟩ := h
  have hG : 0 ≤ (p : Int) ∧ (p : Int) ≤ 4611686018427387904 ∧ vld 4611686018427387904 xs = 0 := ⟨by omega, by omega, hv⟩
  have hS : shS p 0 xs = some (grw (xs.take i)) := by
    rw [sh_head h11, Int.zero_add]
    cases hd : xs[i]? with
    | none => rw [List.drop_eq_nil_of_le (by simpa using hd)]; rfl
    | some e =>
      rw [drop_get hd] at h9 ⊢
      obtain ⟨k1, k2, k3, k4, k5⟩ := chk_cons h9
      have := ht e hd
      have := hf e hd
      rw [shS, if_neg (by omega), if_neg (by omega)]
      exact sh_tail k5 (by omega)
  have hsplit : P ++ ((tx.data.toList.drop b).take (p - b) ++ appF tx.data.toList p (xs.drop i)) = appF tx.data.toList 0 xs := by
    rw [← h2]
    cases hd : xs[i]? with
    | none =>
      rw [show xs.drop i = [] from List.drop_eq_nil_of_le (by simpa using hd)]
      rw [app_shift (L := p) (tx := tx) (ys := []) (a := b) (t := p) rfl (by omega) (by omega) hp]
    | some e =>
      have hfe := hf e hd
      rw [drop_get hd] at h9 ⊢
      obtain ⟨k1, k2, k3, k4, k5⟩ := chk_cons h9
      have hchk : chk tx.size e.f (e :: xs.drop (i + 1)) = 0 := by rw [chk, if_pos ⟨k1, k2, k3⟩, if_neg (by omega)]; exact k5
      rw [app_shift (L := e.f) (tx := tx) (a := b) (t := p) hchk hfe (by omega) hp]
  have hLen : ((tx.data.toList.drop b).take (p - b)).length = p - b := by
    rw [List.length_take, List.length_drop]; omega
  have hn : ((P ++ (tx.data.toList.drop b).take (p - b)).length : Int) = p + grw (xs.take i) := by
    rw [List.length_append, hLen]; omega
  refine ⟨(P ++ (tx.data.toList.drop b).take (p - b)).length, ?_, ?_, ?_, ?_, ?_, ?_⟩
  · unfold shN
    rw [if_pos hG, hS]
    simp only
    have hle : (P ++ (tx.data.toList.drop b).take (p - b)).length ≤ (appF tx.data.toList 0 xs).length := by
      have := congrArg List.length hsplit
      simp only [List.length_append] at this ⊢
      omega
    rw [← hn, IntWalk.wrap64_in _ ⟨by omega, by omega⟩]
  · unfold shB; rw [if_pos hG, hS]; rfl
  · rw [List.length_append, hLen]; omega
  · have := congrArg List.length hsplit
    simp only [List.length_append] at this ⊢
    omega
  · refine ⟨P, b, p, L, h1, h2, h3, by omega, by omega, h6, hf, ?_, h9, h10, fun x hx => by have := h11 x hx; omega, fun h => ?_⟩
    · rw [List.length_append, hLen]; omega
    · have hps : p = tx.size := by omega
      cases hd : xs[i]? with
      | none =>
        have hi : xs.length ≤ i := by simpa using hd
        rw [List.take_of_length_le hi] at hn
        omega
      | some e =>
        have h1 := ht e hd
        rw [drop_get hd] at h9
        have := chk_cons h9
        omega
  · intro hlt hfl
    rw [← hsplit, ← List.append_assoc, List.getElem?_append_right (Nat.le_refl _), Nat.sub_self]
    have hd0 : ∀ ys : List UInt8, ((tx.data.toList.drop p).take (ys.length + 1) ++ ys)[0]? = tx.data.toList[p]? := by
      intro ys
      have : 0 < ((tx.data.toList.drop p).take (ys.length + 1)).length := by rw [List.length_take, List.length_drop]; omega
      rw [List.getElem?_append_left this, List.getElem?_take_of_lt (by omega), List.getElem?_drop]; rfl
    cases hd : xs[i]? with
    | none =>
      rw [List.drop_eq_nil_of_le (by simpa using hd), appF, List.getElem?_drop]; rfl
    | some e =>
      have := hfl e hd
      rw [drop_get hd, appF]
      have h0 : 0 < ((tx.data.toList.drop p).take (e.f.toNat - p)).length := by
        rw [drop_get hd] at h9
        have := chk_cons h9
        rw [List.length_take, List.length_drop]; omega
      rw [List.getElem?_append_left h0, List.getElem?_take_of_lt (by omega), List.getElem?_drop]; rfl

theorem KI_end {tx : ByteArray} {xs : List Ed} {p i last : Nat} (h : KI tx xs p i last) (hp : p = tx.size + 1) : last = (appF tx.data.toList 0 xs).length := by
  obtain ⟨P, b, q, L, h1, h2, h3, h4, h5, h6, h7, h8, h9, h10, h11, h12⟩ := h
  exact h12 hp

theorem KI_le {tx : ByteArray} {xs : List Ed} {p i last : Nat} (h : KI tx xs p i last) : i ≤ xs.length := by
  obtain ⟨P, b, q, L, h1, _⟩ := h; exact h1
end Go.Proofs.Ytclpodmgpfdleaa
