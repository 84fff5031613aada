import Derived.Test.YtmnbakalcpanlaaGreatDoorTm8
import Derived.Test.YtmnbakalcpanlaaGreatDoorLc6
import Derived.Test.YtmnbakalcpanlaaGreatDoorQe
namespace Go.Proofs.YtmnbakalcpanlaaGreatDoor
open Go.ChangeShapes Go.WideShapes Go.ChangeAt Go.RowKit
set_option linter.unusedVariables false
set_option linter.unusedSimpArgs false

/-- a text behind a list of edits -/
def apB (tx : ByteArray) (xs : List Q.Ed) : ByteArray := ⟨(Q.appF tx.data.toList 0 xs).toArray⟩
theorem apB_list (tx : ByteArray) (xs : List Q.Ed) : (apB tx xs).data.toList = Q.appF tx.data.toList 0 xs := by unfold apB; simp
theorem apB_nil (tx : ByteArray) : apB tx [] = tx := by
  apply Q.bytes_ext
  rw [apB_list, Q.appF, List.drop_zero]
/-- nothing changes ahead of the first edit -/
theorem app_from {T : List UInt8} {L : Int} {a b : Nat} (hab : a ≤ b) : ∀ xs : List Q.Ed, Q.chk T.length L xs = 0 → (b : Int) ≤ L → b ≤ T.length → Q.appF T a xs = (T.drop a).take (b - a) ++ Q.appF T b xs
  | [], _, _, _ => by
    rw [Q.appF, Q.appF]
    have e : T.drop b = (T.drop a).drop (b - a) := by rw [List.drop_drop]; congr 1; omega
    rw [e, List.take_append_drop]
  | e :: r, h, hL, hb => by
    obtain ⟨h1, h2, h3, h4, h5⟩ := Q.chk_cons h
    have e1 : T.drop b = (T.drop a).drop (b - a) := by rw [List.drop_drop]; congr 1; omega
    have e2 : (T.drop a).take (e.f.toNat - a) = (T.drop a).take (b - a) ++ (T.drop b).take (e.f.toNat - b) := by
      rw [e1, show e.f.toNat - a = (b - a) + (e.f.toNat - b) by omega, List.take_add]
    rw [Q.appF, Q.appF, e2, List.append_assoc]
theorem chk_drop {size : Int} : ∀ (xs : List Q.Ed) (L : Int) (i : Nat), 0 ≤ L → Q.chk size L xs = 0 → ∃ L', 0 ≤ L' ∧ Q.chk size L' (xs.drop i) = 0
  | xs, L, 0, h0, h => ⟨L, h0, by simpa using h⟩
  | [], L, i + 1, h0, h => ⟨L, h0, by simpa using h⟩
  | e :: r, L, i + 1, h0, h => by
    obtain ⟨h1, h2, h3, h4, h5⟩ := Q.chk_cons h
    exact chk_drop r (e.t + 1) i (by omega) h5
theorem extract_list (s : ByteArray) (f t : Nat) : (s.extract f t).data.toList = (s.data.toList.drop f).take (t - f) := Lib.extract_data s f t
theorem edE_data (s n : ByteArray) (f t : Nat) (ht : t ≤ s.size) : (edE s n f t).data.toList = s.data.toList.take f ++ n.data.toList ++ s.data.toList.drop t := by
  have hl := Q.bytes_len s
  have e := edE_list s n f t
  rw [← e]
  simp only [List.toList_toArray]
  rw [extract_list, extract_list]
  simp only [List.drop_zero, Nat.sub_zero]
  congr 1
  rw [List.take_of_length_le (by rw [List.length_drop]; omega)]
/-- one edit more, ahead of the others -/
theorem app_one {tx : ByteArray} {L : Int} {e : Q.Ed} {r : List Q.Ed} (h : Q.chk tx.size L (e :: r) = 0) : 0 ≤ e.f ∧ e.f ≤ e.t ∧ e.t ≤ ((apB tx r).size : Int) ∧ edE (apB tx r) e.s e.f.toNat e.t.toNat = apB tx (e :: r) := by
  obtain ⟨h1, h2, h3, h4, h5⟩ := Q.chk_cons h
  have hl := Q.bytes_len tx
  have hf := app_from (T := tx.data.toList) (L := e.t + 1) (a := 0) (b := e.t.toNat) (by omega) r (by rw [hl]; exact h5) (by omega) (by omega)
  have hf2 : Q.appF tx.data.toList 0 r = tx.data.toList.take e.t.toNat ++ Q.appF tx.data.toList e.t.toNat r := by simpa using hf
  have ht : (tx.data.toList.take e.t.toNat).length = e.t.toNat := by rw [List.length_take]; omega
  have hs : e.t.toNat ≤ (apB tx r).size := by
    rw [← Q.bytes_len, apB_list, hf2, List.length_append, ht]; omega
  refine ⟨h1, h2, by omega, ?_⟩
  apply Q.bytes_ext
  rw [edE_data _ _ _ _ hs, apB_list, apB_list, hf2, Q.appF, List.drop_left' ht]
  simp only [List.drop_zero, Nat.sub_zero]
  rw [List.take_append_of_le_length (by omega), List.take_take, show min e.f.toNat e.t.toNat = e.f.toNat by omega, List.append_assoc]
theorem app_down {tx : ByteArray} {xs : List Q.Ed} {i : Nat} {e : Q.Ed} (h : Q.chk tx.size 0 xs = 0) (he : xs[i]? = some e) :
    0 ≤ e.f ∧ e.f ≤ e.t ∧ e.t ≤ ((apB tx (xs.drop (i + 1))).size : Int) ∧ edE (apB tx (xs.drop (i + 1))) e.s e.f.toNat e.t.toNat = apB tx (xs.drop i) := by
  obtain ⟨L', -, h'⟩ := chk_drop xs 0 i (Int.le_refl _) h
  rw [Q.drop_get he] at h' ⊢
  exact app_one h'
theorem tots_drop : ∀ (xs : List Q.Ed) (i : Nat), Q.tots (xs.drop i) ≤ Q.tots xs
  | xs, 0 => by simp
  | [], i + 1 => by simp
  | e :: r, i + 1 => by
    have := tots_drop r i
    simp only [List.drop_succ_cons, Q.tots]
    omega
theorem apB_size {tx : ByteArray} {xs : List Q.Ed} (h : Q.chk tx.size 0 xs = 0) (i : Nat) : (apB tx (xs.drop i)).size ≤ tx.size + Q.tots xs := by
  obtain ⟨L', h0, h'⟩ := chk_drop xs 0 i (Int.le_refl _) h
  have hl := Q.bytes_len tx
  have h1 := Q.app_len (tx := tx.data.toList) (L := L') (a := 0) (by rw [hl]; exact h') (by omega) (by omega)
  have h2 := Q.grw_le (xs.drop i) fun e he => (Q.chk_ok h e (List.mem_of_mem_drop he)).2.1
  have h3 := tots_drop xs i
  rw [← Q.bytes_len, apB_list]
  omega
/-- there and back -/
theorem app_back {tx : ByteArray} {xs : List Q.Ed} (h : Q.chk tx.size 0 xs = 0) : apB (apB tx xs) (Q.invF tx 0 xs) = tx := by
  apply Q.bytes_ext
  rw [apB_list, apB_list]
  have := Q.back_app (tx := tx) (S := Q.appF tx.data.toList 0 xs) (P := []) (L := 0) (m := 0) (a := 0) (n := 0) h (by omega) (by omega) (by omega) rfl rfl
  simpa using this

/-- what a list of pieces is of a text: each token within it, one behind the other -/
theorem chn_all {s : ByteArray} : ∀ (L : List Tk) (p : Nat) (b : Bool), Chn s p b L → ∀ (j : Nat) (q : Tk), L[j]? = some q → ∃ k f t : Nat, q = (⟨k, f, t⟩ : Tk) ∧ p ≤ f ∧ f ≤ t ∧ t ≤ s.size ∧ k < 80
  | [], p, b, h, j, q, hq => by simp at hq
  | x :: r, p, b, h, j, q, hq => by
    obtain ⟨k, t, h1, h2, h3, h4, h5, h6, h7, h8⟩ := h
    cases j with
    | zero => simp at hq; subst hq; exact ⟨k, p, t, h1, by omega, h2, h3, h4⟩
    | succ j =>
      obtain ⟨k', f', t', e1, e2, e3, e4, e5⟩ := chn_all r t _ h8 j q (by simpa using hq)
      exact ⟨k', f', t', e1, by omega, e3, e4, e5⟩
theorem chn_next {s : ByteArray} {L : List Tk} {p : Nat} {b : Bool} (h : Chn s p b L) {i j : Nat} {q : Tk} {k f t : Nat} (hi : L[i]? = some (⟨k, f, t⟩ : Tk)) (hj : L[j]? = some q) (hij : i < j) : ∃ k' f' t' : Nat, q = (⟨k', f', t'⟩ : Tk) ∧ t ≤ f' ∧ f' ≤ t' ∧ t' ≤ s.size := by
  have hl := (List.getElem?_eq_some_iff.1 hi).1
  obtain ⟨p', b', h1, -⟩ := chn_at L p b i h hl
  rw [Q.drop_get hi] at h1
  obtain ⟨k1, t1, e1, e2, e3, e4, e5, e6, e7, e8⟩ := h1
  have ht : t1 = t := by have := congrArg Tk.t e1; simp only at this; omega
  subst ht
  obtain ⟨k', f', t', g1, g2, g3, g4, -⟩ := chn_all _ _ _ e8 (j - (i + 1)) q (by rw [List.getElem?_drop, show i + 1 + (j - (i + 1)) = j by omega]; exact hj)
  exact ⟨k', f', t', g1, g2, g3, g4⟩

/-- a name put in the place of each name -/
def nms (n : ByteArray) : List Tk → List Q.Ed
  | [] => []
  | q :: r => if q.k = 2 then ⟨q.f, q.t, n⟩ :: nms n r else nms n r
theorem nms_app (n : ByteArray) : ∀ a b, nms n (a ++ b) = nms n a ++ nms n b
  | [], b => rfl
  | q :: r, b => by
    simp only [List.cons_append, nms]
    by_cases h : q.k = 2
    · rw [if_pos h, if_pos h, nms_app n r b]; rfl
    · rw [if_neg h, if_neg h, nms_app n r b]
theorem isL_not {x : Nat} (h : isLD x = false) : isL x = false := by
  unfold isLD at h
  simp only [Bool.or_eq_false_iff] at h
  exact h.1
theorem nms_piece (n : ByteArray) (k f t : Int) (cd : Bool) (R : List Tk) : nms n (((⟨k, f, t⟩ : Tk) :: (if cd = true then [(⟨6, t, t⟩ : Tk)] else [])) ++ R) = (if k = 2 then [(⟨f, t, n⟩ : Q.Ed)] else []) ++ nms n R := by
  cases cd <;> by_cases h : k = 2 <;> simp [nms, h]
/-- names don't stand side by side -/
theorem chk_names (s n : ByteArray) : ∀ (m p : Nat) (L : Int), s.size - p ≤ m → p ≤ s.size → (cut s p).2 = none → (L ≤ p ∨ (L = p + 1 ∧ (p < s.size → isL (rn s p) = false))) → Q.chk s.size L (nms n (wau s (cut s p).1)) = 0 := by
  intro m
  induction m with
  | zero =>
    intro p L hm hps h hL
    rw [cut_end (by clear hL; omega)]
    rfl
  | succ m ih0 =>
    intro p L hm hps h hL
    by_cases hp : p < s.size
    · cases hc : pce s p with
      | no y z => rw [cut_no hp hc] at h; cases h
      | ok k t =>
        rw [cut_ok hp hc] at h ⊢
        obtain ⟨t1, t2, t3⟩ := pce_ok hp hc
        have hs : k = 2 → t < s.size → isL (rn s t) = false := fun hk ht => isL_not ((pce_stop hp hc).2.2.1 (by omega) (by omega) (by omega) (by omega) ht)
        have ih : ∀ L', (L' ≤ (t : Int) ∨ (L' = t + 1 ∧ (t < s.size → isL (rn s t) = false))) → Q.chk s.size L' (nms n (wau s (cut s t).1)) = 0 := fun L' hL' => ih0 t L' (by clear hL hs hL'; omega) t2 h hL'
        clear ih0
        rw [wau]
        obtain ⟨R, hR⟩ : ∃ R, wau s (cut s t).1 = R := ⟨_, rfl⟩
        rw [hR] at ih ⊢
        simp only [Int.toNat_natCast]
        obtain ⟨cd, hcd⟩ : ∃ cd, (ask k && aft s (cut s t).1) = cd := ⟨_, rfl⟩
        rw [hcd, nms_piece]
        clear hcd hR
        by_cases h2 : k = 2
        · subst h2
          have hl := name_L hp hc
          have hL' : L ≤ p := by
            rcases hL with e | e
            · exact e
            · rw [e.2 hp] at hl; cases hl
          have hs2 := hs rfl
          clear hL hs hc
          rw [if_pos (by omega), List.singleton_append, Q.chk]
          simp only
          rw [if_pos ⟨by clear hs2; omega, by clear hs2; omega, by clear hs2; omega⟩, if_neg (by clear hs2; omega)]
          exact ih _ (.inr ⟨rfl, hs2⟩)
        · have hL' : L ≤ (t : Int) := by
            rcases hL with e | e
            · clear hs; omega
            · have := e.1; clear hs e; omega
          clear hL hs
          rw [if_neg (by omega), List.nil_append]
          exact ih _ (.inl hL')
    · rw [cut_end hp]
      rfl
end Go.Proofs.YtmnbakalcpanlaaGreatDoor
