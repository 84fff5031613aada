import Derived.Test.YtolbepkomgmohaaCm6
import Derived.Test.YtolbepkomgmohaaIv
import Derived.Test.YtolbepkomgmohaaLst
namespace Go.Proofs.Ytolbepkomgmohaa
open Go.ChangeShapes Go.WideShapes Go.ChangeAt Go.RowKit
set_option linter.unusedVariables false

theorem back_chk {tx : ByteArray} {size L a m L' : Int} {xs : List Ed} (h : chk size L xs = 0) (ha : a ≤ L) (hs : a ≤ size) (hm : 0 ≤ a + m) (hL : L' ≤ L + m) : chk (size + m + grw xs) L' (invF tx m xs) = 0 := by
  induction xs generalizing L a m L' with
  | nil => rfl
  | cons e r ih =>
    obtain ⟨h1, h2, h3, h4, h5⟩ := chk_cons h
    have hg := grw_ge (a := e.t) h5 (by omega) h3
    have := ih (a := e.t) (m := m + ((e.s.size : Int) - (e.t - e.f))) (L' := e.f + m + e.s.size + 1) h5 (by omega) h3 (by omega) (by omega)
    rw [invF, chk, grw, if_pos ⟨by simp only; omega, by simp only; omega, by simp only; omega⟩, if_neg (by simp only; omega)]
    rw [show size + m + ((e.s.size : Int) - (e.t - e.f) + grw r) = size + (m + ((e.s.size : Int) - (e.t - e.f))) + grw r by omega]
    exact this

theorem cut_three (T : List UInt8) {a f t : Nat} (h1 : a ≤ f) (h2 : f ≤ t) : (T.drop a).take (f - a) ++ ((T.drop f).take (t - f) ++ T.drop t) = T.drop a := by
  have e1 : T.drop t = (T.drop f).drop (t - f) := by rw [List.drop_drop]; congr 1; omega
  rw [e1, List.take_append_drop]
  have e2 : T.drop f = (T.drop a).drop (f - a) := by rw [List.drop_drop]; congr 1; omega
  rw [e2, List.take_append_drop]

theorem back_app {tx : ByteArray} {S P : List UInt8} {xs : List Ed} {L m : Int} {a n : Nat} (h : chk tx.size L xs = 0) (ha : (a : Int) ≤ L) (hs : a ≤ tx.size) (hn : (n : Int) = a + m) (hP : P.length = n) (hS : S = P ++ appF tx.data.toList a xs) :
    appF S n (invF tx m xs) = tx.data.toList.drop a := by
  induction xs generalizing L m a n P with
  | nil =>
    rw [invF, appF, hS, List.drop_left' hP, appF]
  | cons e r ih =>
    obtain ⟨h1, h2, h3, h4, h5⟩ := chk_cons h
    have hl := bytes_len tx
    have hlen : ((tx.data.toList.drop a).take (e.f.toNat - a)).length = e.f.toNat - a := by
      rw [List.length_take, List.length_drop]; omega
    rw [appF] at hS
    have hS2 : S = (P ++ ((tx.data.toList.drop a).take (e.f.toNat - a) ++ e.s.data.toList)) ++ appF tx.data.toList e.t.toNat r := by
      rw [hS]; simp
    have hP2 : (P ++ ((tx.data.toList.drop a).take (e.f.toNat - a) ++ e.s.data.toList)).length = (e.f + m + e.s.size).toNat := by
      rw [List.length_append, List.length_append, hlen, bytes_len, hP]; omega
    have := ih (L := e.t + 1) (m := m + ((e.s.size : Int) - (e.t - e.f))) (a := e.t.toNat) h5 (by omega) (by omega) (by omega) hP2 hS2
    rw [invF, appF]
    simp only
    rw [this, Lib.extract_data, show (e.f + m).toNat - n = e.f.toNat - a by omega]
    conv => lhs; lhs; rw [hS, List.drop_left' hP, List.take_left' hlen]
    exact cut_three _ (by omega) (by omega)

theorem back_inv {tx S : ByteArray} {P : List UInt8} {xs : List Ed} {L m : Int} {a n : Nat} (h : chk tx.size L xs = 0) (ha : (a : Int) ≤ L) (hs : a ≤ tx.size) (hn : (n : Int) = a + m) (hP : P.length = n) (hS : S.data.toList = P ++ appF tx.data.toList a xs) :
    invF S (-m) (invF tx m xs) = xs := by
  induction xs generalizing L m a n P with
  | nil => rfl
  | cons e r ih =>
    obtain ⟨h1, h2, h3, h4, h5⟩ := chk_cons h
    have hl := bytes_len tx
    have hlen : ((tx.data.toList.drop a).take (e.f.toNat - a)).length = e.f.toNat - a := by
      rw [List.length_take, List.length_drop]; omega
    rw [appF] at hS
    have hS2 : S.data.toList = (P ++ ((tx.data.toList.drop a).take (e.f.toNat - a) ++ e.s.data.toList)) ++ appF tx.data.toList e.t.toNat r := by
      rw [hS]; simp
    have hS3 : S.data.toList = (P ++ (tx.data.toList.drop a).take (e.f.toNat - a)) ++ (e.s.data.toList ++ appF tx.data.toList e.t.toNat r) := by
      rw [hS]; simp
    have hP2 : (P ++ ((tx.data.toList.drop a).take (e.f.toNat - a) ++ e.s.data.toList)).length = (e.f + m + e.s.size).toNat := by
      rw [List.length_append, List.length_append, hlen, bytes_len, hP]; omega
    have hP3 : (P ++ (tx.data.toList.drop a).take (e.f.toNat - a)).length = (e.f + m).toNat := by
      rw [List.length_append, hlen, hP]; omega
    have hi := ih (L := e.t + 1) (m := m + ((e.s.size : Int) - (e.t - e.f))) (a := e.t.toNat) h5 (by omega) (by omega) (by omega) hP2 hS2
    have hsz : (tx.extract e.f.toNat e.t.toNat).size = e.t.toNat - e.f.toNat := by simp; omega
    have hx : S.extract (e.f + m).toNat (e.f + m + e.s.size).toNat = e.s := by
      apply bytes_ext
      rw [Lib.extract_data, hS3, List.drop_left' hP3, show (e.f + m + e.s.size).toNat - (e.f + m).toNat = e.s.data.toList.length by rw [bytes_len]; omega, List.take_left' rfl]
    rw [invF, invF]
    simp only
    rw [hsz, hx, show -m + (((e.t.toNat - e.f.toNat : Nat) : Int) - (e.f + m + e.s.size - (e.f + m))) = -(m + ((e.s.size : Int) - (e.t - e.f))) by omega, hi]
    congr 1
    cases e
    simp only at *
    congr 1 <;> omega

def idE (tx : ByteArray) (e : Ed) : Ed := ⟨e.f, e.t, tx.extract e.f.toNat e.t.toNat⟩

theorem id_chk (tx : ByteArray) (size L : Int) (xs : List Ed) : chk size L (xs.map (idE tx)) = chk size L xs := by
  induction xs generalizing L with
  | nil => rfl
  | cons e r ih =>
    rw [List.map_cons, chk, chk, ih]
    rfl

theorem trimL_full (T : List UInt8) (k f : Nat) (h : f + k ≤ T.length) : trimL T (f + k) f ((T.drop f).take k) = (f + k, []) := by
  induction k generalizing f with
  | zero => simp [trimL]
  | succ k ih =>
    have hf : f < T.length := by omega
    rw [List.drop_eq_getElem_cons hf, List.take_succ_cons, trimL, if_pos ⟨by omega, List.getElem?_eq_getElem hf⟩]
    have := ih (f + 1) (by omega)
    rw [show f + 1 + k = f + (k + 1) by omega] at this
    exact this

theorem nrm_id {tx : ByteArray} {xs : List Ed} (h : ∀ e ∈ xs, 0 ≤ e.f ∧ e.f ≤ e.t ∧ e.t ≤ (tx.size : Int)) : nrm tx (xs.map (idE tx)) = [] := by
  induction xs with
  | nil => rfl
  | cons e r ih =>
    have he := h e (List.mem_cons_self ..)
    have hr := ih fun x hx => h x (List.mem_cons_of_mem _ hx)
    have hl := bytes_len tx
    have ht : trimL tx.data.toList e.t.toNat e.f.toNat (tx.extract e.f.toNat e.t.toNat).data.toList = (e.t.toNat, []) := by
      have := trimL_full tx.data.toList (e.t.toNat - e.f.toNat) e.f.toNat (by omega)
      rw [show e.f.toNat + (e.t.toNat - e.f.toNat) = e.t.toNat by omega] at this
      rw [Lib.extract_data]; exact this
    rw [List.map_cons, nrm_cons_no, hr]
    unfold trimE idE
    simp only [ht, List.reverse_nil, trimR]
    exact keepB_no (by simp [ByteArray.size])

theorem tk_same (ps : List Ed) (a : Int) : (tk ps a a).1 = [] := by
  have hpc : ∀ p : Ed, pc p a a = [] := fun p => by
    unfold pc; rw [if_neg (by omega)]
  induction ps with
  | nil => rfl
  | cons p r ih =>
    by_cases h : a < p.t
    · rw [tk_break r h]; exact hpc p
    · rw [tk_next r h]; simp only [hpc p, ih, List.append_nil]

theorem wv_one (ps : List Ed) (q : Ed) : wv ps [q] q.f q.t = q.s.data.toList := by
  rw [wv, wv, tk_same, tk_same]; simp

theorem lay_first {size L m : Int} {r : List Ed} (h : chk size L r = 0) : ∀ p, (lay m r)[0]? = some p → L + m ≤ p.f := by
  cases r with
  | nil => intro p hp; simp [lay] at hp
  | cons e r =>
    obtain ⟨h1, h2, h3, h4, h5⟩ := chk_cons h
    intro p hp
    rw [lay] at hp
    simp at hp
    subst hp
    simp only; omega
theorem inv_first {tx : ByteArray} {size L m : Int} {r : List Ed} (h : chk size L r = 0) : ∀ p, (invF tx m r)[0]? = some p → L + m ≤ p.f := by
  cases r with
  | nil => intro p hp; simp [invF] at hp
  | cons e r =>
    obtain ⟨h1, h2, h3, h4, h5⟩ := chk_cons h
    intro p hp
    rw [invF] at hp
    simp at hp
    subst hp
    simp only; omega

theorem gr_back {tx : ByteArray} {size L : Int} {xs : List Ed} (n : Nat) (m : Int) (h : chk size L xs = 0) (hn : xs.length ≤ n) : gr n (lay m xs) xs (invF tx m xs) m = xs.map (idE tx) := by
  induction xs generalizing L m n with
  | nil => exact gr_nil n [] m
  | cons e r ih =>
    obtain ⟨h1, h2, h3, h4, h5⟩ := chk_cons h
    obtain ⟨n, rfl⟩ : ∃ k, n = k + 1 := ⟨n - 1, by simp at hn; omega⟩
    have hi := ih n (m + ((e.s.size : Int) - (e.t - e.f))) h5 (by simp at hn; omega)
    obtain ⟨m', hm'⟩ : ∃ m', m + ((e.s.size : Int) - (e.t - e.f)) = m' := ⟨_, rfl⟩
    rw [hm'] at hi
    have f1 := lay_first (m := m') h5
    have f2 := inv_first (tx := tx) (m := m') h5
    rw [lay, invF, hm']
    obtain ⟨old, hold⟩ : ∃ old, tx.extract e.f.toNat e.t.toNat = old := ⟨_, rfl⟩
    rw [hold]
    have hlow : low (⟨e.f + m, e.f + m + e.s.size, e.s⟩ :: lay m' r) (⟨e.f + m, e.f + m + e.s.size, old⟩ :: invF tx m' r) = e.f + m := by
      simp only [low]; omega
    have hr : rch (⟨e.f + m, e.f + m + e.s.size, e.s⟩ :: lay m' r) (⟨e.f + m, e.f + m + e.s.size, old⟩ :: invF tx m' r) ((⟨e.f + m, e.f + m + e.s.size, e.s⟩ :: lay m' r).length + (⟨e.f + m, e.f + m + e.s.size, old⟩ :: invF tx m' r).length) 0 0 (e.f + m) = (1, 1, e.f + m + e.s.size) := by
      have hl : (⟨e.f + m, e.f + m + e.s.size, e.s⟩ :: lay m' r : List Ed).length + (⟨e.f + m, e.f + m + e.s.size, old⟩ :: invF tx m' r : List Ed).length = (2 * r.length + 1) + 1 := by
        rw [List.length_cons, List.length_cons, lay_len, inv_len]; omega
      rw [hl, rch_put (e := ⟨e.f + m, e.f + m + e.s.size, e.s⟩) rfl (Int.le_refl _)]
      simp only [Nat.zero_add]
      rw [Int.max_eq_right (by omega)]
      rw [rch_b (e := ⟨e.f + m, e.f + m + e.s.size, old⟩) (fun p hp => by have := f1 p (by simpa using hp); omega) rfl (by simp only; omega)]
      simp only [Nat.zero_add]
      rw [Int.max_self]
      exact rch_stop (fun p hp => by have := f1 p (by simpa using hp); omega) (fun p hp => by have := f2 p (by simpa using hp); omega)
    rw [gr, if_neg (by simp), hlow, hr]
    have hw := wv_one [⟨e.f + m, e.f + m + e.s.size, e.s⟩] ⟨e.f + m, e.f + m + e.s.size, old⟩
    simp only at hw
    simp only [List.take_succ_cons, List.take_zero, List.drop_succ_cons, List.drop_zero, hw, grw, Int.add_zero]
    rw [hm', hi, List.map_cons]
    congr 1
    unfold idE
    rw [hold]
    congr 1 <;> omega

theorem back_tots {tx : ByteArray} {xs : List Ed} (m : Int) (h : ∀ e ∈ xs, 0 ≤ e.f ∧ e.f ≤ e.t ∧ e.t ≤ (tx.size : Int)) : (tots (invF tx m xs) : Int) = tots xs - grw xs := by
  induction xs generalizing m with
  | nil => rfl
  | cons e r ih =>
    have he := h e (List.mem_cons_self ..)
    have hi := ih (m + ((e.s.size : Int) - (e.t - e.f))) fun x hx => h x (List.mem_cons_of_mem _ hx)
    have hsz : (tx.extract e.f.toNat e.t.toNat).size = e.t.toNat - e.f.toNat := by simp; omega
    rw [invF, tots, tots, grw]
    simp only [hsz]
    omega
end Go.Proofs.Ytolbepkomgmohaa
