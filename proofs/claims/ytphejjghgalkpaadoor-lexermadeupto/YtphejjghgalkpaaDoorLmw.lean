import Derived.Test.YtphejjghgalkpaaDoorLmr
import Derived.Test.YtphejjghgalkpaaDoorLzs
namespace Go.Proofs.YtphejjghgalkpaaDoor
open Go.ChangeShapes Go.WideShapes Go.ChangeAt Go.RowKit
set_option linter.unusedVariables false
set_option linter.unusedSimpArgs false

theorem sq_data (l : List UInt8) : (sq l).data.toList = l := by show l.toArray.toList = l; simp
theorem sq_bt (l : List UInt8) (i : Nat) : bt (sq l) i = match l[i]? with | some c => c.toNat | none => 256 := by
  cases h : l[i]? with
  | some c => exact bt_at h
  | none =>
    rw [bt_out]
    rw [sq_size]
    have := List.getElem?_eq_none_iff.1 h
    omega
theorem low_let : ∀ n, n < 123 → 97 ≤ n → isLD n = true ∧ isL n = true := by decide
theorem rnE_all (s : ByteArray) : ∀ n p, s.size - p ≤ n → p ≤ s.size → (∀ i, p ≤ i → i < s.size → 97 ≤ bt s i ∧ bt s i ≤ 122) → rnE s p = s.size
  | n, p, hn, hp, h => by
    by_cases hlt : p < s.size
    · obtain ⟨h1, h2⟩ := h p (Nat.le_refl _) hlt
      obtain ⟨-, -, d3, -⟩ := dec_facts s p hlt
      have hd := d3 (by rw [← bt_in hlt]; omega)
      have hl : isLD (rn s p) = true := by rw [hd.2, ← bt_in hlt]; exact (low_let _ (by omega) h1).1
      rw [rnE_in hlt hl, hd.1]
      match n, hn with
      | 0, hn => omega
      | m + 1, hn => exact rnE_all s m (p + 1) (by omega) (by omega) (fun i hi => h i (by omega))
    · rw [rnE_out (fun h => hlt h.1)]; omega
theorem wds_low : ∀ n, n < 25 → ∀ c ∈ wds.getD n [], 97 ≤ c.toNat ∧ c.toNat ≤ 122 := by decide
theorem wds_pos : ∀ n, n < 25 → 0 < (wds.getD n []).length ∧ (wds.getD n []).length ≤ 11 := by decide
theorem pce_word (n : Nat) (hn : n < 25) : pce (sq (wds.getD n [])) 0 = .ok (7 + n) (sq (wds.getD n [])).size := by
  obtain ⟨hp1, hp2⟩ := wds_pos n hn
  have hall : ∀ i, 0 ≤ i → i < (sq (wds.getD n [])).size → 97 ≤ bt (sq (wds.getD n [])) i ∧ bt (sq (wds.getD n [])) i ≤ 122 := fun i _ hi => by
    rw [sq_size] at hi
    have e := List.getElem?_eq_getElem hi
    rw [bt_at e]
    exact wds_low n hn _ (List.getElem_mem hi)
  have hsz := sq_size (wds.getD n [])
  have h0 : 0 < (sq (wds.getD n [])).size := by omega
  obtain ⟨b1, b2⟩ := hall 0 (Nat.le_refl _) h0
  obtain ⟨-, -, d3, -⟩ := dec_facts _ 0 h0
  have hd := d3 (by rw [← bt_in h0]; omega)
  have hL : isL (rn (sq (wds.getD n [])) 0) = true := by rw [hd.2, ← bt_in h0]; exact (low_let _ (by omega) b1).2
  have hr := rnE_all _ _ 0 (Nat.le_refl _) (Nat.zero_le _) hall
  have hbk : ¬ blk (bt (sq (wds.getD n [])) 0) = true := by
    have : ∀ n, n < 123 → 97 ≤ n → ¬ blk n = true := by decide
    exact this _ (by omega) b1
  unfold pce
  rw [if_neg hbk, if_neg (by omega), if_neg (by omega), if_pos hL]
  unfold nmP
  rw [hr, if_neg (by omega)]
  have hx : ((sq (wds.getD n [])).extract 0 (sq (wds.getD n [])).size).data.toList = wds.getD n [] := by
    rw [ByteArray.extract_zero_size, sq_data]
  rw [hx, kwd_hit hn rfl]
theorem fit_self (P m : List UInt8) : fit (sq (P ++ m)) P.length m := by
  induction m generalizing P with
  | nil => trivial
  | cons c r ih =>
    refine ⟨?_, ?_⟩
    · have := bt_mid P r c 0 [c] rfl
      simpa using this
    · have := ih (P ++ [c])
      simpa using this
def hd0 (m : List UInt8) : Nat := match m with | c :: _ => c.toNat | [] => 256
def hd1 (m : List UInt8) : Nat := match m with | _ :: c :: _ => c.toNat | _ => 256
theorem mks_head : ∀ n, n < 48 → ¬ blk (hd0 (mks.getD n [])) = true ∧ ¬ (hd0 (mks.getD n []) = 47 ∧ hd1 (mks.getD n []) = 47) ∧ ¬ (hd0 (mks.getD n []) = 47 ∧ hd1 (mks.getD n []) = 42) ∧ isL (hd0 (mks.getD n [])) = false ∧ ¬ (48 ≤ hd0 (mks.getD n []) ∧ hd0 (mks.getD n []) ≤ 57) ∧ ¬ (hd0 (mks.getD n []) = 39 ∨ hd0 (mks.getD n []) = 34 ∨ hd0 (mks.getD n []) = 96) ∧ hd0 (mks.getD n []) < 128 := by decide
theorem sq_hd (m : List UInt8) : bt (sq m) 0 = hd0 m ∧ bt (sq m) 1 = hd1 m := by
  rw [sq_bt, sq_bt]
  match m with
  | [] => exact ⟨rfl, rfl⟩
  | [c] => exact ⟨rfl, rfl⟩
  | c :: d :: r => exact ⟨rfl, rfl⟩
theorem pce_mark (n : Nat) (hn : n < 48) : pce (sq (mks.getD n [])) 0 = .ok (32 + n) (sq (mks.getD n [])).size := by
  have hne := mks_pos n hn
  have hl : 0 < (mks.getD n []).length := List.length_pos_iff.2 hne
  have hsz := sq_size (mks.getD n [])
  have h0 : 0 < (sq (mks.getD n [])).size := by omega
  obtain ⟨e0, e1⟩ := sq_hd (mks.getD n [])
  obtain ⟨m1, m2, m3, m4, m5, m6, m7⟩ := mks_head n hn
  obtain ⟨-, -, d3, -⟩ := dec_facts _ 0 h0
  have hd := d3 (by rw [← bt_in h0, e0]; exact m7)
  have hrn : rn (sq (mks.getD n [])) 0 = hd0 (mks.getD n []) := by rw [hd.2, ← bt_in h0, e0]
  have hf := fit_self [] (mks.getD n [])
  rw [List.nil_append, List.length_nil] at hf
  have hb : bgn (sq (mks.getD n [])) 0 (mks.getD n []) = true := (bgn_fit _ _ 0 (Nat.zero_le _)).2 hf
  unfold pce
  rw [e0, e1, hrn, if_neg m1, if_neg m2, if_neg m3, m4, if_neg (by simp), if_neg m5, if_neg m6]
  unfold mkP
  rcases mkF_spec (sq (mks.getD n [])) 0 mks 0 (0, 0) with ⟨e, hall⟩ | ⟨j, n1, n2, n3, n4, n5⟩
  · have := hall _ (mks_in hn) hb
    simp only at this
    omega
  · have hj : j < 48 := by have := tt_len.2; omega
    have g2 := n5 _ (mks_in hn) hb
    have g1 : 0 + (mks.getD j []).length ≤ (sq (mks.getD n [])).size := by
      unfold bgn at n2
      rw [Bool.and_eq_true, decide_eq_true_eq] at n2
      exact n2.1
    have hlen : (mks.getD j []).length = (mks.getD n []).length := by omega
    have same : ∀ (s : ByteArray) (a b : List UInt8) (q : Nat), a.length = b.length → fit s q a → fit s q b → a = b := by
      intro s a
      induction a with
      | nil => intro b q hl _ _; exact (List.eq_nil_of_length_eq_zero hl.symm).symm
      | cons c r ih =>
        intro b q hl ha hb
        match b, hl with
        | d :: t, hl =>
          have e1 : c = d := UInt8.toNat_inj.1 (ha.1.symm.trans hb.1)
          rw [e1, ih t (q + 1) (by simpa using hl) ha.2 hb.2]
    have hml := same _ _ _ 0 hlen ((bgn_fit _ _ 0 (Nat.zero_le _)).1 n2) hf
    have hjn := mks_one j hj n hn hml
    subst hjn
    rw [n3, if_neg (by simp only; omega)]
    simp only [Nat.zero_add, hsz]
/-- a keyword or a mark is one token -/
theorem cut_spl (k : Nat) (h7 : 7 ≤ k) (hk : k < 80) : cut (sq (spl.getD k [])) 0 = ([(⟨k, 0, (sq (spl.getD k [])).size⟩ : Tk)], none) ∧ 0 < (sq (spl.getD k [])).size := by
  have key : ∀ l, 0 < (sq l).size → pce (sq l) 0 = .ok k (sq l).size → cut (sq l) 0 = ([(⟨k, 0, (sq l).size⟩ : Tk)], none) := fun l h0 e => by
    rw [cut_ok h0 e, cut_end (by omega)]
    rfl
  by_cases h : k < 32
  · obtain ⟨n, rfl⟩ : ∃ n, k = 7 + n := ⟨k - 7, by omega⟩
    have e := spl_wd n (by omega)
    rw [e]
    have h0 : 0 < (sq (wds.getD n [])).size := by rw [sq_size]; exact (wds_pos n (by omega)).1
    exact ⟨key _ h0 (pce_word n (by omega)), h0⟩
  · obtain ⟨n, rfl⟩ : ∃ n, k = 32 + n := ⟨k - 32, by omega⟩
    have e := spl_mk n (by omega)
    rw [e]
    have h0 : 0 < (sq (mks.getD n [])).size := by rw [sq_size]; exact List.length_pos_iff.2 (mks_pos n (by omega))
    exact ⟨key _ h0 (pce_mark n (by omega)), h0⟩
end Go.Proofs.YtphejjghgalkpaaDoor
