import Derived.Test.YtlgddkkpngfmfaaDoorLye
namespace Go.Proofs.YtlgddkkpngfmfaaDoor
open Go.ChangeShapes Go.WideShapes Go.ChangeAt Go.RowKit
set_option linter.unusedVariables false
set_option linter.unusedSimpArgs false

/-- a text, by its bytes -/
def sq (l : List UInt8) : ByteArray := ⟨l.toArray⟩
theorem sq_size (l : List UInt8) : (sq l).size = l.length := by show l.toArray.size = _; simp
theorem bt_at {l : List UInt8} {i : Nat} {c : UInt8} (h : l[i]? = some c) : bt (sq l) i = c.toNat := by
  have hi := (List.getElem?_eq_some_iff.1 h)
  have hs : i < (sq l).size := by rw [sq_size]; exact hi.1
  rw [bt_in hs]
  have : (sq l)[i]'hs = c := by rw [← hi.2]; rfl
  rw [this]
theorem bt_mid (P R : List UInt8) (c : UInt8) (i : Nat) (C : List UInt8) (h : C[i]? = some c) : bt (sq (P ++ C ++ R)) (P.length + i) = c.toNat := by
  apply bt_at
  rw [List.append_assoc, List.getElem?_append_right (by omega), Nat.add_sub_cancel_left, List.getElem?_append_left (List.getElem?_eq_some_iff.1 h).1]
  exact h
theorem sq_len (P C R : List UInt8) : (sq (P ++ C ++ R)).size = P.length + C.length + R.length := by rw [sq_size]; simp [Nat.add_assoc]
/-- a byte that stands for itself -/
theorem ita_plain (P R : List UInt8) (c : UInt8) (h1 : 32 ≤ c.toNat) (h2 : c.toNat ≤ 126) (h3 : c.toNat ≠ 34) (h4 : c.toNat ≠ 92) : ita (sq (P ++ [c] ++ R)) P.length 34 = some ⟨1, c.toNat, false, false⟩ := by
  have hb : bt (sq (P ++ [c] ++ R)) P.length = c.toNat := by have := bt_mid P R c 0 [c] rfl; simpa using this
  have hl := sq_len P [c] R
  have hk : P.length < (sq (P ++ [c] ++ R)).size := by rw [hl]; simp; omega
  unfold ita
  rw [if_neg (by omega), itm_else (by omega)]
  have hd := (dec_facts _ _ hk).2.2.1 (by rw [← bt_in hk]; omega)
  rw [hd.1, hd.2, ← bt_in hk, hb]
  simp
  omega
/-- a letter behind a backslash -/
theorem ita_esc (P R : List UInt8) (c : UInt8) (v : Nat) (h : esc c.toNat 34 = some v) : ita (sq (P ++ [92, c] ++ R)) P.length 34 = some ⟨2, v, false, false⟩ := by
  have hb : bt (sq (P ++ [92, c] ++ R)) P.length = 92 := by have := bt_mid P R 92 0 [92, c] rfl; simpa using this
  have hb1 : bt (sq (P ++ [92, c] ++ R)) (P.length + 1) = c.toNat := bt_mid P R c 1 [92, c] rfl
  have hl : (sq (P ++ [92, c] ++ R)).size = P.length + 2 + R.length := sq_len P [92, c] R
  unfold ita
  rw [if_neg (by omega), itm_back hb]
  unfold esA
  rw [if_neg (by omega), hb1, h]
/-- two hex digits -/
theorem ita_hex (P R : List UInt8) (x y : UInt8) (hx : dgv x.toNat < 16) (hy : dgv y.toNat < 16) : ita (sq (P ++ [92, 120, x, y] ++ R)) P.length 34 = some ⟨4, dgv x.toNat * 16 + dgv y.toNat, true, false⟩ := by
  have hb : bt (sq (P ++ [92, 120, x, y] ++ R)) P.length = 92 := by have := bt_mid P R 92 0 [92, 120, x, y] rfl; simpa using this
  have hb1 : bt (sq (P ++ [92, 120, x, y] ++ R)) (P.length + 1) = 120 := bt_mid P R 120 1 [92, 120, x, y] rfl
  have hb2 : bt (sq (P ++ [92, 120, x, y] ++ R)) (P.length + 2) = x.toNat := bt_mid P R x 2 [92, 120, x, y] rfl
  have hb3 : bt (sq (P ++ [92, 120, x, y] ++ R)) (P.length + 2 + 1) = y.toNat := bt_mid P R y 3 [92, 120, x, y] rfl
  have hl : (sq (P ++ [92, 120, x, y] ++ R)).size = P.length + 4 + R.length := sq_len P [92, 120, x, y] R
  unfold ita
  rw [if_neg (by omega), itm_back hb]
  unfold esA
  rw [if_neg (by omega), hb1]
  have he : esc 120 34 = none := by decide
  rw [he]
  simp only [if_true]
  unfold cod
  rw [if_neg (by omega)]
  have hd : dgs (sq (P ++ [92, 120, x, y] ++ R)) 16 2 (P.length + 2) 0 = some (dgv x.toNat * 16 + dgv y.toNat) := by
    rw [dgs, hb2, if_pos hx, dgs, hb3, if_pos hy, dgs]; simp
  rw [hd]
  simp only
  rw [if_neg (by omega)]
  simp
theorem hx_dgv (n : Nat) (h : n < 16) : dgv (hx n).toNat = n := by
  have key : ∀ n, n < 16 → dgv (hx n).toNat = n := by decide
  exact key n h
/-- what stands for a byte within quotes is read as that byte -/
theorem ita_qe (P R : List UInt8) (c : UInt8) : ∃ i : Itm, ita (sq (P ++ qe c ++ R)) P.length 34 = some i ∧ i.n = (qe c).length ∧ i.b = false ∧ itB i = [c] := by
  have one : ∀ v : Nat, v < 128 → Lib.encodeRune (v : Int) = [v.toUInt8] := fun v hv => by
    unfold Lib.encodeRune; rw [Lib.encodeRuneZ_one (by omega) (by omega)]; simp
  unfold qe
  have hc := c.toNat_lt
  by_cases h7 : c = 7
  · subst h7; exact ⟨_, ita_esc P R 97 7 (by decide), rfl, rfl, by unfold itB; rw [if_neg (by simp), one _ (by decide)]; rfl⟩
  rw [if_neg h7]
  by_cases h8 : c = 8
  · subst h8; exact ⟨_, ita_esc P R 98 8 (by decide), rfl, rfl, by unfold itB; rw [if_neg (by simp), one _ (by decide)]; rfl⟩
  rw [if_neg h8]
  by_cases h12 : c = 12
  · subst h12; exact ⟨_, ita_esc P R 102 12 (by decide), rfl, rfl, by unfold itB; rw [if_neg (by simp), one _ (by decide)]; rfl⟩
  rw [if_neg h12]
  by_cases h10 : c = 10
  · subst h10; exact ⟨_, ita_esc P R 110 10 (by decide), rfl, rfl, by unfold itB; rw [if_neg (by simp), one _ (by decide)]; rfl⟩
  rw [if_neg h10]
  by_cases h13 : c = 13
  · subst h13; exact ⟨_, ita_esc P R 114 13 (by decide), rfl, rfl, by unfold itB; rw [if_neg (by simp), one _ (by decide)]; rfl⟩
  rw [if_neg h13]
  by_cases h9 : c = 9
  · subst h9; exact ⟨_, ita_esc P R 116 9 (by decide), rfl, rfl, by unfold itB; rw [if_neg (by simp), one _ (by decide)]; rfl⟩
  rw [if_neg h9]
  by_cases h11 : c = 11
  · subst h11; exact ⟨_, ita_esc P R 118 11 (by decide), rfl, rfl, by unfold itB; rw [if_neg (by simp), one _ (by decide)]; rfl⟩
  rw [if_neg h11]
  by_cases hq : c = 34 ∨ c = 92
  · rw [if_pos hq]
    rcases hq with rfl | rfl
    · exact ⟨_, ita_esc P R 34 34 (by decide), rfl, rfl, by unfold itB; rw [if_neg (by simp), one _ (by decide)]; rfl⟩
    · exact ⟨_, ita_esc P R 92 92 (by decide), rfl, rfl, by unfold itB; rw [if_neg (by simp), one _ (by decide)]; rfl⟩
  rw [if_neg hq]
  have n34 : c.toNat ≠ 34 := fun h => hq (.inl (UInt8.toNat_inj.1 h))
  have n92 : c.toNat ≠ 92 := fun h => hq (.inr (UInt8.toNat_inj.1 h))
  by_cases hp : 32 ≤ c.toNat ∧ c.toNat ≤ 126
  · rw [if_pos hp]
    exact ⟨_, ita_plain P R c hp.1 hp.2 n34 n92, rfl, rfl, by unfold itB; rw [if_neg (by simp), one _ (by simp only; omega)]; simp⟩
  · rw [if_neg hp]
    have h1 := hx_dgv (c.toNat / 16) (by omega)
    have h2 := hx_dgv (c.toNat % 16) (by omega)
    refine ⟨_, ita_hex P R _ _ (by omega) (by omega), rfl, rfl, ?_⟩
    unfold itB
    rw [if_pos rfl]
    simp only [h1, h2]
    have e : c.toNat / 16 * 16 + c.toNat % 16 = c.toNat := by omega
    rw [e]
    simp
end Go.Proofs.YtlgddkkpngfmfaaDoor
