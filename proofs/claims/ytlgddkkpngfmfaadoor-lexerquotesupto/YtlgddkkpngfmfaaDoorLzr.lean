import Derived.Test.YtlgddkkpngfmfaaDoorLzq
namespace Go.Proofs.YtlgddkkpngfmfaaDoor
open Go.ChangeShapes Go.WideShapes Go.ChangeAt Go.RowKit
set_option linter.unusedVariables false
set_option linter.unusedSimpArgs false

/-- a rune of more than one byte: which bytes it looks at, and what they are again -/
theorem dN_wide (n b0 b1 b2 b3 : Nat) (h0 : b0 < 256) (h1 : b1 < 256) (h2 : b2 < 256) (h3 : b3 < 256) (h : 1 < (Lib.decodeN n b0 b1 b2 b3).2) :
    128 ≤ b0 ∧
    (((Lib.decodeN n b0 b1 b2 b3).2 = 2 ∧ 2 ≤ n ∧ (∀ n' c2 c3, 2 ≤ n' → Lib.decodeN n' b0 b1 c2 c3 = Lib.decodeN n b0 b1 b2 b3) ∧ Lib.encodeRuneZ ((Lib.decodeN n b0 b1 b2 b3).1 : Int) = [(b0 : Int), (b1 : Int)]) ∨
     ((Lib.decodeN n b0 b1 b2 b3).2 = 3 ∧ 3 ≤ n ∧ (∀ n' c3, 3 ≤ n' → Lib.decodeN n' b0 b1 b2 c3 = Lib.decodeN n b0 b1 b2 b3) ∧ Lib.encodeRuneZ ((Lib.decodeN n b0 b1 b2 b3).1 : Int) = [(b0 : Int), (b1 : Int), (b2 : Int)]) ∨
     ((Lib.decodeN n b0 b1 b2 b3).2 = 4 ∧ 4 ≤ n ∧ (∀ n', 4 ≤ n' → Lib.decodeN n' b0 b1 b2 b3 = Lib.decodeN n b0 b1 b2 b3) ∧ Lib.encodeRuneZ ((Lib.decodeN n b0 b1 b2 b3).1 : Int) = [(b0 : Int), (b1 : Int), (b2 : Int), (b3 : Int)])) := by
  by_cases g0 : b0 < 128
  · unfold Lib.decodeN at h; rw [if_pos g0] at h; simp at h
  refine ⟨by omega, ?_⟩
  by_cases g1 : b0 / 32 = 6 ∧ (1 < n ∧ b1 / 64 = 2)
  · have E : ∀ n' c2 c3, 2 ≤ n' → Lib.decodeN n' b0 b1 c2 c3 = if b0 % 32 * 64 + b1 % 64 ≥ 128 then (b0 % 32 * 64 + b1 % 64, 2) else (65533, 1) := fun n' c2 c3 hn => by
      unfold Lib.decodeN; rw [if_neg g0, if_pos ⟨g1.1, by omega, g1.2.2⟩]
    have E0 := E n b2 b3 (by omega)
    by_cases g2 : b0 % 32 * 64 + b1 % 64 ≥ 128
    · rw [if_pos g2] at E0
      left
      rw [E0]
      refine ⟨rfl, by omega, fun n' c2 c3 hn => by rw [E n' c2 c3 hn, if_pos g2], ?_⟩
      simp only
      unfold Lib.encodeRuneZ
      rw [if_neg (by omega), if_pos (by omega)]
      congr 1
      · omega
      · congr 1; omega
    · rw [if_neg g2] at E0; rw [E0] at h; simp at h
  by_cases g2 : b0 / 16 = 14 ∧ (1 < n ∧ b1 / 64 = 2) ∧ (2 < n ∧ b2 / 64 = 2)
  · have E : ∀ n' c3, 3 ≤ n' → Lib.decodeN n' b0 b1 b2 c3 = if b0 % 16 * 4096 + b1 % 64 * 64 + b2 % 64 ≥ 2048 ∧ (b0 % 16 * 4096 + b1 % 64 * 64 + b2 % 64 < 55296 ∨ (57344 ≤ b0 % 16 * 4096 + b1 % 64 * 64 + b2 % 64 ∧ b0 % 16 * 4096 + b1 % 64 * 64 + b2 % 64 ≤ 1114111)) then (b0 % 16 * 4096 + b1 % 64 * 64 + b2 % 64, 3) else (65533, 1) := fun n' c3 hn => by
      unfold Lib.decodeN; rw [if_neg g0, if_neg (by omega), if_pos ⟨g2.1, ⟨by omega, g2.2.1.2⟩, by omega, g2.2.2.2⟩]
    have E0 := E n b3 (by omega)
    split at E0
    · rename_i g3
      right; left
      rw [E0]
      refine ⟨rfl, by omega, fun n' c3 hn => by rw [E n' c3 hn, if_pos g3], ?_⟩
      simp only
      unfold Lib.encodeRuneZ
      rw [if_neg (by omega), if_neg (by omega), if_pos (by omega)]
      congr 1
      · omega
      · congr 1
        · omega
        · congr 1; omega
    · rw [E0] at h; simp at h
  by_cases g3 : b0 / 8 = 30 ∧ (1 < n ∧ b1 / 64 = 2) ∧ (2 < n ∧ b2 / 64 = 2) ∧ (3 < n ∧ b3 / 64 = 2)
  · have E : ∀ n', 4 ≤ n' → Lib.decodeN n' b0 b1 b2 b3 = if b0 % 8 * 262144 + b1 % 64 * 4096 + b2 % 64 * 64 + b3 % 64 ≥ 65536 ∧ (b0 % 8 * 262144 + b1 % 64 * 4096 + b2 % 64 * 64 + b3 % 64 < 55296 ∨ (57344 ≤ b0 % 8 * 262144 + b1 % 64 * 4096 + b2 % 64 * 64 + b3 % 64 ∧ b0 % 8 * 262144 + b1 % 64 * 4096 + b2 % 64 * 64 + b3 % 64 ≤ 1114111)) then (b0 % 8 * 262144 + b1 % 64 * 4096 + b2 % 64 * 64 + b3 % 64, 4) else (65533, 1) := fun n' hn => by
      unfold Lib.decodeN; rw [if_neg g0, if_neg (by omega), if_neg (by omega), if_pos ⟨g3.1, ⟨by omega, g3.2.1.2⟩, ⟨by omega, g3.2.2.1.2⟩, by omega, g3.2.2.2.2⟩]
    have E0 := E n (by omega)
    split at E0
    · rename_i g4
      right; right
      rw [E0]
      refine ⟨rfl, by omega, fun n' hn => by rw [E n' hn, if_pos g4], ?_⟩
      simp only
      unfold Lib.encodeRuneZ
      rw [if_neg (by omega), if_neg (by omega), if_neg (by omega), if_pos (by omega)]
      congr 1
      · omega
      · congr 1
        · omega
        · congr 1
          · omega
          · congr 1; omega
    · rw [E0] at h; simp at h
  · unfold Lib.decodeN at h; rw [if_neg g0, if_neg g1, if_neg g2, if_neg g3] at h; simp at h
theorem get_sq (l : List UInt8) (k j : Nat) (h : k + j < l.length) : ((sq l).extract k (sq l).size).get! j = l[k + j]'h := by
  rw [Utf8W.get!_of_lt _ _ (by rw [ByteArray.size_extract, sq_size]; omega)]
  rw [ByteArray.getElem_extract]
  rfl
theorem get_ex (u : ByteArray) (k j : Nat) (h : k + j < u.size) : (u.extract k u.size).get! j = u[k + j]'h := by
  rw [Utf8W.get!_of_lt _ _ (by rw [ByteArray.size_extract]; omega)]
  rw [ByteArray.getElem_extract]
theorem dec_here (u : ByteArray) (k : Nat) (h : k < u.size) : (rn u k, wd u k) = Lib.decodeN (u.size - k) ((u.extract k u.size).get! 0).toNat ((u.extract k u.size).get! 1).toNat ((u.extract k u.size).get! 2).toNat ((u.extract k u.size).get! 3).toNat := by
  have hz : (u.extract k u.size).size = u.size - k := by rw [ByteArray.size_extract]; omega
  have h0 : Lib.decodeGo (u.extract k u.size) = Utf8.decode (u.extract k u.size) 0 := by
    unfold Lib.decodeGo; rw [if_neg (by omega)]
  unfold rn wd
  rw [h0, Lib.decode_at, hz]
  simp
theorem ext_list (u : ByteArray) (i w : Nat) (h : i + w ≤ u.size) : ∀ j (hj : j < w), (u.extract i (i + w)).data.toList[j]? = some (u[i + j]'(by omega)) := by
  intro j hj
  have hl : j < (u.extract i (i + w)).size := by rw [ByteArray.size_extract]; omega
  have e : (u.extract i (i + w))[j]'hl = u[i + j]'(by omega) := by rw [ByteArray.getElem_extract]
  rw [← e, Array.getElem?_toList]
  exact Array.getElem?_eq_getElem hl
theorem ext_len (u : ByteArray) (i w : Nat) (h : i + w ≤ u.size) : (u.extract i (i + w)).data.toList.length = w := by
  rw [Array.length_toList]
  show (u.extract i (i + w)).size = w
  rw [ByteArray.size_extract]; omega
theorem two_list {l : List UInt8} (a b : UInt8) (hl : l.length = 2) (h0 : l[0]? = some a) (h1 : l[1]? = some b) : l = [a, b] := by
  match l, hl with
  | [x, y], _ => simp at h0 h1; rw [h0, h1]
theorem three_list {l : List UInt8} (a b c : UInt8) (hl : l.length = 3) (h0 : l[0]? = some a) (h1 : l[1]? = some b) (h2 : l[2]? = some c) : l = [a, b, c] := by
  match l, hl with
  | [x, y, z], _ => simp at h0 h1 h2; rw [h0, h1, h2]
theorem four_list {l : List UInt8} (a b c d : UInt8) (hl : l.length = 4) (h0 : l[0]? = some a) (h1 : l[1]? = some b) (h2 : l[2]? = some c) (h3 : l[3]? = some d) : l = [a, b, c, d] := by
  match l, hl with
  | [x, y, z, t], _ => simp at h0 h1 h2 h3; rw [h0, h1, h2, h3]
/-- a rune of more than one byte is read as it was -/
theorem wide_again (u : ByteArray) (i : Nat) (h : i < u.size) (hw : 1 < wd u i) (P R : List UInt8) :
    rn (sq (P ++ (u.extract i (i + wd u i)).data.toList ++ R)) P.length = rn u i ∧ wd (sq (P ++ (u.extract i (i + wd u i)).data.toList ++ R)) P.length = wd u i ∧ 128 ≤ bt (sq (P ++ (u.extract i (i + wd u i)).data.toList ++ R)) P.length ∧ Lib.encodeRune (rn u i : Int) = (u.extract i (i + wd u i)).data.toList := by
  obtain ⟨f1, f2, -, -⟩ := dec_facts u i h
  have hd := dec_here u i h
  obtain ⟨w, hwd⟩ : ∃ w, wd u i = w := ⟨_, rfl⟩
  have hget := ext_list u i w (by omega)
  have hlen := ext_len u i w (by omega)
  rw [hwd] at hw f1 f2 ⊢
  obtain ⟨C, hC⟩ : ∃ C, (u.extract i (i + w)).data.toList = C := ⟨_, rfl⟩
  rw [hC] at hget hlen ⊢
  have hsz : (sq (P ++ C ++ R)).size = P.length + C.length + R.length := sq_len P C R
  have hk : P.length < (sq (P ++ C ++ R)).size := by omega
  have hd2 := dec_here (sq (P ++ C ++ R)) P.length hk
  have same : ∀ j, j < w → (((sq (P ++ C ++ R)).extract P.length (sq (P ++ C ++ R)).size).get! j) = (u.extract i u.size).get! j := fun j hj => by
    rw [get_sq _ _ _ (by simp; omega), get_ex u i j (by omega)]
    have := hget j hj
    rw [List.getElem_append_left (by simp; omega), List.getElem_append_right (by omega)]
    rw [List.getElem?_eq_some_iff] at this
    obtain ⟨_, e⟩ := this
    rw [← e]
    congr 1
    omega
  have hb0 : bt (sq (P ++ C ++ R)) P.length = ((u.extract i u.size).get! 0).toNat := by
    rw [bt_at (c := (u.extract i u.size).get! 0)]
    rw [get_ex u i 0 (by omega), List.append_assoc, List.getElem?_append_right (by omega), Nat.sub_self, List.getElem?_append_left (by omega)]
    exact hget 0 (by omega)
  rw [hb0]
  have g0 := get_ex u i 0 (by omega)
  have g1 := get_ex u i 1 (by omega)
  obtain ⟨x0, e0⟩ : ∃ x, (u.extract i u.size).get! 0 = x := ⟨_, rfl⟩
  obtain ⟨x1, e1⟩ : ∃ x, (u.extract i u.size).get! 1 = x := ⟨_, rfl⟩
  obtain ⟨x2, e2⟩ : ∃ x, (u.extract i u.size).get! 2 = x := ⟨_, rfl⟩
  obtain ⟨x3, e3⟩ : ∃ x, (u.extract i u.size).get! 3 = x := ⟨_, rfl⟩
  rw [e0, e1, e2, e3] at hd
  have hR : rn u i = (Lib.decodeN (u.size - i) x0.toNat x1.toNat x2.toNat x3.toNat).1 := congrArg Prod.fst hd
  have hW : wd u i = (Lib.decodeN (u.size - i) x0.toNat x1.toNat x2.toNat x3.toNat).2 := congrArg Prod.snd hd
  rw [hwd] at hW
  have key := dN_wide (u.size - i) x0.toNat x1.toNat x2.toNat x3.toNat x0.toNat_lt x1.toNat_lt x2.toNat_lt x3.toNat_lt (by omega)
  have bk : ∀ x : UInt8, ((x.toNat : Int)).toNat.toUInt8 = x := fun x => by simp
  rw [same 0 (by omega), same 1 (by omega), e0, e1] at hd2
  rw [e0]
  refine ⟨?_, ?_, key.1, ?_⟩
  · rcases key.2 with ⟨k1, k2, k3, k4⟩ | ⟨k1, k2, k3, k4⟩ | ⟨k1, k2, k3, k4⟩
    · rw [k3 _ _ _ (by omega), ← hd] at hd2; exact (Prod.mk.inj hd2).1
    · rw [same 2 (by omega), e2, k3 _ _ (by omega), ← hd] at hd2; exact (Prod.mk.inj hd2).1
    · rw [same 2 (by omega), same 3 (by omega), e2, e3, k3 _ (by omega), ← hd] at hd2; exact (Prod.mk.inj hd2).1
  · rw [← hwd]
    rcases key.2 with ⟨k1, k2, k3, k4⟩ | ⟨k1, k2, k3, k4⟩ | ⟨k1, k2, k3, k4⟩
    · rw [k3 _ _ _ (by omega), ← hd] at hd2; exact (Prod.mk.inj hd2).2
    · rw [same 2 (by omega), e2, k3 _ _ (by omega), ← hd] at hd2; exact (Prod.mk.inj hd2).2
    · rw [same 2 (by omega), same 3 (by omega), e2, e3, k3 _ (by omega), ← hd] at hd2; exact (Prod.mk.inj hd2).2
  · unfold Lib.encodeRune
    have c0 := hget 0 (by omega)
    have c1 := hget 1 (by omega)
    rw [← get_ex u i 0 (by omega), e0] at c0
    rw [← get_ex u i 1 (by omega), e1] at c1
    rw [hR]
    rcases key.2 with ⟨k1, k2, k3, k4⟩ | ⟨k1, k2, k3, k4⟩ | ⟨k1, k2, k3, k4⟩
    · rw [k4, two_list x0 x1 (by omega) c0 c1]; simp
    · have c2 := hget 2 (by omega)
      rw [← get_ex u i 2 (by omega), e2] at c2
      rw [k4, three_list x0 x1 x2 (by omega) c0 c1 c2]; simp
    · have c2 := hget 2 (by omega)
      rw [← get_ex u i 2 (by omega), e2] at c2
      have c3 := hget 3 (by omega)
      rw [← get_ex u i 3 (by omega), e3] at c3
      rw [k4, four_list x0 x1 x2 x3 (by omega) c0 c1 c2 c3]; simp
/-- what stands for a rune within quotes is read as its bytes -/
theorem ita_q1 (P R : List UInt8) (u : ByteArray) (i : Nat) (h : i < u.size) : ∃ it : Itm, ita (sq (P ++ q1 u i h ++ R)) P.length 34 = some it ∧ it.n = (q1 u i h).length ∧ it.b = false ∧ itB it = (u.extract i (i + wd u i)).data.toList := by
  obtain ⟨f1, f2, -, -⟩ := dec_facts u i h
  unfold q1
  split
  · rename_i hw
    obtain ⟨a, b, c, d⟩ := wide_again u i h hw P R
    have hl := ext_len u i (wd u i) f2
    refine ⟨⟨wd u i, rn u i, false, false⟩, ?_, hl.symm, rfl, ?_⟩
    · unfold ita
      have hsz := sq_len P (u.extract i (i + wd u i)).data.toList R
      rw [if_neg (by omega), itm_else (by omega), a, b]
      simp
      omega
    · unfold itB; rw [if_neg (by simp)]; exact d
  · rename_i hw
    obtain ⟨it, h1, h2, h3, h4⟩ := ita_qe P R (u[i]'h)
    refine ⟨it, h1, h2, h3, h4.trans ?_⟩
    have hw1 : wd u i = 1 := by omega
    rw [hw1]
    have e := ext_list u i 1 (by omega) 0 (by omega)
    have l := ext_len u i 1 (by omega)
    match hc : (u.extract i (i + 1)).data.toList, l with
    | [x], _ => rw [hc] at e; simp at e; rw [e]
theorem ext_cut (u : ByteArray) (i w : Nat) (h : i + w ≤ u.size) : (u.extract i (i + w)).data.toList ++ (u.extract (i + w) u.size).data.toList = (u.extract i u.size).data.toList := by
  simp only [ByteArray.data_extract, Array.toList_extract, List.extract_eq_take_drop]
  have hu : u.data.toList.length = u.size := by rw [Array.length_toList]; rfl
  apply List.ext_getElem?
  intro j
  by_cases hj : j < w
  · rw [List.getElem?_append_left (by simp [hu]; omega)]
    rw [List.getElem?_take_of_lt (by omega), List.getElem?_take_of_lt (by omega)]
  · rw [List.getElem?_append_right (by simp [hu]; omega)]
    simp only [List.length_take, List.length_drop, hu]
    rw [List.getElem?_take, List.getElem?_take, List.getElem?_drop, List.getElem?_drop]
    have e1 : min (i + w - i) (u.size - i) = w := by omega
    rw [e1]
    have e2 : i + w + (j - w) = i + j := by omega
    rw [e2]
    by_cases hj2 : j < u.size - i
    · rw [if_pos (by omega), if_pos hj2]
    · rw [if_neg (by omega), if_neg hj2]
theorem ita_end (P : List UInt8) : ita (sq (P ++ [34])) P.length 34 = none := by
  have hb : bt (sq (P ++ [34])) P.length = 34 := by have := bt_mid P [] 34 0 [34] rfl; simpa using this
  unfold ita
  rw [if_pos (.inr (.inr hb))]
/-- what is quoted is read back -/
theorem tvs_qs (u : ByteArray) : ∀ n k, u.size - k ≤ n → ∀ P : List UInt8, tvs (sq (P ++ qs u n k ++ [34])) P.length = (u.extract k u.size).data.toList
  | n, k, hn, P => by
    by_cases hk : k < u.size
    · match n, hn with
      | 0, hn => omega
      | m + 1, hn =>
        rw [qs, dif_pos hk]
        obtain ⟨f1, f2, -, -⟩ := dec_facts u k hk
        obtain ⟨it, h1, h2, h3, h4⟩ := ita_q1 P (qs u m (k + wd u k) ++ [34]) u k hk
        have e : P ++ (q1 u k hk ++ qs u m (k + wd u k)) ++ [34] = P ++ q1 u k hk ++ (qs u m (k + wd u k) ++ [34]) := by simp
        have t := tvs_qs u m (k + wd u k) (by omega) (P ++ q1 u k hk)
        rw [List.length_append, show P ++ q1 u k hk ++ qs u m (k + wd u k) ++ [34] = P ++ q1 u k hk ++ (qs u m (k + wd u k) ++ [34]) from List.append_assoc _ _ _] at t
        rw [e, tvs_some h1, h4, h2, t, ext_cut u k (wd u k) f2]
    · rw [qs_end u n k hk, List.append_nil, tvs_none (ita_end P)]
      have : (u.extract k u.size).data.toList.length = 0 := by
        rw [Array.length_toList]
        show (u.extract k u.size).size = 0
        rw [ByteArray.size_extract]; omega
      exact (List.eq_nil_of_length_eq_zero this).symm
theorem quo_qs (u : ByteArray) : ∀ n k, u.size - k ≤ n → ∀ (P : List UInt8) (c : Nat), ∃ c', quo (sq (P ++ qs u n k ++ [34])) 34 P.length c none = some (P.length + (qs u n k).length, c', none)
  | n, k, hn, P, c => by
    by_cases hk : k < u.size
    · match n, hn with
      | 0, hn => omega
      | m + 1, hn =>
        rw [qs, dif_pos hk]
        obtain ⟨f1, f2, -, -⟩ := dec_facts u k hk
        obtain ⟨it, h1, h2, h3, h4⟩ := ita_q1 P (qs u m (k + wd u k) ++ [34]) u k hk
        have e : P ++ (q1 u k hk ++ qs u m (k + wd u k)) ++ [34] = P ++ q1 u k hk ++ (qs u m (k + wd u k) ++ [34]) := by simp
        rw [e]
        obtain ⟨i1, i2, i3, i4⟩ := ita_in h1
        unfold ita at h1
        split at h1
        · cases h1
        · rename_i h0
          rw [quo, dif_pos ⟨i1, fun x => h0 (.inr (.inl x))⟩, if_neg (fun x => h0 (.inr (.inr x))), h1]
          simp only
          rw [dif_pos i2, h3]
          simp only [Bool.false_eq_true, false_and, if_false]
          obtain ⟨c', hc⟩ := quo_qs u m (k + wd u k) (by omega) (P ++ q1 u k hk) (c + 1)
          refine ⟨c', ?_⟩
          rw [h2]
          rw [List.length_append] at hc
          have e2 : P ++ q1 u k hk ++ (qs u m (k + wd u k) ++ [34]) = P ++ q1 u k hk ++ qs u m (k + wd u k) ++ [34] := by simp
          rw [e2, hc, List.length_append, Nat.add_assoc]
    · refine ⟨c, ?_⟩
      rw [qs_end u n k hk, List.append_nil]
      have hb : bt (sq (P ++ [34])) P.length = 34 := by have := bt_mid P [] 34 0 [34] rfl; simpa using this
      have hs : P.length < (sq (P ++ [34])).size := by rw [sq_size]; simp
      rw [quo, dif_pos ⟨hs, by omega⟩, if_pos hb]
      simp
theorem qt_cut (u : ByteArray) : qt u = [34] ++ qs u u.size 0 ++ [34] := by unfold qt; simp
theorem qt_text (u : ByteArray) : tvs (sq (qt u)) 1 = u.data.toList := by
  rw [qt_cut]
  have := tvs_qs u u.size 0 (by omega) [34]
  rw [show ([34] : List UInt8).length = 1 from rfl] at this
  rw [this]
  congr 2
  exact ByteArray.extract_zero_size
theorem qt_first (u : ByteArray) (h : 0 < (sq (qt u)).size) : ((sq (qt u))[0]'h).toNat = 34 := rfl
theorem qt_quP (u : ByteArray) : quP (sq (qt u)) 0 = .ok 5 (sq (qt u)).size := by
  have hb : bt (sq (qt u)) 0 = 34 := (bt_at (c := 34) rfl).trans rfl
  obtain ⟨c', hc⟩ := quo_qs u u.size 0 (by omega) [34] 0
  rw [← qt_cut] at hc
  unfold quP
  rw [hb, if_neg (by omega)]
  have h1 : (0 : Nat) + 1 = ([34] : List UInt8).length := rfl
  rw [h1, hc]
  simp only
  rw [if_neg (by omega), if_neg (by omega), sq_size, qt_cut]
  simp
  omega
theorem qt_one (u v : ByteArray) : sq (qt u) = sq (qt v) ↔ u = v := by
  constructor
  · intro h
    have a := qt_text u
    rw [h, qt_text v] at a
    have b : v.data = u.data := Array.toList_inj.1 a
    cases u; cases v
    simp at b
    rw [b]
  · rintro rfl; rfl
theorem qt_back (u : ByteArray) : (⟨(tvs (sq (qt u)) 1).toArray⟩ : ByteArray) = u := by rw [qt_text]
theorem qs_len (u : ByteArray) : ∀ n k, k ≤ u.size → (qs u n k).length ≤ 4 * (u.size - k)
  | 0, k, _ => by simp [qs]
  | n + 1, k, hk => by
    rw [qs]
    split
    · rename_i h
      obtain ⟨f1, f2, -, -⟩ := dec_facts u k h
      have := qs_len u n (k + wd u k) f2
      have := q1_len u k h
      rw [List.length_append]
      omega
    · simp
theorem qt_len (u : ByteArray) : (sq (qt u)).size ≤ 4 * u.size + 2 := by
  have := qs_len u u.size 0 (by omega)
  rw [sq_size]
  unfold qt
  simp
  omega
end Go.Proofs.YtlgddkkpngfmfaaDoor
