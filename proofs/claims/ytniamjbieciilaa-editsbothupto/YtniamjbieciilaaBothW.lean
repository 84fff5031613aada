import Derived.Test.YtniamjbieciilaaBoP
import Derived.Test.YtniamjbieciilaaMm
import Derived.Test.YtniamjbieciilaaShA
import Derived.Test.YtniamjbieciilaaAp2
namespace Go.Proofs.Ytniamjbieciilaa
open Go.ChangeShapes Go.WideShapes Go.ChangeAt Go.RowKit
set_option linter.unusedVariables false

theorem tots_mem {l : List Ed} {e : Ed} (h : e ∈ l) : e.s.size ≤ tots l := by
  induction l with
  | nil => cases h
  | cons x r ih =>
    rw [tots]
    rcases List.mem_cons.1 h with rfl | h
    · omega
    · have := ih h; omega

theorem tots_jn1 : ∀ (r : List Ed) (c : Ed), tots (jn1 c r) = c.s.size + tots r := by
  intro r
  induction r with
  | nil => intro c; rfl
  | cons e r ih =>
    intro c
    unfold jn1
    split
    · rw [ih, tots]; simp; omega
    · rw [tots, ih, tots]
theorem tots_jn (l : List Ed) : tots (jn l) = tots l := by
  cases l with
  | nil => rfl
  | cons e r => exact tots_jn1 r e

theorem fit_chk {size : Nat} {l : List Ed} (h : chk size 0 l = 0) (hs : size ≤ 1048576) (hT : tots l ≤ 1048576) : ∀ e ∈ l, EdFit e := by
  intro e he
  have h1 := chk_ok h e he
  have h2 := tots_mem he
  unfold EdFit
  omega

theorem app_small {tx : List UInt8} {l : List Ed} (h : wck tx.length 0 l) : (appF tx 0 l).length ≤ tx.length + tots l := by
  have key : ∀ {l : List Ed} {L : Int} {a : Nat}, wck tx.length L l → (a : Int) ≤ L → a ≤ tx.length → (appF tx a l).length ≤ tx.length - a + tots l := by
    intro l
    induction l with
    | nil => intro L a _ _ _; simp [appF, tots]
    | cons e r ih =>
      intro L a h ha hs
      obtain ⟨h1, h2, h3, h4, h5⟩ := h
      have := ih (a := e.t.toNat) h5 (by omega) (by omega)
      simp only [appF, tots, List.length_append, List.length_take, List.length_drop, bytes_len]
      omega
  have := key h (Int.le_refl _) (Nat.zero_le _)
  simpa using this

/-- what Merge answers of two right lists, whichever is first -/
theorem mg_right {size : Int} {a b : List Ed} (h1 : val62 size a = 0) (h2 : val62 size b = 0) : mgL size a b = mrg a b ∧ mgE size a b = mrgE a b ∧ mgL size b a = mrg a b ∧ mgE size b a = mrgE a b ∧ mgL size a [] = a ∧ mgE size a [] = 0 := by
  obtain ⟨s0, s1, v1⟩ := val62_ok h1
  obtain ⟨_, _, v2⟩ := val62_ok h2
  have h3 : val62 size [] = 0 := by unfold val62; rw [if_pos ⟨s0, s1⟩]; rfl
  obtain ⟨t1, t2⟩ := mrg_turned (good_of (vld_chk v1).1) (good_of (vld_chk v2).1)
  obtain ⟨u1, u2⟩ := mrg_none v1
  unfold mgL mgE
  simp only [h1, h2, h3, if_true]
  exact ⟨trivial, trivial, t1, t2, u1, u2⟩

theorem mg_wrong {size : Int} {a b : List Ed} (h : ¬ (val62 size a = 0 ∧ val62 size b = 0)) : mgL size a b = [] ∧ mgE size a b ≠ 0 := by
  unfold mgL mgE
  by_cases h1 : val62 size a = 0
  · have h2 : ¬ val62 size b = 0 := fun h2 => h ⟨h1, h2⟩
    rw [if_pos h1, if_pos h1, if_neg h2, if_neg h2]; exact ⟨rfl, h2⟩
  · rw [if_neg h1, if_neg h1]; exact ⟨rfl, h1⟩

theorem mrg_ok {a b : List Ed} (h : mrgE a b = 0) : mtg (sbs a b) = false ∧ mrg a b = jn (sbs a b) ∧ (jn (sbs a b)).length ≤ 65536 := by
  unfold mrgE at h
  cases hm : mtg (sbs a b) with
  | true => rw [if_pos hm] at h; omega
  | false =>
    rw [if_neg (by simp [hm])] at h
    by_cases hl : 65536 < (jn (sbs a b)).length
    · rw [if_pos hl] at h; omega
    · refine ⟨rfl, ?_, by omega⟩
      unfold mrg
      rw [if_neg (by simp [hm]), if_neg hl]

theorem mrg_no {a b : List Ed} (h : mrgE a b ≠ 0) : mrg a b = [] := by
  unfold mrgE at h
  unfold mrg
  by_cases hm : mtg (sbs a b) = true
  · rw [if_pos hm]
  · rw [if_neg hm] at h ⊢
    by_cases hl : 65536 < (jn (sbs a b)).length
    · rw [if_pos hl]
    · rw [if_neg hl] at h; omega

/-- the text behind the first list and the second one's edits from the k-th on -/
def bt (tx : ByteArray) (a b : List Ed) (k : Nat) : ByteArray := ⟨(appF tx.data.toList 0 (sbs a (b.drop k))).toArray⟩

theorem bt_end {tx : ByteArray} {a b : List Ed} (h : vld tx.size a = 0) : bt tx a b b.length = appB tx a := by
  unfold bt appB
  rw [if_pos h, List.drop_length, sbs_right]

/-- what a round of the play finds -/
theorem bt_step {tx : ByteArray} {a b : List Ed} {k : Nat} {y : Ed} (hs : tx.size ≤ 1048576) (ha : chk tx.size 0 a = 0) (hla : a.length ≤ 65536) (hb : chk tx.size 0 b = 0) (h : Both a b) (hy : b[k]? = some y) (hT : tx.size + tots a + tots b ≤ 1048576) :
    ∃ n : Nat, shN a y.f = n ∧ shB a y.f = true ∧ n ≤ 1048576 ∧ y.t - y.f ≤ 1048576 ∧ (bt tx a b (k + 1)).size ≤ 1048576 ∧ vld (bt tx a b (k + 1)).size [⟨n, n + (y.t - y.f), y.s⟩] = 0 ∧ appB (bt tx a b (k + 1)) [⟨n, n + (y.t - y.f), y.s⟩] = bt tx a b k := by
  have hl := bytes_len tx
  have hd : b.drop k = y :: b.drop (k + 1) := drop_get hy
  have hbk : ∃ Lb, 0 ≤ Lb ∧ chk tx.size Lb (b.drop k) = 0 := by
    have : ∀ (k : Nat) {b : List Ed} {L : Int}, 0 ≤ L → chk tx.size L b = 0 → ∃ Lb, 0 ≤ Lb ∧ chk tx.size Lb (b.drop k) = 0 := by
      intro k
      induction k with
      | zero => intro b L h0 h; exact ⟨L, h0, h⟩
      | succ k ih =>
        intro b L h0 h
        cases b with
        | nil => exact ⟨0, Int.le_refl _, rfl⟩
        | cons e r =>
          obtain ⟨h1, h2, h3, h4, h5⟩ := chk_cons h
          exact ih (by omega) h5
    exact this k (Int.le_refl _) hb
  obtain ⟨Lb, hLb, hbk⟩ := hbk
  rw [hd] at hbk
  have hB : Both a (y :: b.drop (k + 1)) := fun u hu v hv => h u hu v (by
    have : v ∈ b.drop k := by rw [hd]; exact hv
    exact List.mem_of_mem_drop this)
  have hy1 := chk_cons hbk
  rw [← hl] at ha hbk
  obtain ⟨n, e1, e2, e3⟩ := both_step ha hbk (Int.le_refl _) hLb hB
  have hsz : (bt tx a b (k + 1)).size = (appF tx.data.toList 0 (sbs a (b.drop (k + 1)))).length := by
    unfold bt; rw [← bytes_len]
  have hw : wck tx.data.toList.length 0 (sbs a (b.drop (k + 1))) := sbs_wck (Lb := y.t + 1) ha (by rw [hl]; exact hy1.2.2.2.2) (Int.le_refl _) (by omega) (fun u hu v hv => hB u hu v (by simp [hv]))
  have hsm := app_small hw
  have hT2 : tots (sbs a (b.drop (k + 1))) ≤ tots a + tots b := by
    rw [tots_sbs]
    have : ∀ (k : Nat) (b : List Ed), tots (b.drop k) ≤ tots b := by
      intro k
      induction k with
      | zero => intro b; exact Nat.le_refl _
      | succ k ih =>
        intro b
        cases b with
        | nil => exact Nat.le_refl _
        | cons e r => have := ih r; rw [List.drop_succ_cons, tots]; omega
    have := this (k + 1) b
    omega
  have hn : n ≤ 1048576 := by omega
  have hsh : 0 ≤ y.f ∧ y.f ≤ 4611686018427387904 ∧ vld 4611686018427387904 a = 0 := by
    refine ⟨hy1.1, by omega, ?_⟩
    unfold vld
    rw [if_neg (by omega)]
    exact chk_wider ha (by omega)
  have hv : vld (bt tx a b (k + 1)).size [⟨n, n + (y.t - y.f), y.s⟩] = 0 := by
    unfold vld
    rw [if_neg (by simp), chk, if_pos ⟨by simp only; omega, by simp only; omega, by simp only; omega⟩, if_neg (by simp only; omega)]
    rfl
  refine ⟨n, ?_, ?_, hn, by omega, by omega, hv, ?_⟩
  · unfold shN
    rw [if_pos hsh, e1]
    simp only
    rw [show y.f + ((n : Int) - y.f) = n by omega]
    exact IntWalk.wrap64_in _ ⟨by omega, by omega⟩
  · unfold shB; rw [if_pos hsh, e1]; rfl
  · unfold appB
    rw [if_pos hv]
    unfold bt
    rw [hd, ← e3]
end Go.Proofs.Ytniamjbieciilaa
