import Derived.Test.YtnifjeopmfhhhaaDoorDw
import Derived.Laws.Cover1
import Derived.Lib.Strings
namespace Go.Proofs.YtnifjeopmfhhhaaDoor
open Go.ChangeShapes Go.WideShapes Go.ChangeAt Go.RowKit
set_option linter.unusedVariables false

/-- the two lists of the kinds' names, as they lie (as in Sk2) -/
structure NmdAt (nmL : List (List UInt8)) (v : World) : Prop where
  code : ∀ i, i < 58 → v.cell? ⟨0, i, none⟩ = some (.string ⟨(nmL.getD i []).toArray⟩)
  ref : ∀ i, i < 58 → v.cell? ⟨1, i, none⟩ = some (.string ⟨(nmL.getD i []).toArray⟩)
theorem NmdAt.below {nmL : List (List UInt8)} {v w : World} (h : NmdAt nmL v) (hb : Below v.heap.size v w) : NmdAt nmL w :=
  ⟨fun i hi => (hb.cell (World.block_lt_of_cell? _ _ (h.code i hi))).trans (h.code i hi), fun i hi => (hb.cell (World.block_lt_of_cell? _ _ (h.ref i hi))).trans (h.ref i hi)⟩
theorem dlit_ne {a b : ByteArray} (h : ¬ a.data.toList = b.data.toList) : (a.toList == b.toList) = false := by
  rw [beq_eq_false_iff_ne, ByteArray.toList_eq, ByteArray.toList_eq]
  exact h
theorem dlit_eq {a b : ByteArray} (h : a.data.toList = b.data.toList) : (a.toList == b.toList) = true := by
  rw [beq_iff_eq, ByteArray.toList_eq, ByteArray.toList_eq]
  exact h
theorem dlen (s : ByteArray) : s.data.toList.length = s.size := by rw [Array.length_toList]; rfl
/-- begins, over the first k names -/
def bgk (nm : List (List UInt8)) (t : List UInt8) : Nat → Bool
  | 0 => false
  | k + 1 => bgk nm t k || (decide (t.length ≤ (nm.getD k []).length) && (nm.getD k []).take t.length == t)
theorem bgk_bgn (nm : List (List UInt8)) (t : List UInt8) : bgk nm t nm.length = bgn nm t := by
  have h : ∀ k, k ≤ nm.length → bgk nm t k = (nm.take k).any fun m => decide (t.length ≤ m.length) && m.take t.length == t := by
    intro k
    induction k with
    | zero => intro _; rfl
    | succ k ih =>
      intro hk
      rw [bgk, ih (by omega), List.take_add_one, List.getElem?_eq_getElem (show k < nm.length by omega), List.any_append, List.getD, List.getElem?_eq_getElem (show k < nm.length by omega)]
      simp
  rw [h nm.length (Nat.le_refl _), List.take_of_length_le (Nat.le_refl _)]
  rfl

set_option maxRecDepth 1000000 in
set_option maxHeartbeats 2000000 in
theorem rname_any (nmL : List (List UInt8)) (hlen : nmL.length = 58) (hm : ∀ i, (nmL.getD i []).length ≤ 12) (s : ByteArray) (v : World) (hs : s.size ≤ 16777216) (hN : NmdAt nmL v) :
    Calls Tryd.prog 8 #[.string s] v fun e w' => e = .returned (.tuple #[.int .i64 (knd nmL s.data.toList 58), .bool (bgk nmL s.data.toList 58)]) ∧ Below v.heap.size v w' := by
  obtain ⟨KD, BG, hKB⟩ : ∃ a b, (knd nmL s.data.toList 58, bgk nmL s.data.toList 58) = (a, b) := ⟨_, _, rfl⟩
  have HKB : Hid ((knd nmL s.data.toList 58, bgk nmL s.data.toList 58) = (KD, BG)) := hKB
  simp only [Prod.mk.injEq] at hKB
  rw [hKB.1, hKB.2]
  have HN : Hid (NmdAt nmL v) := hN
  clear hKB hN
  go_enter Tryd.func8, Tryd.ntmps8
  go_wp2
  go_loopg [4, 5, 6] 58 (fun gk sk sb si wr => ∃ (k : Nat), gk = 58 - k ∧ k ≤ 58 ∧ sk = .int .i64 (knd nmL s.data.toList k) ∧ sb = .bool (bgk nmL s.data.toList k) ∧ si = .int .i64 (k : Int) ∧ Below v.heap.size v wr)
  case atStart => exact ⟨0, rfl, Nat.zero_le _, rfl, rfl, rfl, Below.refl _ _⟩
  case round =>
    obtain ⟨k, rfl, hk, rfl, rfl, rfl, hbel⟩ := hrel
    have HB : Hid (Below v.heap.size v wr) := hbel
    clear hbel
    by_cases hlt : k < 58
    · have hlt' : (k : Int) < 58 := by omega
      obtain ⟨m, hmm⟩ : ∃ m, nmL.getD k [] = m := ⟨_, rfl⟩
      obtain ⟨N, hNd⟩ : ∃ N : ByteArray, (⟨m.toArray⟩ : ByteArray) = N := ⟨_, rfl⟩
      have hN1 : N.data.toList = m := by rw [← hNd]
      have hc : wr.cell? ⟨1, k, none⟩ = some (.string N) := by
        rw [(HN.out.below HB.out).ref k hlt, hmm, hNd]
      have hml : m.length ≤ 12 := hmm ▸ hm k
      have hNs : N.size = m.length := by rw [← dlen, hN1]
      obtain ⟨kd, hkd⟩ : ∃ kd, knd nmL s.data.toList k = kd := ⟨_, rfl⟩
      obtain ⟨bg, hbg⟩ : ∃ bg, bgk nmL s.data.toList k = bg := ⟨_, rfl⟩
      have HS : Hid (knd nmL s.data.toList (k + 1) = (if m = s.data.toList then (k : Int) else kd) ∧ bgk nmL s.data.toList (k + 1) = (bg || (decide (s.data.toList.length ≤ m.length) && m.take s.data.toList.length == s.data.toList))) := by
        unfold Hid
        rw [knd, bgk, hmm, hkd, hbg]
        exact ⟨rfl, rfl⟩
      rw [hkd, hbg]
      rw [dlen] at HS
      clear hmm hNd hkd hbg
      by_cases e1 : m = s.data.toList
      · have t1 : (N.toList == s.toList) = true := dlit_eq (hN1.trans e1)
        have hsz : s.size = m.length := by rw [e1, dlen]
        have t2 : (s.size : Int) ≤ (N.size : Int) := by omega
        obtain ⟨Nx, hNx⟩ : ∃ Nx, N.extract 0 s.size = Nx := ⟨_, rfl⟩
        have hNx1 : Nx.data.toList = m.take s.size := by rw [← hNx, Lib.extract_data, hN1, List.drop_zero, Nat.sub_zero]
        have t3 : (Nx.toList == s.toList) = true := dlit_eq (by rw [hNx1, List.take_of_length_le (by omega)]; exact e1)
        have HZ : Hid (knd nmL s.data.toList (k + 1) = (k : Int) ∧ bgk nmL s.data.toList (k + 1) = true) := by
          refine ⟨by rw [HS.out.1, if_pos e1], ?_⟩
          rw [HS.out.2, List.take_of_length_le (by omega), e1, beq_self_eq_true, dlen, decide_eq_true (Nat.le_refl _)]
          simp
        clear HS e1 hsz hNx1 hN1
        go_wp2
        go_roundg (58 - (k + 1))
        case measure => omega
        case rel => exact ⟨k + 1, rfl, by omega, by rw [HZ.out.1], by rw [HZ.out.2], by go_num, HB.out⟩
      · have t1 : (N.toList == s.toList) = false := dlit_ne (by rw [hN1]; exact e1)
        by_cases e2 : s.size ≤ m.length
        · have t2 : (s.size : Int) ≤ (N.size : Int) := by omega
          obtain ⟨Nx, hNx⟩ : ∃ Nx, N.extract 0 s.size = Nx := ⟨_, rfl⟩
          have hNx1 : Nx.data.toList = m.take s.size := by rw [← hNx, Lib.extract_data, hN1, List.drop_zero, Nat.sub_zero]
          by_cases e3 : m.take s.size = s.data.toList
          · have t3 : (Nx.toList == s.toList) = true := dlit_eq (hNx1.trans e3)
            have HZ : Hid (knd nmL s.data.toList (k + 1) = kd ∧ bgk nmL s.data.toList (k + 1) = true) := by
              refine ⟨by rw [HS.out.1, if_neg e1], ?_⟩
              rw [HS.out.2, e3, beq_self_eq_true, decide_eq_true e2]
              simp
            clear HS e1 e2 e3 hNx1 hN1
            go_wp2
            go_roundg (58 - (k + 1))
            case measure => omega
            case rel => exact ⟨k + 1, rfl, by omega, by rw [HZ.out.1], by rw [HZ.out.2], by go_num, HB.out⟩
          · have t3 : (Nx.toList == s.toList) = false := dlit_ne (by rw [hNx1]; exact e3)
            have HZ : Hid (knd nmL s.data.toList (k + 1) = kd ∧ bgk nmL s.data.toList (k + 1) = bg) := by
              refine ⟨by rw [HS.out.1, if_neg e1], ?_⟩
              rw [HS.out.2, beq_eq_false_iff_ne.2 e3, Bool.and_false, Bool.or_false]
            clear HS e1 e2 e3 hNx1 hN1
            go_wp2
            go_roundg (58 - (k + 1))
            case measure => omega
            case rel => exact ⟨k + 1, rfl, by omega, by rw [HZ.out.1], by rw [HZ.out.2], by go_num, HB.out⟩
        · have t2 : ¬ (s.size : Int) ≤ (N.size : Int) := by omega
          have HZ : Hid (knd nmL s.data.toList (k + 1) = kd ∧ bgk nmL s.data.toList (k + 1) = bg) := by
            refine ⟨by rw [HS.out.1, if_neg e1], ?_⟩
            rw [HS.out.2, decide_eq_false e2, Bool.false_and, Bool.or_false]
          clear HS e1 e2 hN1
          go_wp2
          go_roundg (58 - (k + 1))
          case measure => omega
          case rel => exact ⟨k + 1, rfl, by omega, by rw [HZ.out.1], by rw [HZ.out.2], by go_num, HB.out⟩
    · have hlt' : ¬ (k : Int) < 58 := by omega
      have hke : k = 58 := by omega
      subst hke
      have HZ : Hid (knd nmL s.data.toList 58 = KD ∧ bgk nmL s.data.toList 58 = BG) := by
        have := HKB.out
        simp only [Prod.mk.injEq] at this
        exact this
      go_wp2
      go_ret2
      exact ⟨by rw [← HZ.out.1, ← HZ.out.2]; rfl, HB.out⟩
end Go.Proofs.YtnifjeopmfhhhaaDoor
