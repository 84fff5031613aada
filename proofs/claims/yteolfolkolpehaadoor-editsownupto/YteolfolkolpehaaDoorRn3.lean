import Derived.Test.YteolfolkolpehaaDoorRn
namespace Go.Proofs.YteolfolkolpehaaDoor
open Go.ChangeShapes Go.WideShapes Go.ChangeAt Go.RowKit
set_option linter.unusedVariables false

theorem sd_drop {tx : List UInt8} {rs : List Rn} {k : Nat} {r : Rn} (he : rs[k]? = some r) : sd tx (rs.drop k) = (if r.old then (tx.drop r.f.toNat).take (r.t.toNat - r.f.toNat) else r.s.data.toList) ++ sd tx (rs.drop (k + 1)) := by
  obtain ⟨hk, rfl⟩ := List.getElem?_eq_some_iff.1 he
  rw [List.drop_eq_getElem_cons hk, sd]

theorem ret_str {a b : ByteArray} (h : a = b) : Ending.returned (.string a) = .returned (.string b) := by rw [h]

set_option maxHeartbeats 1000000 in
theorem said_any (tx : ByteArray) (b o cap : Nat) (rs : List Rn) (w : World) (hx : tx.size ≤ 140737488351232) (h : Rns w b o rs) (hl : rs.length ≤ 140737488351232) (hin : ∀ r ∈ rs, RnIn tx.size r) (hB : (sd tx.data.toList rs).length ≤ 140737488351232) :
    Calls Tryd.prog 36 #[.string tx, .slice (some ⟨b, o, none⟩) rs.length cap] w fun e w' => e = .returned (.string ⟨(sd tx.data.toList rs).toArray⟩) ∧ Below w.heap.size w w' := by
  have HX : Hid (Rns w b o rs) := h
  have HI : Hid (∀ r ∈ rs, RnIn tx.size r) := hin
  have hbw : b < w.heap.size := h.1
  obtain ⟨N, hN⟩ : ∃ N, N = (sd tx.data.toList rs).length := ⟨_, rfl⟩
  have HN : Hid (N = (sd tx.data.toList rs).length) := hN
  rw [← hN] at hB
  clear h hin hN
  go_enter Tryd.func36, Tryd.ntmps36
  go_wp2
  go_loopw [5, 6] (fun ss i wr => ∃ (k : Nat) (p : ByteArray), k ≤ rs.length ∧ i = .int .i64 k ∧ ss = .string p ∧ Below w.heap.size w wr ∧ p.data.toList ++ sd tx.data.toList (rs.drop k) = sd tx.data.toList rs) (fun _ i _ => rs.length - (intOf i).toNat)
  case atStart => exact ⟨0, ⟨#[]⟩, Nat.zero_le _, rfl, rfl, Below.refl _ _, by simp⟩
  case round =>
    obtain ⟨k, p, hk, rfl, rfl, hbel, hp⟩ := hrel
    have HP : Hid (p.data.toList ++ sd tx.data.toList (rs.drop k) = sd tx.data.toList rs) := hp
    have hsz := hbel.size
    clear hp
    by_cases hlt : k < rs.length
    · obtain ⟨r, he⟩ : ∃ r, rs[k]? = some r := ⟨_, List.getElem?_eq_getElem hlt⟩
      obtain ⟨c0, c1, c2, c3⟩ := (HX.out.below hbel hbw).2 k r he
      have hmem : r ∈ rs := List.mem_of_getElem? he
      obtain ⟨q1, q2, q3⟩ := HI.out r hmem
      have hlt' : (k : Int) < (rs.length : Int) := by omega
      cases hold : r.old with
      | true =>
        rw [hold] at c0
        obtain ⟨f, hf⟩ := Int.eq_ofNat_of_zero_le q1
        obtain ⟨t, ht⟩ := Int.eq_ofNat_of_zero_le (Int.le_trans q1 q2)
        rw [hf] at c1
        rw [ht] at c2
        have HS : Hid ((p ++ tx.extract f t).data.toList ++ sd tx.data.toList (rs.drop (k + 1)) = sd tx.data.toList rs) := by
          unfold Hid
          rw [← HP.out, sd_drop he, hold, hf, ht]
          simp only [if_true, Int.toNat_natCast, ByteArray.data_append, Array.toList_append, Lib.extract_data, List.append_assoc]
        have hft : (f : Int) ≤ (t : Int) := by omega
        have htx : (t : Int) ≤ (tx.size : Int) := by omega
        have hsum : p.size + (tx.extract f t).size ≤ N := by
          have := congrArg List.length HS.out
          rw [← HN.out, List.length_append, bytes_len, ByteArray.size_append] at this
          omega
        clear he hmem hold hf ht q1 q2 q3
        go_wp2
        go_quiet (fail)
        go_wp2
        go_roundw
        case rel => exact ⟨k + 1, p ++ tx.extract f t, by omega, by go_num, rfl, below_drewN hbel _, HS.out⟩
        case measure => simp [intOf]; omega
      | false =>
        rw [hold] at c0
        have HS : Hid ((p ++ r.s).data.toList ++ sd tx.data.toList (rs.drop (k + 1)) = sd tx.data.toList rs) := by
          unfold Hid
          rw [← HP.out, sd_drop he, hold]
          simp only [Bool.false_eq_true, if_false, ByteArray.data_append, Array.toList_append, List.append_assoc]
        have hsum : p.size + r.s.size ≤ N := by
          have := congrArg List.length HS.out
          rw [← HN.out, List.length_append, bytes_len, ByteArray.size_append] at this
          omega
        clear he hmem hold q1 q2 q3
        go_wp2
        go_roundw
        case rel => exact ⟨k + 1, p ++ r.s, by omega, by go_num, rfl, hbel, HS.out⟩
        case measure => simp [intOf]; omega
    · have HE : Hid (p = ⟨(sd tx.data.toList rs).toArray⟩) := by
        unfold Hid
        apply bytes_ext
        rw [← HP.out, List.drop_eq_nil_of_le (by omega), sd]
        simp
      go_wp2
      go_ret
      exact ⟨ret_str HE.out, by (repeat (with_reducible refine below_drewN ?_ _)); go_grown⟩
end Go.Proofs.YteolfolkolpehaaDoor
