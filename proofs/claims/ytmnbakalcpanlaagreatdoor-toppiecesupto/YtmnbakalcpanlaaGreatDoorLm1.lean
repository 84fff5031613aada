import Derived.Test.YtmnbakalcpanlaaGreatDoorLm0
import Derived.Lib.OthersKept
import Derived.Laws.RangeAny
namespace Go.Proofs.YtmnbakalcpanlaaGreatDoor
open Go.ChangeShapes Go.WideShapes Go.ChangeAt Go.RowKit Go.Maps Go.WideMaps
set_option linter.unusedVariables false
set_option linter.unusedSimpArgs false

theorem ext_get! (s : ByteArray) (p j : Nat) : (s.extract p s.size).get! j = (s.data[p + j]?).getD default := by
  show (s.extract p s.size).data[j]! = _
  rw [Array.getElem!_eq_getD, Array.getD_eq_getD_getElem?, ByteArray.data_extract, Array.getElem?_extract]
  have hu : s.data.size = s.size := rfl
  split
  · rfl
  · rename_i h
    rw [hu] at h
    have e : s.data[p + j]? = none := Array.getElem?_eq_none (by omega)
    rw [e]
theorem dec_ext (s : ByteArray) (p i : Nat) (h : p + i < s.size) : Utf8.decode (s.extract p s.size) i = (rn s (p + i), wd s (p + i)) := by
  have hz : (s.extract (p + i) s.size).size = s.size - (p + i) := by rw [ByteArray.size_extract]; omega
  have h0 : Lib.decodeGo (s.extract (p + i) s.size) = Utf8.decode (s.extract (p + i) s.size) 0 := by
    unfold Lib.decodeGo; rw [if_neg (by omega)]
  have hz2 : (s.extract p s.size).size - i = s.size - (p + i) := by rw [ByteArray.size_extract]; omega
  unfold rn wd
  show _ = Lib.decodeGo (s.extract (p + i) s.size)
  rw [h0, Lib.decode_at, Lib.decode_at, hz2]
  simp only [ext_get!, hz, Nat.sub_zero, Nat.zero_add, Nat.add_zero, Nat.add_assoc]
theorem rnE_in {s : ByteArray} {k : Nat} (h : k < s.size) (hb : isLD (rn s k) = true) : rnE s k = rnE s (k + wd s k) := by rw [rnE, dif_pos ⟨h, hb⟩]
theorem rnE_out {s : ByteArray} {k : Nat} (h : ¬ (k < s.size ∧ isLD (rn s k) = true)) : rnE s k = k := by rw [rnE, dif_neg h]
theorem rnE_le (s : ByteArray) : ∀ n k, s.size - k ≤ n → k ≤ s.size → k ≤ rnE s k ∧ rnE s k ≤ s.size
  | n, k, hn, hk => by
    by_cases h : k < s.size ∧ isLD (rn s k) = true
    · obtain ⟨f1, f2, -, -⟩ := dec_facts s k h.1
      rw [rnE_in h.1 h.2]
      match n, hn with
      | 0, hn => omega
      | m + 1, hn => have := rnE_le s m (k + wd s k) (by omega) f2; omega
    · rw [rnE_out h]; omega
theorem isDigit_any (r : Nat) (hr : r < 1114112) (w : World) (hT : Lt w) : Calls Tryz.prog 67 #[.int .i32 (r : Int)] w fun e w' => e = .returned (.bool (uD r)) ∧ Below w.heap.size w w' :=
  Tryz.unicode_IsDigit_any Lib.digitT (r : Int) w (by omega) (by omega) (hT.2 w (Below.refl _ _)).2.2 Lib.digitT_ok

set_option maxRecDepth 1000000 in
set_option maxHeartbeats 8000000 in
theorem runEnd_any (b : Nat) (s : ByteArray) (p : Nat) (hs : s.size ≤ 4294967280) (hp : p < s.size) (w : World) (hb : w.cell? ⟨b, 0, none⟩ = some (.string s)) (hT : Lt w) :
    Calls Tryz.prog 54 #[.pointer (some ⟨b, 0, none⟩), .int .i64 (p : Int)] w fun e w' => e = .returned (.int .i64 (rnE s p : Nat)) ∧ Below w.heap.size w w' := by
  have hbl : b < w.heap.size := World.block_lt_of_cell? _ _ hb
  have hp' : (p : Int) < (s.size : Int) := by omega
  have HT : Hid (∀ v, Below w.heap.size w v → Lt v) := fun v hv => hT.below hv
  have HC : Hid (∀ v, Below w.heap.size w v → v.cell? ⟨b, 0, none⟩ = some (.string s) ∧ b < v.heap.size) := fun v hv => ⟨(hv.cell (p := ⟨b, 0, none⟩) hbl).trans hb, by have := hv.size; omega⟩
  have hXs : (s.extract p s.size).size = s.size - p := by rw [ByteArray.size_extract]; omega
  have HD : Hid (∀ i, p + i < s.size → Utf8.decode (s.extract p s.size) i = (rn s (p + i), wd s (p + i))) := fun i h => dec_ext s p i h
  obtain ⟨E, hE⟩ : ∃ E, rnE s p = E := ⟨_, rfl⟩
  have HE : Hid (rnE s p = E) := hE
  rw [hE]
  clear hE hT
  go_enter Tryz.func54, Tryz.ntmps54
  go_wp2
  generalize s.extract p s.size = X at *
  go_loopw [4] (fun _ wr => ∃ i : Nat, p + i ≤ s.size ∧ wr.heap[w.heap.size]? = some (.stringIter X i) ∧ Below w.heap.size w wr ∧ rnE s (p + i) = E) (fun _ wr => X.size - wr.iterPos w.heap.size)
  case atStart => exact ⟨0, by omega, World.iter_heap w X 0, (Below.refl _ w).alloc (Nat.le_refl _) _, HE.out⟩
  case round =>
    obtain ⟨i, hi, hit, hbel, hre⟩ := hrel
    have HB : Hid (Below w.heap.size w wr) := hbel
    have HK : Hid (rnE s (p + i) = E) := hre
    have hsz : w.heap.size < wr.heap.size := (Array.getElem?_eq_some_iff.1 hit).1
    clear hbel hre
    by_cases hlt : p + i < s.size
    · have hiX : i < X.size := by omega
      obtain ⟨f1, f2, -, -⟩ := dec_facts s (p + i) hlt
      have hrl := rn_lt s (p + i)
      have hst : isLD (rn s (p + i)) = true → rnE s (p + i + wd s (p + i)) = E := fun h => by rw [← rnE_in hlt h]; exact HK.out
      have hen : isLD (rn s (p + i)) = false → p + i = E := fun h => by rw [← HK.out, rnE_out (by rw [h]; simp)]
      have hnx : ∀ ty, (Instr.next (.pointer (some ⟨w.heap.size, 0, none⟩)) true ty).run Tryz.prog wr = .ok (.tuple #[.bool true, .int .i64 (i : Int), .int .i32 (rn s (p + i) : Nat)]) (wr.iterAt w.heap.size X (i + wd s (p + i))) := fun ty => by
        have := Lib.run_next_any_at (P := Tryz.prog) wr w.heap.size X i ty hit hiX
        rw [HD.out i hlt] at this
        exact this
      obtain ⟨R, hR⟩ : ∃ R, rn s (p + i) = R := ⟨_, rfl⟩
      obtain ⟨D, hD⟩ : ∃ D, wd s (p + i) = D := ⟨_, rfl⟩
      rw [hR] at hrl hst hen hnx
      rw [hD] at f1 f2 hst hnx
      have HB2 : Hid (Below w.heap.size w (wr.iterAt w.heap.size X (i + D))) := Lib.below_iterAt HB.out (Nat.le_refl _) X (i + D)
      have HI2 : Hid ((wr.iterAt w.heap.size X (i + D)).heap[w.heap.size]? = some (.stringIter X (i + D))) := Lib.iterAt_heap wr w.heap.size X i (i + D) hit
      have HS2 : Hid (w.heap.size < (wr.iterAt w.heap.size X (i + D)).heap.size) := by unfold Hid; rw [Lib.iterAt_size]; exact hsz
      have HL : Hid (∀ v, Below w.heap.size w v → Calls Tryz.prog 53 #[.int .i32 (R : Int)] v fun e w' => e = .returned (.bool (isL R)) ∧ Below v.heap.size v w') := fun v hv => isLetter_any R hrl v (HT.out v hv)
      have HG : Hid (∀ v, Below w.heap.size w v → Calls Tryz.prog 67 #[.int .i32 (R : Int)] v fun e w' => e = .returned (.bool (uD R)) ∧ Below v.heap.size v w') := fun v hv => isDigit_any R hrl v (HT.out v hv)
      have hld : isLD R = (isL R || uD R) := rfl
      obtain ⟨x, hx⟩ : ∃ x, isL R = x := ⟨_, rfl⟩
      obtain ⟨y, hy⟩ : ∃ y, uD R = y := ⟨_, rfl⟩
      rw [hx, hy] at hld
      rw [hx] at HL
      rw [hy] at HG
      rw [hld] at hst hen
      clear hx hy hld hR hD
      cases x with
      | true =>
        have hst' := hst rfl
        go_wp2_with (go_at_call 53; (with_reducible refine (HL.out _ HB2.out).mono ?_); rintro e w3 ⟨rfl, hb3⟩; have HB3 : Hid (Below w.heap.size w w3) := HB2.out.trans (hb3.mono HB2.out.size); have HI3 : Hid (w3.heap[w.heap.size]? = some (.stringIter X (i + D))) := (hb3.block _ HS2.out).trans HI2.out; clear hb3)
        go_roundw
        case rel => exact ⟨i + D, by omega, HI3.out, HB3.out, by rw [← Nat.add_assoc]; exact hst'⟩
        case measure => rw [iterPos_of hit, iterPos_of HI3.out]; omega
      | false =>
        cases y with
        | true =>
          have hst' := hst rfl
          go_wp2_with (first
            | (go_at_call 53; (with_reducible refine (HL.out _ HB2.out).mono ?_); rintro e w3 ⟨rfl, hb3⟩; have HB3 : Hid (Below w.heap.size w w3) := HB2.out.trans (hb3.mono HB2.out.size); have HI3 : Hid (w3.heap[w.heap.size]? = some (.stringIter X (i + D))) := (hb3.block _ HS2.out).trans HI2.out; clear hb3)
            | (go_at_call 67; (with_reducible refine (HG.out _ HB3.out).mono ?_); rintro e w4 ⟨rfl, hb4⟩; have HB4 : Hid (Below w.heap.size w w4) := HB3.out.trans (hb4.mono HB3.out.size); have HI4 : Hid (w4.heap[w.heap.size]? = some (.stringIter X (i + D))) := (hb4.block _ (Array.getElem?_eq_some_iff.1 HI3.out).1).trans HI3.out; clear hb4))
          go_roundw
          case rel => exact ⟨i + D, by omega, HI4.out, HB4.out, by rw [← Nat.add_assoc]; exact hst'⟩
          case measure => rw [iterPos_of hit, iterPos_of HI4.out]; omega
        | false =>
          have hen' := hen rfl
          go_wp2_with (first
            | (go_at_call 53; (with_reducible refine (HL.out _ HB2.out).mono ?_); rintro e w3 ⟨rfl, hb3⟩; have HB3 : Hid (Below w.heap.size w w3) := HB2.out.trans (hb3.mono HB2.out.size); clear hb3)
            | (go_at_call 67; (with_reducible refine (HG.out _ HB3.out).mono ?_); rintro e w4 ⟨rfl, hb4⟩; have HB4 : Hid (Below w.heap.size w w4) := HB3.out.trans (hb4.mono HB3.out.size); clear hb4))
          go_ret
          exact ⟨by simp; omega, HB4.out⟩
    · have hiX : ¬ i < X.size := by omega
      have hnx : ∀ ty, (Instr.next (.pointer (some ⟨w.heap.size, 0, none⟩)) true ty).run Tryz.prog wr = .ok (.tuple #[.bool false]) wr := fun ty => Lib.run_next_end_at (P := Tryz.prog) wr w.heap.size X i ty hit hiX
      have hen' : p + i = E := by rw [← HK.out, rnE_out (by omega)]
      obtain ⟨cb, bb⟩ := HC.out wr HB.out
      go_wp2
      go_ret
      exact ⟨by simp; omega, HB.out⟩
end Go.Proofs.YtmnbakalcpanlaaGreatDoor
