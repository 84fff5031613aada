import Derived.Test.YtifjmdgmnpchbaaDoorSv1
import Derived.Test.YtifjmdgmnpchbaaDoorBkl
namespace Go.Proofs.YtifjmdgmnpchbaaDoor
open Go.ChangeShapes Go.WideShapes Go.ChangeAt Go.RowKit
set_option linter.unusedVariables false
set_option linter.unusedSimpArgs false

theorem isB_on {T e : TypeId} {B b B' : Nat} {bs : List Value} {w w' : World} (h : Lib.IsBuilder T e B b bs w) (hb : Below B' w w') (hB : w.heap.size ≤ B') : Lib.IsBuilder T e B b bs w' := by
  have key : ∀ p, Lib.BuilderAt T e B b p bs w → Lib.BuilderAt T e B b p bs w' := by
    rintro p ⟨h1, v, h2, h3, h4⟩
    exact ⟨h1, v, (hb.block b (Nat.lt_of_lt_of_le (lt_of_block h2) hB)).trans h2, ownsRow_below h3 hb hB, h4⟩
  rcases h with h | h
  · exact .inl (key _ h)
  · exact .inr (key _ h)
theorem isB_at {T e : TypeId} {B b : Nat} {bs : List Value} {w : World} (h : Lib.IsBuilder T e B b bs w) : b < w.heap.size := by
  rcases h with h | h <;> exact Lib.BuilderAt.lt h
theorem bytes_app (l : List UInt8) (r : List UInt8) : Lib.byteCells l ++ Lib.strCells ⟨r.toArray⟩ = Lib.byteCells (l ++ r) := by
  rw [Lib.strCells_eq, Lib.byteCells_append]
theorem bytes_one (l : List UInt8) (n : Nat) (c : UInt8) (h : c.toNat = n) : Lib.byteCells l ++ [.int .u8 n] = Lib.byteCells (l ++ [c]) := by
  rw [Lib.byteCells_append, ← h]; rfl
theorem Tr.mem {rs : List Rg} {i : Nat} {r : Rg} (h : rs[i]? = some r) : (rs.map Rg.xs)[i]? = some r.xs := by rw [List.getElem?_map, h]; rfl

set_option maxRecDepth 1000000 in
set_option maxHeartbeats 4000000 in
theorem eshow_any (a : Option Addr) (cap : Nat) (rs : List Rg) (w : World) (h : Tr w a rs) (hl : rs.length ≤ 1048576) (hle : ∀ r ∈ rs, r.xs.length ≤ 1048576) (hx : ∀ r ∈ rs, ∀ x ∈ r.xs, VlOk x) (hq : (shT (rs.map Rg.xs)).length ≤ 1099511627776) (hT : Tbs w) :
    Calls Tryd.prog 5 #[.slice a rs.length cap] w fun e w' => e = .returned (.string ⟨(shT (rs.map Rg.xs)).toArray⟩) ∧ Below w.heap.size w w' := by
  have HT : Hid (∀ v, Below w.heap.size w v → Tbs v) := fun v h => hT.below h
  have HR : Hid (∀ v, Below w.heap.size w v → Tr v a rs) := fun v hv => h.below hv
  have HX : Hid (∀ r ∈ rs, ∀ x ∈ r.xs, VlOk x) := hx
  have HL : Hid (∀ r ∈ rs, r.xs.length ≤ 1048576) := hle
  obtain ⟨Q, hQ⟩ : ∃ Q, shT (rs.map Rg.xs) = Q := ⟨_, rfl⟩
  rw [hQ] at hq
  have HQ : Hid (shT (rs.map Rg.xs) = Q) := hQ
  rw [hQ]
  obtain ⟨w2, e2, hw, hs2, B0⟩ := bx1 w #[.pointer none, .slice none 0 0] 34
  have HE2 : Hid (w.alloc (.cells #[.pointer none, .slice none 0 0] 34) = w2) := e2
  have HI2 : Hid (Lib.IsBuilder 34 5 w.heap.size w.heap.size (Lib.byteCells []) w2) := by unfold Hid; rw [← e2]; exact Lib.fresh_isBuilder _ _ w
  have HB2 : Hid (Below w.heap.size w w2) := hw
  clear hT h hx hle hQ hw hs2 B0 e2
  go_enter Tryd.func5, Tryd.ntmps5
  go_upto_region 2 with fail
  rw [HE2.out]
  go_wp2
  go_loopw [10] (fun i wr => ∃ (k : Nat) (acc : List UInt8), k ≤ rs.length ∧ i = .int .i64 k ∧ Below w.heap.size w wr ∧ acc ++ shT ((rs.map Rg.xs).drop k) = Q ∧ Lib.IsBuilder 34 5 w.heap.size w.heap.size (Lib.byteCells acc) wr) (fun i _ => rs.length - (intOf i).toNat)
  case atStart => exact ⟨0, [], Nat.zero_le _, rfl, HB2.out, HQ.out, HI2.out⟩
  case round =>
    obtain ⟨k, acc, hk, rfl, hbel, hacc, hib⟩ := hrel
    have HB : Hid (Below w.heap.size w wr) := hbel
    have HI : Hid (Lib.IsBuilder 34 5 w.heap.size w.heap.size (Lib.byteCells acc) wr) := hib
    have HA : Hid (acc ++ shT ((rs.map Rg.xs).drop k) = Q) := hacc
    have hbr := isB_at hib
    clear hbel hacc hib
    by_cases hlt : k < rs.length
    · have hlt' : (k : Int) < (rs.length : Int) := by omega
      obtain ⟨r, hr⟩ : ∃ r, rs[k]? = some r := ⟨_, List.getElem?_eq_getElem hlt⟩
      obtain ⟨b, o, rfl, hb0, c0⟩ := (HR.out wr HB.out).row hr
      have HA2 : Hid (acc ++ (evr true (r.xs.drop 0) ++ ([10] ++ shT ((rs.map Rg.xs).drop (k + 1)))) = Q) := by
        unfold Hid; rw [← HA.out, shT_step (Tr.mem hr)]; simp
      have HRm : Hid (r ∈ rs) := List.mem_of_getElem? hr
      have hrl := HL.out r HRm.out
      obtain ⟨R, hR⟩ : ∃ R, [10] ++ shT ((rs.map Rg.xs).drop (k + 1)) = R := ⟨_, rfl⟩
      have HRR : Hid ([10] ++ shT ((rs.map Rg.xs).drop (k + 1)) = R) := hR
      rw [hR] at HA2
      clear hR HA
      obtain ⟨ra, rc, rx⟩ := r
      simp only at *
      go_wp2
      go_loopw [16] (fun j wr => ∃ (m : Nat) (acc : List UInt8), m ≤ rx.length ∧ j = .int .i64 m ∧ Below w.heap.size w wr ∧ acc ++ (evr (decide (m = 0)) (rx.drop m) ++ R) = Q ∧ Lib.IsBuilder 34 5 w.heap.size w.heap.size (Lib.byteCells acc) wr) (fun j _ => rx.length - (intOf j).toNat)
      case atStart => exact ⟨0, acc, Nat.zero_le _, rfl, HB.out, HA2.out, HI.out⟩
      case round =>
        obtain ⟨m, acc2, hm, rfl, hbel, hacc2, hib⟩ := hrel
        have HB3 : Hid (Below w.heap.size w wr) := hbel
        have HI3 : Hid (Lib.IsBuilder 34 5 w.heap.size w.heap.size (Lib.byteCells acc2) wr) := hib
        have HA3 : Hid (acc2 ++ (evr (decide (m = 0)) (rx.drop m) ++ R) = Q) := hacc2
        have hbr3 := isB_at hib
        have hl3 : acc2.length ≤ 1099511627776 := by rw [← hacc2, List.length_append] at hq; omega
        clear hbel hacc2 hib HA2
        by_cases hmt : m < rx.length
        · have hmt' : (m : Int) < (rx.length : Int) := by omega
          obtain ⟨x, hx⟩ : ∃ x, rx[m]? = some x := ⟨_, List.getElem?_eq_getElem hmt⟩
          obtain ⟨b2, o2, rfl, hb2, d0, d1, d2, d3⟩ := ((HR.out wr HB3.out).2 _ HRm.out).vl hx
          have HOK : Hid (VlOk x) := HX.out _ HRm.out x (List.mem_of_getElem? hx)
          have HST := evr_step (decide (m = 0)) hx
          have hsl : (shw x).length ≤ 4194325 := by have := shw_len x HOK.out; have := HOK.out.2.2; omega
          have HCS : Hid (∀ v, Below w.heap.size w v → Calls Tryd.prog 10 #[.agg #[.int .u8 x.k, .bool x.b, .int .i64 x.i, .string x.s]] v fun e w' => e = .returned (.string ⟨(shw x).toArray⟩) ∧ Below v.heap.size v w') := fun v hv => cshow_any x HOK.out v (HT.out v hv)
          obtain ⟨w6, e6, hb6, hs6, B6⟩ := bx1 wr #[.int .u8 x.k, .bool x.b, .int .i64 x.i, .string x.s] 28
          have HE6 : Hid (wr.alloc (.cells #[.int .u8 x.k, .bool x.b, .int .i64 x.i, .string x.s] 28) = w6) := e6
          have HB6 : Hid (Bx w6 wr.heap.size #[.int .u8 x.k, .bool x.b, .int .i64 x.i, .string x.s] 28) := B6
          have HI6 : Hid (Lib.IsBuilder 34 5 w.heap.size w.heap.size (Lib.byteCells acc2) w6) := isB_on HI3.out hb6 (Nat.le_refl _)
          have HW6 : Hid (Below w.heap.size w w6) := HB3.out.trans (hb6.mono HB3.out.size)
          have hs6' : wr.heap.size < w6.heap.size := by omega
          have q0 := B6.cell 0
          have q1 := B6.cell 1
          have q2 := B6.cell 2
          have q3 := B6.cell 3
          simp at q0 q1 q2 q3
          obtain ⟨T, hTd⟩ : ∃ T, shw x = T := ⟨_, rfl⟩
          rw [hTd] at HCS hsl HST
          have hTs : (⟨T.toArray⟩ : ByteArray).size = T.length := by show T.toArray.size = _; simp
          have HTS : Hid ((⟨T.toArray⟩ : ByteArray).size = T.length) := hTs
          clear hTd e6 hb6 hs6 B6 hx hTs
          by_cases hm0 : m = 0
          · have HN : Hid ((acc2 ++ T) ++ (evr (decide (m + 1 = 0)) (rx.drop (m + 1)) ++ R) = Q) := by
              unfold Hid; rw [← HA3.out, HST, hm0]; simp
            clear HST HA3
            subst hm0
            simp only [Nat.zero_mul, Nat.add_zero] at d0 d1 d2 d3
            go_upto_region 8 with fail
            rw [HE6.out]
            clear d0 d1 d2 d3
            go_wp2_with (first
              | (go_at_call 10; (with_reducible refine (HCS.out _ HW6.out).mono ?_); rintro e w7 ⟨rfl, hb7⟩; have HB7 : Hid (Below w6.heap.size w6 w7) := hb7; have HI7 : Hid (Lib.IsBuilder 34 5 w.heap.size w.heap.size (Lib.byteCells acc2) w7) := isB_on HI6.out hb7 (Nat.le_refl _); have HW7 : Hid (Below w.heap.size w w7) := HW6.out.trans (hb7.mono HW6.out.size); clear hb7)
              | (go_at_call 9; (with_reducible refine (writeString_any w.heap.size w.heap.size (Lib.byteCells acc2) ⟨T.toArray⟩ _ HI7.out (by rw [Lib.byteCells_length, HTS.out]; omega) HW7.out.size).mono ?_); rintro e w8 ⟨rfl, hi8, hb8⟩; have HI8 : Hid (Lib.IsBuilder 34 5 w.heap.size w.heap.size (Lib.byteCells (acc2 ++ T)) w8) := (by unfold Hid; rw [← bytes_app]; exact .inr hi8); have HW8 : Hid (Below w.heap.size w w8) := HW7.out.trans hb8; clear hi8 hb8))
            go_roundw
            case rel => exact ⟨0 + 1, acc2 ++ T, by omega, by go_num, HW8.out, HN.out, HI8.out⟩
            case measure => simp [intOf]; omega
          · have HN : Hid ((acc2 ++ [32] ++ T) ++ (evr (decide (m + 1 = 0)) (rx.drop (m + 1)) ++ R) = Q) := by
              unfold Hid; rw [← HA3.out, HST]; simp [hm0]
            have hmp : (0 : Int) < (m : Int) := by omega
            clear HST HA3 hm0
            go_upto_region 8 with fail
            rw [HE6.out]
            clear d0 d1 d2 d3
            go_wp2_with (first
              | (go_at_call 8; (with_reducible refine (writeByte_k w.heap.size w.heap.size (Lib.byteCells acc2) 32 _ HI6.out (by rw [Lib.byteCells_length]; omega) HW6.out.size).mono ?_); rintro e w5 ⟨rfl, hi5, hb5, hk5⟩; have HI5 : Hid (Lib.IsBuilder 34 5 w.heap.size w.heap.size (Lib.byteCells (acc2 ++ [32])) w5) := (by unfold Hid; rw [← bytes_one acc2 32 32 rfl]; exact .inr hi5); have HW5 : Hid (Below w.heap.size w w5) := HW6.out.trans hb5; have HX5 : Hid (Bx w5 wr.heap.size #[.int .u8 x.k, .bool x.b, .int .i64 x.i, .string x.s] 28) := hk5 _ _ HB6.out (fun e => by have := Option.some.inj e; omega) (fun c fz hc => by cases hc); have p0 : w5.cell? ⟨wr.heap.size, 0, none⟩ = some (.int .u8 x.k) := HX5.out.cell 0; have p1 : w5.cell? ⟨wr.heap.size, 1, none⟩ = some (.bool x.b) := HX5.out.cell 1; have p2 : w5.cell? ⟨wr.heap.size, 2, none⟩ = some (.int .i64 x.i) := HX5.out.cell 2; have p3 : w5.cell? ⟨wr.heap.size, 3, none⟩ = some (.string x.s) := HX5.out.cell 3; clear hi5 hb5 hk5)
              | (go_at_call 10; (with_reducible refine (HCS.out _ HW5.out).mono ?_); rintro e w7 ⟨rfl, hb7⟩; have HI7 : Hid (Lib.IsBuilder 34 5 w.heap.size w.heap.size (Lib.byteCells (acc2 ++ [32])) w7) := isB_on HI5.out hb7 (Nat.le_refl _); have HW7 : Hid (Below w.heap.size w w7) := HW5.out.trans (hb7.mono HW5.out.size); clear hb7)
              | (go_at_call 9; (with_reducible refine (writeString_any w.heap.size w.heap.size (Lib.byteCells (acc2 ++ [32])) ⟨T.toArray⟩ _ HI7.out (by rw [Lib.byteCells_length, HTS.out, List.length_append]; simp; omega) HW7.out.size).mono ?_); rintro e w8 ⟨rfl, hi8, hb8⟩; have HI8 : Hid (Lib.IsBuilder 34 5 w.heap.size w.heap.size (Lib.byteCells (acc2 ++ [32] ++ T)) w8) := (by unfold Hid; rw [← bytes_app]; exact .inr hi8); have HW8 : Hid (Below w.heap.size w w8) := HW7.out.trans hb8; clear hi8 hb8))
            go_roundw
            case rel => exact ⟨m + 1, acc2 ++ [32] ++ T, by omega, by go_num, HW8.out, HN.out, HI8.out⟩
            case measure => simp [intOf]; omega
        · have hmge : ¬ (m : Int) < (rx.length : Int) := by omega
          have HN : Hid ((acc2 ++ [10]) ++ shT ((rs.map Rg.xs).drop (k + 1)) = Q) := by
            unfold Hid; rw [← HA3.out, evr_end _ (by omega), ← HRR.out]; simp
          clear HA3
          go_wp2_with (go_at_call 8; (with_reducible refine (writeByte_any w.heap.size w.heap.size (Lib.byteCells acc2) 10 _ HI3.out (by rw [Lib.byteCells_length]; omega) HB3.out.size).mono ?_); rintro e w5 ⟨rfl, hi5, hb5⟩; have HI5 : Hid (Lib.IsBuilder 34 5 w.heap.size w.heap.size (Lib.byteCells (acc2 ++ [10])) w5) := (by unfold Hid; rw [← bytes_one acc2 10 10 rfl]; exact .inr hi5); have HW5 : Hid (Below w.heap.size w w5) := HB3.out.trans hb5; clear hi5 hb5)
          go_roundw
          case rel => exact ⟨k + 1, acc2 ++ [10], by omega, by go_num, HW5.out, HN.out, HI5.out⟩
          case measure => simp [intOf]; omega
    · have hge : ¬ (k : Int) < (rs.length : Int) := by omega
      have HN : Hid (acc = Q) := by unfold Hid; rw [← HA.out, shT_end (by simp; omega)]; simp
      go_wp2_with (go_at_call 11; (with_reducible refine (Tryd.Builder_String_any w.heap.size w.heap.size _ _ HI.out (by omega)).mono ?_); rintro e w9 ⟨rfl, hb9⟩; have HB9 : Hid (Below w.heap.size wr w9) := hb9; clear hb9)
      go_ret
      exact ⟨by rw [HN.out]; rfl, HB.out.trans HB9.out⟩
end Go.Proofs.YtifjmdgmnpchbaaDoor
