import Derived.Test.YthdfccdkomfikaaDoorFirstB
import Derived.Test.YthdfccdkomfikaaDoorLmv
import Derived.Test.YthdfccdkomfikaaDoorLc3
import Derived.Test.YthdfccdkomfikaaDoorCls
import Derived.BigQuiet
namespace Go.Proofs.YthdfccdkomfikaaDoor
open Go.ChangeShapes Go.WideShapes Go.ChangeAt Go.RowKit Go.Maps Go.WideMaps
set_option linter.unusedVariables false
set_option linter.unusedSimpArgs false

set_option maxRecDepth 1000000 in
theorem empty_any (k f t : Int) (w : World) : Calls Tryd.prog 7 #[.agg #[.int .u8 k, .int .i64 f, .int .i64 t]] w fun e w' => e = .returned (.bool (k == 6)) ∧ Below w.heap.size w w' := by
  obtain ⟨w1, e1, hb1, hs1, B1⟩ := bx1 w #[.int .u8 k, .int .i64 f, .int .i64 t] 31
  have HB1 : Hid (Below w.heap.size w w1) := hb1
  have k0 := B1.cell 0
  have kz := B1.lt
  simp at k0
  clear hb1 B1
  go_enter Tryd.func7, Tryd.ntmps7
  go_wp2
  go_ret
  exact ⟨rfl, HB1.out⟩
/-- the token ahead -/
def Prv (L : List Tk) (i : Nat) (b : Bool) : Prop := i = 0 ∨ ∃ k f t : Int, L[i - 1]? = some (⟨k, f, t⟩ : Tk) ∧ (b = false → k ≠ 0)
theorem chn_head {s : ByteArray} {p : Nat} {b : Bool} {L : List Tk} {i : Nat} (h : Chn s p b (L.drop i)) (hi : i < L.length) : ∃ k t : Nat, L[i]? = some (⟨k, p, t⟩ : Tk) ∧ p ≤ t ∧ t ≤ s.size ∧ k < 80 ∧ (k = 6 ↔ p = t) ∧ (b = true → k ≠ 0) ∧ (2 ≤ k → k ≠ 6 → cut (s.extract p t) 0 = ([(⟨k, 0, (s.extract p t).size⟩ : Tk)], none)) ∧ Chn s t (decide (k = 0)) (L.drop (i + 1)) := by
  rw [List.drop_eq_getElem_cons hi] at h
  obtain ⟨k, t, h1, h2⟩ := h
  exact ⟨k, t, by rw [List.getElem?_eq_getElem hi, h1], h2⟩
theorem chn_done {s : ByteArray} {p : Nat} {b : Bool} {L : List Tk} {i : Nat} (h : Chn s p b (L.drop i)) (hi : ¬ i < L.length) : p = s.size := by
  rw [List.drop_of_length_le (by omega)] at h
  exact h

set_option maxRecDepth 1000000 in
set_option maxHeartbeats 16000000 in
theorem lexerCovers_walk (s : ByteArray) (hB : s.size ≤ 1048576) (w : World) (hS : Spl w) (hT : Lt w) (hM : MaxL w) :
    Calls Tryd.prog 4 #[.string s] w fun e w' => e = .returned (.bool true) ∧ Below w.heap.size w w' := by
  have hs : s.size ≤ 4294967280 := by omega
  have HKD : Hid (∀ v, Below w.heap.size w v → ∀ (u : ByteArray) (k : Nat), u.size ≤ 4294967280 → 2 ≤ k → k < 80 → cut u 0 = ([(⟨k, 0, u.size⟩ : Tk)], none) → Calls Tryd.prog 8 #[.string u] v fun e w' => e = .returned (.tuple #[.int .u8 (k : Int), .bool true]) ∧ Below v.heap.size v w') := fun v hv u k h1 h2 h3 h4 => Kind_one k h2 h3 u h1 h4 v (hS.below hv) (hT.below hv) (hM.below hv)
  cases hC : (cut s 0).2 with
  | some yz =>
    obtain ⟨y, z⟩ := yz
    obtain ⟨-, hzs, hy1, hy2, -⟩ := cut_first s s.size 0 y z (by omega) hC
    have HS1 : Hid (Calls Tryd.prog 6 #[.string s] w fun e w' => e = .returned (.tuple #[.slice none 0 0, .agg #[.int .i64 (y : Int), .int .i64 0, .int .i64 (z : Int)]]) ∧ Below w.heap.size w w') := scan_no hs hC w hS hT hM
    have hzI : (z : Int) < (s.size : Int) := by omega
    have hz0 : (z : Int) ≥ 0 := by omega
    have hy : ((y : Int) != 0) = true := by rw [bne_iff_ne]; omega
    clear hC hS hT hM HKD
    go_enter Tryd.func4, Tryd.ntmps4
    go_wp2_with (go_at_call 6; (with_reducible refine HS1.out.mono ?_); rintro e w3 ⟨rfl, hb3⟩; have HB3 : Hid (Below w.heap.size w w3) := hb3; clear hb3)
    go_ret
    exact ⟨by first | rfl | simp, HB3.out.alloc HB3.out.size _⟩
  | none =>
    have hch := chn_cut s s.size 0 false (by omega) (by omega) hC (by simp)
    obtain ⟨L, hL⟩ : ∃ L, wau s (cut s 0).1 = L := ⟨_, rfl⟩
    have HS1 : Hid (Calls Tryd.prog 6 #[.string s] w fun e w' => ∃ a c, e = .returned (.tuple #[.slice a L.length c, .agg #[.int .i64 0, .int .i64 0, .int .i64 0]]) ∧ LiesA w' a L ∧ L.length ≤ c ∧ (a = none → c = 0) ∧ Below w.heap.size w w') := by rw [← hL]; exact scan_ok hs hC w hS hT hM
    have hmx := wau_max hs
    rw [hL] at hch hmx
    have HCH : Hid (Chn s 0 false L) := hch
    clear hC hS hT hM hL hch
    go_enter Tryd.func4, Tryd.ntmps4
    go_wp2_with (go_at_call 6; (with_reducible refine HS1.out.mono ?_); rintro e w3 ⟨a3, c3, rfl, hl3, hc3, hn3, hb3⟩; have HB3 : Hid (Below w.heap.size w w3) := hb3; have HL3 : Hid (LiesA w3 a3 L) := hl3; clear hb3 hl3)
    obtain ⟨w4, e4⟩ : ∃ w4, w3.alloc (.cells #[.int .i64 0, .int .i64 0, .int .i64 0] 25) = w4 := ⟨_, rfl⟩
    rw [e4]
    have HL4 : Hid (LiesA w4 a3 L) := by unfold Hid; rw [← e4]; exact HL3.out.below ((Below.refl _ _).alloc (Nat.le_refl _) _)
    have HB4 : Hid (Below w.heap.size w w4) := by unfold Hid; rw [← e4]; exact HB3.out.alloc HB3.out.size _
    clear e4 HL3 HB3
    go_loopw [5, 40] (fun sa si wr => ∃ (i p : Nat) (b : Bool), i ≤ L.length ∧ si = .int .i64 (i : Int) ∧ sa = .int .i64 (p : Int) ∧ Chn s p b (L.drop i) ∧ Prv L i b ∧ Below w4.heap.size w4 wr) (fun _ si _ => L.length - (intOf si).toNat)
    case atStart => exact ⟨0, 0, false, Nat.zero_le _, rfl, rfl, HCH.out, .inl rfl, Below.refl _ _⟩
    case round =>
      obtain ⟨i, p, b, hiL, rfl, rfl, hchn, hprv, hbel⟩ := hrel
      have HB : Hid (Below w4.heap.size w4 wr) := hbel
      have HCN : Hid (Chn s p b (L.drop i)) := hchn
      have HPV : Hid (Prv L i b) := hprv
      clear hbel hchn hprv
      by_cases hlt : i < L.length
      · have hlt' : (i : Int) < (L.length : Int) := by omega
        obtain ⟨k, t, hget, hpt, hts, hk80, h6, hb0, hself, hnext⟩ := chn_head HCN.out hlt
        have HNX : Hid (Chn s t (decide (k = 0)) (L.drop (i + 1))) := hnext
        have HPX : Hid (Prv L (i + 1) (decide (k = 0))) := .inr ⟨k, p, t, by simpa using hget, fun h => by simp at h; omega⟩
        have HK6 : Hid (k = 6 → p = t) := fun h => h6.1 h
        have HSF : Hid (2 ≤ k → k ≠ 6 → cut (s.extract p t) 0 = ([(⟨k, 0, (s.extract p t).size⟩ : Tk)], none)) := hself
        obtain ⟨g, o, rfl, hlg⟩ : ∃ g o, a3 = some ⟨g, o, none⟩ ∧ Lies w4 g o L := by
          rcases HL4.out with h | ⟨g, o, h1, h2⟩
          · rw [h] at hlt; simp at hlt
          · exact ⟨g, o, h1, h2⟩
        have HLG : Hid (∀ v, Below w4.heap.size w4 v → ∀ (j : Nat) (q : Tk), L[j]? = some q → v.cell? ⟨g, o + j * 3, none⟩ = some (.int .u8 q.k) ∧ v.cell? ⟨g, o + j * 3 + 1, none⟩ = some (.int .i64 q.f) ∧ v.cell? ⟨g, o + j * 3 + 2, none⟩ = some (.int .i64 q.t)) := fun v hv j q hq => hlg.tk hv hq
        have hgr : g < wr.heap.size := by have := hlg.1; have := HB.out.size; omega
        obtain ⟨c0, c1, c2⟩ := HLG.out wr HB.out i _ hget
        simp only at c0 c1 c2
        -- the tests
        have n1 : decide ((t : Int) < (p : Int)) = false := by rw [decide_eq_false_iff_not]; omega
        have n1' : decide (t < p) = false := by rw [decide_eq_false_iff_not]; omega
        have n2 : decide ((t : Int) > (s.size : Int)) = false := by rw [decide_eq_false_iff_not]; omega
        have n2' : decide (s.size < t) = false := by rw [decide_eq_false_iff_not]; omega
        have n3 : ((k : Int) == 6) = ((p : Int) == (t : Int)) := by
          by_cases h : k = 6
          · have := h6.1 h; subst h; subst this; simp
          · have h1 : ((k : Int) == 6) = false := by rw [beq_eq_false_iff_ne]; omega
            have h2 : ((p : Int) == (t : Int)) = false := by rw [beq_eq_false_iff_ne]; omega
            rw [h1, h2]
        obtain ⟨z, hz⟩ : ∃ z, ((p : Int) == (t : Int)) = z := ⟨_, rfl⟩
        have HEM : Hid (∀ v, Calls Tryd.prog 7 #[.agg #[.int .u8 (k : Int), .int .i64 (p : Int), .int .i64 (t : Int)]] v fun e w' => e = .returned (.bool z) ∧ Below v.heap.size v w') := fun v => by
          have := empty_any (k : Int) (p : Int) (t : Int) v
          rw [n3, hz] at this
          exact this
        obtain ⟨v2, e2⟩ : ∃ v2, wr.alloc (.cells #[.int .u8 (k : Int), .int .i64 (p : Int), .int .i64 (t : Int)] 31) = v2 := ⟨_, rfl⟩
        have HE2 : Hid (wr.alloc (.cells #[.int .u8 (k : Int), .int .i64 (p : Int), .int .i64 (t : Int)] 31) = v2) := e2
        have hX2 : Bx v2 wr.heap.size #[.int .u8 (k : Int), .int .i64 (p : Int), .int .i64 (t : Int)] 31 := by rw [← e2]; exact Bx.new _ _ _
        have hb2 : Below w4.heap.size w4 v2 := by rw [← e2]; exact HB.out.alloc HB.out.size _
        obtain ⟨X, F, hne, hF, onto⟩ := class_of (fun v => Below v2.heap.size v2 v) (Below.refl _ v2)
        have HF : Hid (∀ y, Below v2.heap.size v2 (F y)) := hF
        have HO : Hid (∀ v, Below v2.heap.size v2 v → ∃ x, v = F x) := fun v hv => by obtain ⟨x, hx⟩ := onto v hv; exact ⟨x, hx.symm⟩
        have f0 : ∀ y, (F y).cell? ⟨wr.heap.size, 0, none⟩ = some (.int .u8 (k : Int)) := fun y => (hX2.below (hF y) hX2.lt).cell 0
        have f1 : ∀ y, (F y).cell? ⟨wr.heap.size, 1, none⟩ = some (.int .i64 (p : Int)) := fun y => (hX2.below (hF y) hX2.lt).cell 1
        have f2 : ∀ y, (F y).cell? ⟨wr.heap.size, 2, none⟩ = some (.int .i64 (t : Int)) := fun y => (hX2.below (hF y) hX2.lt).cell 2
        have f3 : ∀ y, wr.heap.size < (F y).heap.size := fun y => Nat.lt_of_lt_of_le hX2.lt (hF y).size
        have HX2 : Hid (∀ v, Below v2.heap.size v2 v → Bx v wr.heap.size #[.int .u8 (k : Int), .int .i64 (p : Int), .int .i64 (t : Int)] 31 ∧ Below w4.heap.size w4 v) := fun v hv => ⟨hX2.below hv hX2.lt, hb2.trans (hv.mono hb2.size)⟩
        clear e2 hX2 hb2 hF onto hlg hself hnext n3 h6
        go_wp2_with fail
        rw [HE2.out]
        refine region_class F (by kernel_rfl) (by kernel_rfl) (by obtain ⟨x, hx⟩ := HO.out _ (Below.refl _ _).drew; exact ⟨x, hx.symm⟩) ?_
        repeat (go_big_quiet_step (first
          | (go_at_call 7; with_reducible refine (HEM.out _).mono ?_; rintro e w5 ⟨rfl, hb5⟩; exact ⟨rfl, HO.out _ ((HF.out _).trans (hb5.mono (HF.out _).size))⟩)))
        refine wpQuiet_nil ?_
        rintro _ ⟨nq, rfl⟩
        have hV := HF.out nq
        obtain ⟨V, hVe⟩ : ∃ V, F nq = V := ⟨_, rfl⟩
        rw [hVe] at hV ⊢
        have HVV : Hid (Below v2.heap.size v2 V) := hV
        obtain ⟨xV, bV⟩ := HX2.out V hV
        have HBV : Hid (Below w4.heap.size w4 V) := bV
        have d0 := xV.cell 0
        have d1 := xV.cell 1
        have d2 := xV.cell 2
        have dz := xV.lt
        simp at d0 d1 d2
        have hgV : g < V.heap.size := by have := HBV.out.size; have := HB.out.size; have := HVV.out.size; omega
        clear hVe hV xV bV f0 f1 f2 f3 c0 c1 c2 HF HO hne
        have HSZ : Hid ((s.extract p t).size ≤ 4294967280) := by unfold Hid; rw [ByteArray.size_extract]; omega
        have hpt' : (p : Int) ≤ (t : Int) := by omega
        have hts' : (t : Int) ≤ (s.size : Int) := by omega
        have hpc : (decide ((i : Int) > 0) = false ∧ decide (0 < i) = false) ∨ ((decide ((i : Int) > 0) = true ∧ decide (0 < i) = true) ∧ ((k : Int) == 0) = false) ∨ ((decide ((i : Int) > 0) = true ∧ decide (0 < i) = true) ∧ ((k : Int) == 0) = true ∧ ∃ (j : Nat) (kp : Int), (i : Int) - 1 = (j : Int) ∧ (j : Int) < (L.length : Int) ∧ (kp == 0) = false ∧ V.cell? ⟨g, o + j * 3, none⟩ = some (.int .u8 kp)) := by
          by_cases h0 : i = 0
          · left; simp [h0]
          · right
            have hd : decide ((i : Int) > 0) = true ∧ decide (0 < i) = true := by constructor <;> (rw [decide_eq_true_eq]; omega)
            by_cases hk0 : k = 0
            · right
              rcases HPV.out with h | ⟨kp, fp, tp, h1, h2⟩
              · exact absurd h h0
              · have hb : b = false := by
                  cases b with
                  | false => rfl
                  | true => exact absurd hk0 (hb0 rfl)
                refine ⟨hd, by simp [hk0], i - 1, kp, by omega, by omega, by rw [beq_eq_false_iff_ne]; exact h2 hb, ?_⟩
                exact (HLG.out V HBV.out (i - 1) _ h1).1
            · left
              exact ⟨hd, by rw [beq_eq_false_iff_ne]; omega⟩
        have hkc : (decide ((k : Int) > 1) = false ∧ decide (1 < k) = false) ∨ ((decide ((k : Int) > 1) = true ∧ decide (1 < k) = true) ∧ z = true) ∨ ((decide ((k : Int) > 1) = true ∧ decide (1 < k) = true) ∧ z = false ∧ 2 ≤ k ∧ k ≠ 6) := by
          by_cases h1 : 1 < k
          · right
            have hd : decide ((k : Int) > 1) = true ∧ decide (1 < k) = true := by constructor <;> (rw [decide_eq_true_eq]; omega)
            cases z with
            | true => exact .inl ⟨hd, rfl⟩
            | false =>
              refine .inr ⟨hd, rfl, h1, fun h => ?_⟩
              rw [beq_eq_false_iff_ne] at hz
              exact hz (by rw [HK6.out h])
          · left; constructor <;> (rw [decide_eq_false_iff_not]; omega)
        clear HPV hb0 hget
        rcases hkc with ⟨hk1, hk1'⟩ | ⟨⟨hk1, hk1'⟩, rfl⟩ | ⟨⟨hk1, hk1'⟩, rfl, hk2, hk6⟩
        · rcases hpc with ⟨q1, q1'⟩ | ⟨⟨q1, q1'⟩, q2⟩ | ⟨⟨q1, q1'⟩, q2, j, kp, q3, q4, q5, q6⟩
          all_goals
            go_wp2
            go_roundw
            case rel => exact ⟨i + 1, t, decide (k = 0), by omega, by go_num, rfl, HNX.out, HPX.out, HBV.out⟩
            case measure => simp [intOf]; omega
        · rcases hpc with ⟨q1, q1'⟩ | ⟨⟨q1, q1'⟩, q2⟩ | ⟨⟨q1, q1'⟩, q2, j, kp, q3, q4, q5, q6⟩
          all_goals
            go_wp2_with (go_at_call 7; (with_reducible refine (HEM.out V).mono ?_); rintro e w5 ⟨rfl, hb5⟩; obtain ⟨x5, b5⟩ := HX2.out w5 (HVV.out.trans (hb5.mono HVV.out.size)); have HV5 : Hid (Below w4.heap.size w4 w5) := b5; have HW5 : Hid (Below v2.heap.size v2 w5) := HVV.out.trans (hb5.mono HVV.out.size); have m0 := x5.cell 0; have m1 := x5.cell 1; have m2 := x5.cell 2; have mz := x5.lt; simp at m0 m1 m2; clear hb5 x5 b5)
            go_roundw
            case rel => exact ⟨i + 1, t, decide (k = 0), by omega, by go_num, rfl, HNX.out, HPX.out, HV5.out⟩
            case measure => simp [intOf]; omega
        · rcases hpc with ⟨q1, q1'⟩ | ⟨⟨q1, q1'⟩, q2⟩ | ⟨⟨q1, q1'⟩, q2, j, kp, q3, q4, q5, q6⟩
          all_goals
            go_wp2_with (first
              | (go_at_call 7; (with_reducible refine (HEM.out V).mono ?_); rintro e w5 ⟨rfl, hb5⟩; obtain ⟨x5, b5⟩ := HX2.out w5 (HVV.out.trans (hb5.mono HVV.out.size)); have HV5 : Hid (Below w4.heap.size w4 w5) := b5; have HW5 : Hid (Below v2.heap.size v2 w5) := HVV.out.trans (hb5.mono HVV.out.size); have m0 := x5.cell 0; have m1 := x5.cell 1; have m2 := x5.cell 2; have mz := x5.lt; simp at m0 m1 m2; clear hb5 x5 b5)
              | (go_at_call 8; (with_reducible refine (HKD.out w5 (HB4.out.trans (HV5.out.mono HB4.out.size)) (s.extract p t) k HSZ.out hk2 hk80 (HSF.out hk2 hk6)).mono ?_); rintro e w6 ⟨rfl, hb6⟩; obtain ⟨x6, b6⟩ := HX2.out w6 (HW5.out.trans (hb6.mono HW5.out.size)); have HV6 : Hid (Below w4.heap.size w4 w6) := b6; have r0 := x6.cell 0; have rz := x6.lt; simp at r0; clear hb6 x6 b6))
            go_roundw
            case rel => exact ⟨i + 1, t, decide (k = 0), by omega, by go_num, rfl, HNX.out, HPX.out, HV6.out⟩
            case measure => simp [intOf]; omega
      · have hge : ¬ (i : Int) < (L.length : Int) := by omega
        have hpe := chn_done HCN.out hlt
        subst hpe
        go_wp2
        go_ret
        exact ⟨by first | rfl | simp, HB4.out.trans (HB.out.mono HB4.out.size)⟩
end Go.Proofs.YthdfccdkomfikaaDoor
