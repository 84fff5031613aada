import Derived.Test.YtmnbakalcpanlaaGreatDoorLm1
namespace Go.Proofs.YtmnbakalcpanlaaGreatDoor
open Go.ChangeShapes Go.WideShapes Go.ChangeAt Go.RowKit Go.Maps Go.WideMaps
set_option linter.unusedVariables false
set_option linter.unusedSimpArgs false

theorem kw_map : ∀ k, IsMap (KW k)
  | 0 => ⟨[], rfl⟩
  | k + 1 => by
    obtain ⟨l, h⟩ := kw_map k
    rw [KW, h]
    exact ⟨_, rfl⟩
theorem wds_one : ∀ i k, i < 25 → k < 25 → wds.getD i [] = wds.getD k [] → i = k := by
  have : ∀ i, i < 25 → ∀ k, k < 25 → wds.getD i [] = wds.getD k [] → i = k := by decide
  exact fun i k hi hk => this i hi k hk
theorem kw_none (l : List UInt8) (z : DataW Unit) : ∀ n, n ≤ 25 → (∀ i, i < n → wds.getD i [] ≠ l) → (KW n).atKey (.string l) z = z
  | 0, _, _ => rfl
  | n + 1, hn, h => by
    rw [KW, atKey_put_other (fun e => h n (by omega) (Lit.string.inj e).symm)]
    exact kw_none l z n (by omega) (fun i hi => h i (by omega))
theorem kw_some (z : DataW Unit) : ∀ n i, n ≤ 25 → i < n → (KW n).atKey (.string (wds.getD i [])) z = .lit (.int .u8 ((7 + i : Nat) : Int))
  | 0, i, _, hi => by omega
  | n + 1, i, hn, hi => by
    rw [KW]
    by_cases h : i = n
    · subst h
      rw [atKey_put_same (kw_map i) (show WideAt.IsKeyLit (.string _) from trivial)]
    · rw [atKey_put_other (fun e => h (wds_one i n (by omega) (by omega) (Lit.string.inj e)))]
      exact kw_some z n i (by omega) (by omega)
theorem kwd_hit {l : List UInt8} {i : Nat} (hi : i < 25) (h : wds.getD i [] = l) : kwd l = 7 + i := by
  have : ∀ i, i < 25 → kwd (wds.getD i []) = 7 + i := by decide
  rw [← h]; exact this i hi
theorem kwd_miss {l : List UInt8} (h : ∀ i, i < 25 → wds.getD i [] ≠ l) : kwd l = 2 := by
  unfold kwd
  have : wds.idxOf? l = none := by
    rw [List.idxOf?_eq_none_iff]
    intro hm
    obtain ⟨i, hi, e⟩ := List.getElem_of_mem hm
    exact h i hi (by rw [List.getD_eq_getElem?_getD, List.getElem?_eq_getElem hi]; simpa using e)
  rw [this]
theorem kwd_lt (l : List UInt8) : kwd l < 32 := by
  by_cases h : ∃ i, i < 25 ∧ wds.getD i [] = l
  · obtain ⟨i, hi, e⟩ := h
    rw [kwd_hit hi e]; omega
  · rw [kwd_miss (fun i hi e => h ⟨i, hi, e⟩)]; omega
theorem zeroK (w : World) : (zeroValue 48).run Tryz.prog w = .ok (.int .u8 0) w := by kernel_rfl
theorem look_kw (M : Nat) (t : ByteArray) (ht : t.size ≤ maxLen) :
    ∃ (c : Nat) (k : Bool), c < 256 ∧ (∀ w : World, w.ownsMap Tryz.prog 9 (plainElem (H := Unit) Tryz.prog 48) M 25 (KW 25) → (Instr.lookup 60 (.map (some M)) (.string t) true).run Tryz.prog w = .ok (.tuple #[.int .u8 (c : Int), .bool k]) w) ∧ ((k = true ∧ c = kwd t.data.toList) ∨ (k = false ∧ kwd t.data.toList = 2)) := by
  have key : ∀ (c : Nat) (k : Bool), (∀ z, k = true → (KW 25).atKey (.string t.data.toList) z = .lit (.int .u8 (c : Int))) → (∀ z, k = false → (KW 25).atKey (.string t.data.toList) z = z) → (k = false → c = 0) → ∀ w : World, w.ownsMap Tryz.prog 9 (plainElem (H := Unit) Tryz.prog 48) M 25 (KW 25) → (Instr.lookup 60 (.map (some M)) (.string t) true).run Tryz.prog w = .ok (.tuple #[.int .u8 (c : Int), .bool k]) w := by
    intro c k h1 h2 h3 w h
    obtain ⟨v, ps, hrun, hv⟩ := h.look_ok lawS Tryz.underlying60 (zeroK w) (plainElem_int (q := .u8) (a := 0) Tryz.underlying48 (by decide)) (keyOf_string_mk Tryz.underlying9 ht)
    cases k with
    | true =>
      have hat := fun z => h1 z rfl
      rw [has_true_of_atKey hat] at hrun
      rw [hat] at hv
      obtain ⟨d, rfl, hc, -⟩ := plainElem_int_inv Tryz.underlying48 hv
      have hc2 : d = (c : Int) := by
        have := congrArg Prod.fst hc
        simp at this
        omega
      rw [hc2] at hrun
      exact hrun
    | false =>
      have hat := fun z => h2 z rfl
      rw [has_false_of_atKey hat] at hrun
      rw [hat] at hv
      obtain ⟨d, rfl, hc, -⟩ := plainElem_int_inv Tryz.underlying48 hv
      have hc2 : d = 0 := by
        have := congrArg Prod.fst hc
        simp at this
        omega
      rw [hc2] at hrun
      rw [h3 rfl]
      exact hrun
  by_cases hh : ∃ i, i < 25 ∧ wds.getD i [] = t.data.toList
  · obtain ⟨i, hi, e⟩ := hh
    have hat : ∀ z, (KW 25).atKey (.string t.data.toList) z = .lit (.int .u8 ((7 + i : Nat) : Int)) := fun z => by rw [← e]; exact kw_some z 25 i (by omega) hi
    exact ⟨7 + i, true, by omega, key _ _ (fun z _ => hat z) (fun _ h => by cases h) (fun h => by cases h), .inl ⟨rfl, (kwd_hit hi e).symm⟩⟩
  · have hm : ∀ i, i < 25 → wds.getD i [] ≠ t.data.toList := fun i hi e => hh ⟨i, hi, e⟩
    have hat : ∀ z, (KW 25).atKey (.string t.data.toList) z = z := fun z => kw_none _ z 25 (by omega) hm
    exact ⟨0, false, by omega, key _ _ (fun _ h => by cases h) (fun z _ => hat z) (fun _ => rfl), .inr ⟨rfl, kwd_miss hm⟩⟩

set_option maxRecDepth 1000000 in
set_option maxHeartbeats 4000000 in
theorem name_any (b : Nat) (s : ByteArray) (p : Nat) (hs : s.size ≤ 4294967280) (hp : p < s.size) (M : Nat) (w : World) (hb : w.cell? ⟨b, 0, none⟩ = some (.string s)) (hm : w.cell? ⟨b, 2, none⟩ = some (.map (some M))) (hO : w.ownsMap Tryz.prog 9 (plainElem (H := Unit) Tryz.prog 48) M 25 (KW 25)) (hT : Lt w) :
    Calls Tryz.prog 33 #[.pointer (some ⟨b, 0, none⟩), .int .i64 (p : Int)] w fun e w' => e = .returned (.tuple #[tokV p (nmP s p), fltV (nmP s p)]) ∧ Below w.heap.size w w' := by
  have HM : Hid (∀ v, Below w.heap.size w v → v.cell? ⟨b, 2, none⟩ = some (.map (some M)) ∧ v.ownsMap Tryz.prog 9 (plainElem (H := Unit) Tryz.prog 48) M 25 (KW 25)) := fun v hv => ⟨(hv.cell (p := ⟨b, 2, none⟩) (World.block_lt_of_cell? _ _ hm)).trans hm, ownsMap_below hO hv (ownsMap_lt hO)⟩
  have HT : Hid (∀ v, Below w.heap.size w v → Lt v) := fun v hv => hT.below hv
  clear hm hO hT
  have hbl : b < w.heap.size := World.block_lt_of_cell? _ _ hb
  have hp' : (p : Int) < (s.size : Int) := by omega
  obtain ⟨w2, e2, hw, hs2, hX⟩ := start2 w b s hb
  have HE2 : Hid ((w.alloc (.cells #[.int .u8 0, .int .i64 0, .int .i64 0] 50)).alloc (.cells #[.int .i64 0, .int .i64 0, .int .i64 0] 26) = w2) := e2
  have HX : Hid (∀ v, Below w2.heap.size w2 v → Bx v w.heap.size #[.int .u8 0, .int .i64 0, .int .i64 0] 50 ∧ Bx v (w.heap.size + 1) #[.int .i64 0, .int .i64 0, .int .i64 0] 26 ∧ v.cell? ⟨b, 0, none⟩ = some (.string s) ∧ b < v.heap.size ∧ Below w.heap.size w v) := hX
  have HW2 : Hid (Below w.heap.size w w2) := hw
  obtain ⟨-, -, c2, b2, -⟩ := hX w2 (Below.refl _ _)
  have HR : Hid (Calls Tryz.prog 54 #[.pointer (some ⟨b, 0, none⟩), .int .i64 (p : Int)] w2 fun e w' => e = .returned (.int .i64 (rnE s p : Nat)) ∧ Below w2.heap.size w2 w') := runEnd_any b s p hs hp w2 c2 (HT.out w2 hw)
  clear e2 hw hX hb
  obtain ⟨hl1, hl2⟩ := rnE_le s (s.size - p) p (Nat.le_refl _) (by omega)
  have hNP : nmP s p = if 200 < rnE s p - p then .no 24 p else .ok (kwd (s.extract p (rnE s p)).data.toList) (rnE s p) := rfl
  rw [hNP]
  obtain ⟨E, hE⟩ : ∃ E, rnE s p = E := ⟨_, rfl⟩
  rw [hE] at HR hl1 hl2 ⊢
  clear hE hNP
  have hE1 : (p : Int) ≤ (E : Int) := by omega
  have hE2 : (E : Int) ≤ (s.size : Int) := by omega
  by_cases hlong : 200 < E - p
  · rw [if_pos hlong]
    have hl' : (E : Int) - (p : Int) > 200 := by omega
    go_enter Tryz.func33, Tryz.ntmps33
    go_upto_region 1 with fail
    rw [HE2.out]
    go_wp2_with (first
      | (go_at_call 54; (with_reducible refine HR.out.mono ?_); rintro e w3 ⟨rfl, hb3⟩; have HB3 : Hid (Below w2.heap.size w2 w3) := hb3; clear hb3)
      | (go_at_call 22; (with_reducible refine (faultAt_any _ _ _).mono ?_); rintro e w4 ⟨rfl, hb4⟩; obtain ⟨Y0, Y1, -, -, HWv⟩ := HX.out w4 (HB3.out.trans (hb4.mono HB3.out.size)); have HW4 : Hid (Below w.heap.size w w4) := HWv; have HY0 : Hid (Bx w4 w.heap.size #[.int .u8 0, .int .i64 0, .int .i64 0] 50) := Y0; have HY1 : Hid (Bx w4 (w.heap.size + 1) #[.int .i64 0, .int .i64 0, .int .i64 0] 26) := Y1; obtain ⟨z0, z1, z2, z3, z4, z5, zf, zh⟩ := two_of Y0 Y1; have f0 := zf 0; have f1 := zf 1; have f2 := zf 2; have h0 := zh 0; have h1 := zh 1; have h2 := zh 2; clear HWv Y0 Y1 zf zh; clear hb4))
    obtain ⟨r0, r1, r2, r3, r4, r5⟩ := two_boxes HY0.out HY1.out (.int .u8 0) (.int .i64 0) (.int .i64 0) (.int .i64 24) (.int .i64 0) (.int .i64 (p : Int))
    refine bodyPost_ret (v := .tuple #[.agg #[.int .u8 0, .int .i64 0, .int .i64 0], .agg #[.int .i64 24, .int .i64 0, .int .i64 (p : Int)]]) (by simp [results, Tryz.results33, go_sem, r0, r1, r2, r3, r4, r5]) rfl ⟨rfl, bel_two HW4.out (Nat.le_refl _)⟩
  · rw [if_neg hlong]
    have hl' : ¬ (E : Int) - (p : Int) > 200 := by omega
    have hts : (s.extract p E).size ≤ maxLen := by rw [ByteArray.size_extract]; unfold maxLen; omega
    obtain ⟨c, k, hc, hlkA, hk⟩ := look_kw M (s.extract p E) hts
    have HLK : Hid (∀ v, Below w.heap.size w v → ∀ n, (Instr.lookup 60 (.map (some M)) (.string (s.extract p E)) true).run Tryz.prog (v.drewN n) = .ok (.tuple #[.int .u8 (c : Int), .bool k]) (v.drewN n)) := fun v hv n => hlkA (v.drewN n) (HM.out v hv).2
    have HKD : Hid ((k = true ∧ c = kwd (s.extract p E).data.toList) ∨ (k = false ∧ kwd (s.extract p E).data.toList = 2)) := hk
    have HKL : Hid (kwd (s.extract p E).data.toList < 32) := kwd_lt _
    clear hlkA hk
    obtain ⟨K, hK⟩ : ∃ K, kwd (s.extract p E).data.toList = K := ⟨_, rfl⟩
    rw [hK] at HKD HKL ⊢
    clear hK
    go_enter Tryz.func33, Tryz.ntmps33
    go_upto_region 1 with fail
    rw [HE2.out]
    go_wp2_with (go_at_call 54; (with_reducible refine HR.out.mono ?_); rintro e w3 ⟨rfl, hb3⟩; have HB3 : Hid (Below w2.heap.size w2 w3) := hb3; clear hb3)
    obtain ⟨-, -, c3, b3, HWv3⟩ := HX.out w3 HB3.out
    have m3 := (HM.out w3 HWv3).1
    have hlk := HLK.out w3 HWv3
    clear HLK HWv3
    go_quiet (fail)
    clear hlk c3 m3
    have HB5 : Hid (Below w2.heap.size w2 (w3.drewN nq)) := ⟨HB3.out.os, HB3.out.tape, HB3.out.output, HB3.out.size, HB3.out.block⟩
    obtain ⟨Y0, Y1, -, -, HWv⟩ := HX.out (w3.drewN nq) HB5.out
    have HW4 : Hid (Below w.heap.size w (w3.drewN nq)) := HWv
    have HY0 : Hid (Bx (w3.drewN nq) w.heap.size #[.int .u8 0, .int .i64 0, .int .i64 0] 50) := Y0
    have HY1 : Hid (Bx (w3.drewN nq) (w.heap.size + 1) #[.int .i64 0, .int .i64 0, .int .i64 0] 26) := Y1
    obtain ⟨z0, z1, z2, z3, z4, z5, zf, zh⟩ := two_of Y0 Y1
    have f0 := zf 0
    have f1 := zf 1
    have f2 := zf 2
    have h0 := zh 0
    have h1 := zh 1
    have h2 := zh 2
    clear HWv Y0 Y1 zf zh
    generalize w3.drewN nq = w5 at *
    cases k with
    | true =>
      have hcK : c = K := by rcases HKD.out with h | h <;> simp_all
      subst hcK
      go_wp2
      obtain ⟨r0, r1, r2, r3, r4, r5⟩ := two_boxes HY0.out HY1.out (.int .u8 (c : Int)) (.int .i64 (p : Int)) (.int .i64 (E : Int)) (.int .i64 0) (.int .i64 0) (.int .i64 0)
      refine bodyPost_ret (v := .tuple #[.agg #[.int .u8 (c : Int), .int .i64 (p : Int), .int .i64 (E : Int)], .agg #[.int .i64 0, .int .i64 0, .int .i64 0]]) (by simp [results, Tryz.results33, go_sem, r0, r1, r2, r3, r4, r5]) rfl ⟨rfl, bel_two HW4.out (Nat.le_refl _)⟩
    | false =>
      have hcK : K = 2 := by rcases HKD.out with h | h <;> simp_all
      subst hcK
      go_wp2
      obtain ⟨r0, r1, r2, r3, r4, r5⟩ := two_boxes HY0.out HY1.out (.int .u8 2) (.int .i64 (p : Int)) (.int .i64 (E : Int)) (.int .i64 0) (.int .i64 0) (.int .i64 0)
      refine bodyPost_ret (v := .tuple #[.agg #[.int .u8 2, .int .i64 (p : Int), .int .i64 (E : Int)], .agg #[.int .i64 0, .int .i64 0, .int .i64 0]]) (by simp [results, Tryz.results33, go_sem, r0, r1, r2, r3, r4, r5]) rfl ⟨rfl, bel_two HW4.out (Nat.le_refl _)⟩
end Go.Proofs.YtmnbakalcpanlaaGreatDoor
