import Derived.Test.YtphejjghgalkpaaDoorTm2
namespace Go.Proofs.YtphejjghgalkpaaDoor
open Go.ChangeShapes Go.WideShapes Go.ChangeAt Go.RowKit Go.Maps Go.WideMaps
set_option linter.unusedVariables false
set_option linter.unusedSimpArgs false

theorem insT_snoc (c : UInt8) : ∀ (l : List UInt8) (T : List Tn) (i : Nat), insT T i (l ++ [c]) = growT (insT T i l).1 (insT T i l).2 c.toNat
  | [], T, i => rfl
  | d :: l, T, i => by
    show insT (growT T i d.toNat).1 (growT T i d.toNat).2 (l ++ [c]) = _
    rw [insT_snoc c l]
    rfl
theorem spl_mk (n : Nat) (h : n < 48) : spl.getD (32 + n) [] = mks.getD n [] := by
  have : ∀ n, n < 48 → spl.getD (32 + n) [] = mks.getD n [] := by decide
  exact this n h
theorem mk_short (n : Nat) (h : n < 48) : (mks.getD n []).length ≤ 3 := by
  have : ∀ n, n < 48 → (mks.getD n []).length ≤ 3 := by decide
  exact this n h

set_option maxRecDepth 1000000 in
set_option maxHeartbeats 8000000 in
theorem markTree_any (w : World) (hS : Spl w) :
    Calls Tryd.prog 66 #[] w fun e w' => ∃ A V, e = .returned (ptrT A 0) ∧ A 0 = w.heap.size ∧ Tre w' w.heap.size (mkT 48) A V ∧ Below w.heap.size w w' := by
  have HS : Hid (∀ v, Below w.heap.size w v → Spl v) := fun v hv => hS.below hv
  clear hS
  go_enter Tryd.func66, Tryd.ntmps66
  go_wp2
  go_loopw [2] (fun si wr => ∃ (n N : Nat) (A : Nat → Nat) (V : Nat → Value), n ≤ 48 ∧ si = .int .u8 (N : Int) ∧ N = 32 + n ∧ A 0 = w.heap.size ∧ 0 < (mkT n).length ∧ (mkT n).length ≤ 1 + 3 * n ∧ Tre wr w.heap.size (mkT n) A V ∧ Below w.heap.size w wr) (fun si _ => 80 - (intOf si).toNat)
  case atStart =>
    refine ⟨0, 32, fun _ => w.heap.size, fun _ => .slice none 0 0, Nat.zero_le _, rfl, rfl, rfl, by decide, by decide, ?_, (Below.refl _ w).alloc (Nat.le_refl _) _⟩
    have one : ∀ i t, (mkT 0)[i]? = some t → i = 0 ∧ t = tz := by
      intro i t hi
      match i with
      | 0 => exact ⟨rfl, (Option.some.inj hi).symm⟩
      | i + 1 => cases hi
    refine ⟨?_, ?_, ?_, ?_, ?_, ?_⟩
    · intro i t hi
      obtain ⟨rfl, rfl⟩ := one i t hi
      exact ⟨Nat.le_refl _, Bx.new _ _ _⟩
    · intro i t hi
      obtain ⟨rfl, rfl⟩ := one i t hi
      exact World.ownsRow_nil _ _ _ _
    · intro i j hi hj _
      simp [mkT] at hi hj
      omega
    · intro i j hi hj hne
      simp [mkT] at hi hj
      omega
    · intro i t hi
      obtain ⟨rfl, rfl⟩ := one i t hi
      intro j hj
      cases hj
    · intro i t hi
      obtain ⟨rfl, rfl⟩ := one i t hi
      exact ⟨by decide, by decide, by decide⟩
  case round =>
    obtain ⟨n, N, A, V, hn, rfl, hN, hA0, hT0, hTl, htre, hbel⟩ := hrel
    have HN : Hid (N = 32 + n) := hN
    have HB : Hid (Below w.heap.size w wr) := hbel
    have HT : Hid (Tre wr w.heap.size (mkT n) A V) := htre
    have HA0 : Hid (A 0 = w.heap.size) := hA0
    clear htre hbel hA0
    by_cases hlt : n < 48
    · have hle : (N : Int) ≤ 79 := by omega
      have hN80 : N < 80 := by omega
      have hd79 : decide ((N : Int) ≤ 79) = true := by simp; omega
      have hms := mk_short n hlt
      obtain ⟨m, hm⟩ : ∃ m, mks.getD n [] = m := ⟨_, rfl⟩
      have HSC : Hid (∀ v, Below w.heap.size w v → v.cell? ⟨0, N, none⟩ = some (.string ⟨m.toArray⟩) ∧ 0 < v.heap.size) := fun v hv => by
        have h := (HS.out v hv).2 (32 + n) (by omega)
        rw [spl_mk n hlt, hm, ← hN] at h
        exact ⟨h, (HS.out v hv).1⟩
      rw [hm] at hms
      obtain ⟨c0, g0⟩ := HSC.out wr HB.out
      have HMK : Hid (mkT (n + 1) = setK (insT (mkT n) 0 m).1 (insT (mkT n) 0 m).2 (32 + n)) := by unfold Hid; rw [← hm]; rfl
      have hzs : (⟨m.toArray⟩ : ByteArray).size = m.length := by show m.toArray.size = _; simp
      have hzi : ∀ j (h : j < (⟨m.toArray⟩ : ByteArray).size) (h2 : j < m.length), (⟨m.toArray⟩ : ByteArray)[j]'h = m[j]'h2 := fun j h h2 => rfl
      obtain ⟨S, hSS⟩ : ∃ S : ByteArray, ⟨m.toArray⟩ = S := ⟨_, rfl⟩
      rw [hSS] at hzs c0 HSC
      have HZI : Hid (∀ j (h : j < S.size) (h2 : j < m.length), S[j]'h = m[j]'h2) := by subst hSS; exact hzi
      clear hzi hSS hm hN
      go_wp2
      go_loopw [3, 16] (fun s3 si wi => ∃ (i P : Nat) (A : Nat → Nat) (V : Nat → Value), i ≤ m.length ∧ s3 = .pointer (some ⟨P, 0, none⟩) ∧ P = A (insT (mkT n) 0 (m.take i)).2 ∧ si = .int .i64 (i : Int) ∧ A 0 = w.heap.size ∧ (insT (mkT n) 0 (m.take i)).2 < (insT (mkT n) 0 (m.take i)).1.length ∧ (insT (mkT n) 0 (m.take i)).1.length ≤ 1 + 3 * n + i ∧ Tre wi w.heap.size (insT (mkT n) 0 (m.take i)).1 A V ∧ Below w.heap.size w wi) (fun _ si _ => m.length - (intOf si).toNat)
      case atStart => exact ⟨0, w.heap.size, A, V, Nat.zero_le _, rfl, HA0.out.symm, rfl, HA0.out, hT0, by show (mkT n).length ≤ _; omega, HT.out, HB.out⟩
      case round =>
        clear HT HB HA0 c0 g0 hT0 hTl hd79
        obtain ⟨i, P, A, V, hi, rfl, hP, rfl, hA0, hG2, hGl, htre, hbel⟩ := hrel
        have HB : Hid (Below w.heap.size w wr) := hbel
        have HT : Hid (Tre wr w.heap.size (insT (mkT n) 0 (m.take i)).1 A V) := htre
        have HA0 : Hid (A 0 = w.heap.size) := hA0
        have HP : Hid (P = A (insT (mkT n) 0 (m.take i)).2) := hP
        obtain ⟨t, ht⟩ : ∃ t, (insT (mkT n) 0 (m.take i)).1[(insT (mkT n) 0 (m.take i)).2]? = some t := ⟨_, List.getElem?_eq_getElem hG2⟩
        have HTT : Hid ((insT (mkT n) 0 (m.take i)).1[(insT (mkT n) 0 (m.take i)).2]? = some t) := ht
        obtain ⟨c0, g0⟩ := HSC.out wr hbel
        clear hbel htre hA0 hP ht
        by_cases hil : i < m.length
        · have hil' : (i : Int) < (m.length : Int) := by omega
          have hil2 : (i : Int) < (S.size : Int) := by omega
          have hiS : i < S.size := by omega
          obtain ⟨c, hc⟩ : ∃ c, (S[i]'hiS).toNat = c := ⟨_, rfl⟩
          have hci : (m[i]'hil).toNat = c := by rw [← HZI.out i hiS hil, hc]
          have hc256 : c < 256 := by rw [← hc]; exact (S[i]'hiS).toNat_lt
          have hsn : m.take (i + 1) = m.take i ++ [m[i]'hil] := by rw [List.take_add_one, List.getElem?_eq_getElem hil]; rfl
          have HST : Hid (insT (mkT n) 0 (m.take (i + 1)) = growT (insT (mkT n) 0 (m.take i)).1 (insT (mkT n) 0 (m.take i)).2 c) := by unfold Hid; rw [hsn, insT_snoc, hci]
          have HGR : Hid (Calls Tryd.prog 76 #[.pointer (some ⟨P, 0, none⟩), .int .u8 (c : Int)] wr fun e w' => ∃ A' V', e = .returned (ptrT A' (growT (insT (mkT n) 0 (m.take i)).1 (insT (mkT n) 0 (m.take i)).2 c).2) ∧ Tre w' w.heap.size (growT (insT (mkT n) 0 (m.take i)).1 (insT (mkT n) 0 (m.take i)).2 c).1 A' V' ∧ Ext A A' (insT (mkT n) 0 (m.take i)).1.length ∧ (growT (insT (mkT n) 0 (m.take i)).1 (insT (mkT n) 0 (m.take i)).2 c).2 < (growT (insT (mkT n) 0 (m.take i)).1 (insT (mkT n) 0 (m.take i)).2 c).1.length ∧ (insT (mkT n) 0 (m.take i)).1.length ≤ (growT (insT (mkT n) 0 (m.take i)).1 (insT (mkT n) 0 (m.take i)).2 c).1.length ∧ (growT (insT (mkT n) 0 (m.take i)).1 (insT (mkT n) 0 (m.take i)).2 c).1.length ≤ (insT (mkT n) 0 (m.take i)).1.length + 1 ∧ Below w.heap.size wr w') := by
            have h := grown_any w.heap.size (insT (mkT n) 0 (m.take i)).1 A V (insT (mkT n) 0 (m.take i)).2 c t HTT.out hc256 (by omega) wr HB.out.size HT.out
            unfold Hid
            rw [HP.out]
            exact h
          rw [← HST.out] at HGR
          obtain ⟨G0, hG0⟩ : ∃ G, insT (mkT n) 0 (m.take i) = G := ⟨_, rfl⟩
          obtain ⟨G1, hG1⟩ : ∃ G, insT (mkT n) 0 (m.take (i + 1)) = G := ⟨_, rfl⟩
          have HG1 : Hid (insT (mkT n) 0 (m.take (i + 1)) = G1) := hG1
          rw [hG0] at hG2 hGl HGR
          rw [hG1] at HGR
          clear hsn HST hci HTT HT HP hG0 hG1
          go_wp2_with (go_at_call 76; (with_reducible refine HGR.out.mono ?_); rintro e w5 ⟨A5, V5, rfl, ht5, he5, hg5, hm5, hl5, hb5⟩; have HT5 : Hid (Tre w5 w.heap.size G1.1 A5 V5) := ht5; have HE5 : Hid (Ext A A5 G0.1.length) := he5; have HB5 : Hid (Below w.heap.size w w5) := HB.out.trans hb5; clear ht5 he5 hb5)
          go_roundw
          case rel => exact ⟨i + 1, A5 G1.2, A5, V5, by omega, rfl, by rw [HG1.out], by go_num, (HE5.out 0 (by omega)).trans HA0.out, by rw [HG1.out]; exact hg5, by rw [HG1.out]; omega, by rw [HG1.out]; exact HT5.out, HB5.out⟩
          case measure => simp [intOf]; omega
        · have hie : m.take i = m := List.take_of_length_le (by omega)
          have hil' : ¬ (i : Int) < (m.length : Int) := by omega
          rw [hie] at hG2 hGl HT HP HTT
          have hX := (HT.out.box _ t HTT.out).2
          rw [← HP.out] at hX
          have y1 := hX.cell 1
          have f1 := hX.free 1
          have hPl := hX.lt
          simp at y1
          obtain ⟨k1, k2⟩ := HT.out.kind (k := 32 + n) HTT.out (by omega)
          rw [← HP.out, ← HN.out] at k1 k2
          have HK1 : Hid (Tre (wr.setCell ⟨P, 1, none⟩ (.int .u8 (N : Int))) w.heap.size (mkT (n + 1)) A V) := by unfold Hid; rw [HMK.out, ← HN.out]; exact k1
          have HK2 : Hid (Below w.heap.size w (wr.setCell ⟨P, 1, none⟩ (.int .u8 (N : Int)))) := HB.out.trans k2
          have hlen : (mkT (n + 1)).length = (insT (mkT n) 0 m).1.length := by rw [HMK.out]; simp [setK]
          clear k1 k2 hX
          go_wp2
          go_roundw
          case rel => exact ⟨n + 1, N + 1, A, V, by omega, by go_num, by have := HN.out; omega, HA0.out, by omega, by omega, HK1.out, HK2.out⟩
          case measure => simp [intOf]; omega
    · have hn48 : n = 48 := by omega
      subst hn48
      have hgt : ¬ (N : Int) ≤ 79 := by omega
      go_wp2
      go_ret
      exact ⟨A, by simp [ptrT, HA0.out], HA0.out, ⟨V, HT.out⟩, HB.out⟩
end Go.Proofs.YtphejjghgalkpaaDoor
