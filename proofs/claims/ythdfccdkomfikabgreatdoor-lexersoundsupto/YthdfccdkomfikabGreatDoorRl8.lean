import Derived.Test.YthdfccdkomfikabGreatDoorRl6
import Derived.Test.YthdfccdkomfikabGreatDoorRl7
namespace Go.Proofs.YthdfccdkomfikabGreatDoor
open Go.ChangeShapes Go.WideShapes Go.ChangeAt Go.RowKit Go.Maps Go.WideMaps
set_option linter.unusedVariables false
set_option linter.unusedSimpArgs false

theorem infoPB : (Tryz.prog.info? 110).map (fun i => (i.zero, i.size, i.bytes)) = some (some (.pointer none), 1, 8) := by kernel_rfl
/-- trees of the same nodes' places, as far as the first of them -/
def Ext (A A' : Nat → Nat) (n : Nat) : Prop := ∀ j, j < n → A' j = A j

set_option maxRecDepth 1000000 in
set_option maxHeartbeats 4000000 in
theorem grown_any (B : Nat) (T : List Tn) (A : Nat → Nat) (V : Nat → Value) (i c : Nat) (t : Tn) (hi : T[i]? = some t) (hc : c < 256) (hl : T.length ≤ 1000) (w : World) (hB : B ≤ w.heap.size) (h : Tre w B T A V) :
    Calls Tryz.prog 109 #[.pointer (some ⟨A i, 0, none⟩), .int .u8 (c : Int)] w fun e w' => ∃ A' V', e = .returned (ptrT A' (growT T i c).2) ∧ Tre w' B (growT T i c).1 A' V' ∧ Ext A A' T.length ∧ (growT T i c).2 < (growT T i c).1.length ∧ T.length ≤ (growT T i c).1.length ∧ (growT T i c).1.length ≤ T.length + 1 ∧ Below B w w' := by
  obtain ⟨i0, hif, hz0, hz1, hz2⟩ := info_parts infoPB
  have hX := (h.box i t hi).2
  have hAi := hX.lt
  have x2 := hX.cell 2
  simp at x2
  have f2 := hX.free 2
  have HON : Hid (Calls Tryz.prog 93 #[.pointer (some ⟨A i, 0, none⟩), .int .u8 (c : Int)] w fun e w' => e = .returned (ptrO A (onT T i c)) ∧ w' = w) := on_any B T A V i c t hi hc hl w h
  cases hO : onT T i c with
  | some j =>
    have hg : growT T i c = (T, j) := by unfold growT; rw [hO]
    rw [hO] at HON
    have HON' : Hid (Calls Tryz.prog 93 #[.pointer (some ⟨A i, 0, none⟩), .int .u8 (c : Int)] w fun e w' => e = .returned (.pointer (some ⟨A j, 0, none⟩)) ∧ w' = w) := HON
    have hj : j < T.length := by
      unfold onT at hO
      rw [getD_of hi] at hO
      exact h.kid i t hi j (List.mem_of_find?_eq_some hO)
    rw [hg]
    have H : Hid (Tre w B T A V) := h
    clear HON hO hg h
    go_enter Tryz.func109, Tryz.ntmps109
    go_wp2_with (go_at_call 93; (with_reducible refine HON'.out.mono ?_); rintro e w3 ⟨rfl, hw3⟩; subst hw3)
    go_ret
    exact ⟨A, V, rfl, H.out, fun _ _ => rfl, hj, Nat.le_refl _, by simp, Below.refl _ _⟩
  | none =>
    have hg : growT T i c = (newT T i c, T.length) := by unfold growT; rw [hO]
    rw [hO] at HON
    have HON' : Hid (Calls Tryz.prog 93 #[.pointer (some ⟨A i, 0, none⟩), .int .u8 (c : Int)] w fun e w' => e = .returned (.pointer none) ∧ w' = w) := HON
    rw [hg]
    have H : Hid (Tre w B T A V) := h
    have hr := h.row i t hi
    have HR : Hid (w.ownsRow B 110 1 (V i) t.ch.length (t.ch.map (ptrT A))) := hr
    have hlim := (h.lim i t hi).2.2
    have hne := h.ne hi hr
    obtain ⟨v, hv⟩ : ∃ v, V i = v := ⟨_, rfl⟩
    have HV : Hid (V i = v) := hv
    rw [hv] at x2 HR hne
    have HNE : Hid (v.ownBlock ≠ some (A i)) := hne
    have HX : Hid (Bx w (A i) #[.int .u8 (t.f : Int), .int .u8 (t.k : Int), v] 142) := by unfold Hid; rw [← hv]; exact hX
    clear HON hO hg h hr hv hX hne
    go_enter Tryz.func109, Tryz.ntmps109
    go_wp2_with (first
      | (go_at_call 93; (with_reducible refine HON'.out.mono ?_); rintro e w3 ⟨rfl, hw3⟩; subst hw3)
      | (at_builtin; (refine wpList_append_at _ rfl (.tmp 20) (.tmp 22) 140 rfl B 110 i0 (.pointer none) 1 8 Tryz.underlying140 hif hz0 hz1 hz2 rfl (by decide) _ t.ch.length (t.ch.map (ptrT A)) rfl ((HR.out.alloc _).alloc _) (some ⟨w3.heap.size + 1, 0, none⟩) 1 1 [.pointer (some ⟨w3.heap.size, 0, none⟩)] rfl rfl (fun h => by cases h) (fun ad had => by cases had; have := cells_new (w3.alloc (.cells #[.int .u8 (c : Int), .int .u8 0, .slice none 0 0] 142)) [.pointer (some ⟨w3.heap.size, 0, none⟩)] 110; simpa using this) (fun u hu => by simp at hu; subst hu; rfl) (by unfold maxLen; omega) (by omega) (by simp; omega) ?_); intro v5 w5 ho5 hg5 hv5; obtain ⟨g5, k5, rfl⟩ : ∃ g k, v5 = .slice (some ⟨g, 0, none⟩) (t.ch.length + 1) k := (by rcases ho5.2 with ⟨-, e⟩ | ⟨g, k, cur, e, -⟩; omega; exact ⟨g, k, e⟩); have HO5 : Hid (w5.ownsRow B 110 1 (.slice (some ⟨g5, 0, none⟩) (t.ch.length + 1) k5) (t.ch.length + 1) (t.ch.map (ptrT A) ++ [.pointer (some ⟨w3.heap.size, 0, none⟩)])) := ho5; have HG5 : Hid (((w3.alloc (.cells #[.int .u8 (c : Int), .int .u8 0, .slice none 0 0] 142)).alloc (.cells #[.pointer (some ⟨w3.heap.size, 0, none⟩)] 110)).grownBy w5 v.ownBlock) := hg5; have HV5 : Hid ((Value.slice (some ⟨g5, 0, none⟩) (t.ch.length + 1) k5).ownBlock = v.ownBlock ∨ (Value.slice (some ⟨g5, 0, none⟩) (t.ch.length + 1) k5).ownBlock = some (w3.heap.size + 2)) := (by unfold Hid; rcases hv5 with e | e; exact .inl e; exact .inr (e.trans (by simp))); have HX5 : Hid (Bx w5 (A i) #[.int .u8 (t.f : Int), .int .u8 (t.k : Int), v] 142) := (hg5.block (A i) (by simp; omega) (fun e => HNE.out e.symm)).trans ((HX.out.alloc _).alloc _); have y2 := HX5.out.cell 2; have g2 := HX5.out.free 2; have hA5 := HX5.out.lt; simp at y2; clear ho5 hg5 hv5))
    go_ret
    have HG6 := HG5.out
    have HV6 := HV5.out
    rw [← HV.out] at HG6 HV6
    obtain ⟨k1, k2⟩ := H.out.grow hB hi hc HO5.out HG6 HV6
    refine ⟨_, _, ?_, k1, fun j hj => by unfold upA; rw [if_neg (by omega)], by rw [newT_len]; simp, by rw [newT_len]; omega, by rw [newT_len]; omega, k2⟩
    simp [ptrT, upA]
end Go.Proofs.YthdfccdkomfikabGreatDoor

namespace Go.Proofs.YthdfccdkomfikabGreatDoor
open Go.ChangeShapes Go.WideShapes Go.ChangeAt Go.RowKit
set_option linter.unusedVariables false
set_option linter.unusedSimpArgs false

set_option maxRecDepth 1000000 in
set_option maxHeartbeats 8000000 in
theorem rrun_any (s : ByteArray) (p : Nat) (hs : s.size ≤ 4294967280) (hp : p < s.size) (w : World) (hT : Lt w) :
    Calls Tryz.prog 55 #[.string s, .int .i64 (p : Int)] w fun e w' => e = .returned (pcR (ruP s p)) ∧ Below w.heap.size w w' := by
  have HT : Hid (∀ v, Below w.heap.size w v → Lt v) := fun v hv => hT.below hv
  obtain ⟨hl1, hl2⟩ := rnE_le s (s.size - p) p (Nat.le_refl _) (by omega)
  have hNP : ruP s p = if num (s.extract p (rnE s p)) then .ok 3 (rnE s p) else .no 21 p := rfl
  rw [hNP]
  obtain ⟨E, hE⟩ : ∃ E, rnE s p = E := ⟨_, rfl⟩
  have HE : Hid (rnE s p = E) := hE
  rw [hE] at hl1 hl2 ⊢
  obtain ⟨V, hV⟩ : ∃ V, pcR (if num (s.extract p E) then .ok 3 E else .no 21 p) = V := ⟨_, rfl⟩
  have HV : Hid (pcR (if num (s.extract p E) then .ok 3 E else .no 21 p) = V) := hV
  rw [hV]
  clear hNP hE hT hV
  go_enter Tryz.func55, Tryz.ntmps55
  go_wp2
  go_loopw [8] (fun st wr => ∃ k : Nat, p ≤ k ∧ k ≤ s.size ∧ st = .int .i64 (k : Int) ∧ rnE s k = E ∧ Below w.heap.size w wr) (fun st _ => s.size - (intOf st).toNat)
  case atStart => exact ⟨p, Nat.le_refl _, by omega, rfl, HE.out, Below.refl _ _⟩
  case round =>
    obtain ⟨k, hpk, hks, rfl, hke, hbel⟩ := hrel
    have HB : Hid (Below w.heap.size w wr) := hbel
    have HLT : Hid (∀ v, Below w.heap.size w v → Calls Tryz.prog 53 #[.string s, .int .i64 (k : Int), .bool true] v fun e w' => e = .returned (.int .i64 (ltr s k true : Nat)) ∧ Below v.heap.size v w') := fun v hv => rletter_any s k true hs hks v (HT.out v hv)
    clear hbel
    by_cases hl : k < s.size ∧ isLD (rn s k) = true
    · obtain ⟨f1, f2, -, -⟩ := dec_facts s k hl.1
      have hst := rnE_in hl.1 hl.2
      rw [ltr_in hl.1 hl.2] at HLT
      have HK : Hid (rnE s (k + wd s k) = E) := by unfold Hid; rw [← hst]; exact hke
      obtain ⟨D, hD⟩ : ∃ D, wd s k = D := ⟨_, rfl⟩
      rw [hD] at HLT f1 f2 HK
      have hD0 : (D : Int) > 0 := by omega
      clear hst hD hl hke
      go_wp2_with (first
        | (go_at_call 53; (with_reducible refine (HLT.out wr HB.out).mono ?_); rintro e w3 ⟨rfl, hb3⟩; have HB3 : Hid (Below w.heap.size w w3) := HB.out.trans (hb3.mono HB.out.size); clear hb3)
        | (go_at_call 53; (with_reducible refine (HLT.out w3 HB3.out).mono ?_); rintro e w4 ⟨rfl, hb4⟩; have HB4 : Hid (Below w.heap.size w w4) := HB3.out.trans (hb4.mono HB3.out.size); clear hb4))
      go_roundw
      case rel => exact ⟨k + D, by omega, by omega, by go_num, HK.out, HB4.out⟩
      case measure => simp [intOf]; omega
    · have hkE : k = E := by rw [← hke, rnE_out hl]
      subst hkE
      rw [ltr_out hl] at HLT
      clear hl hke
      have h00 : ¬ (0 : Int) > 0 := by decide
      have hpk' : (p : Int) ≤ (k : Int) := by omega
      have hks' : (k : Int) ≤ (s.size : Int) := by omega
      have HDI : Hid (∀ v, Calls Tryz.prog 82 #[.string (s.extract p k)] v fun e w' => e = .returned (.bool (num (s.extract p k))) ∧ Below v.heap.size v w') := fun v => rDigits_any (s.extract p k) (by rw [ByteArray.size_extract]; omega) v
      obtain ⟨Z, hZ⟩ : ∃ Z, num (s.extract p k) = Z := ⟨_, rfl⟩
      rw [hZ] at HDI HV
      clear hZ
      cases Z with
      | true =>
        go_wp2_with (first
          | (go_at_call 53; (with_reducible refine (HLT.out wr HB.out).mono ?_); rintro e w3 ⟨rfl, hb3⟩; have HB3 : Hid (Below w.heap.size w w3) := HB.out.trans (hb3.mono HB.out.size); clear hb3)
          | (go_at_call 82; (with_reducible refine (HDI.out _).mono ?_); rintro e w4 ⟨rfl, hb4⟩; have HB4 : Hid (Below w.heap.size w w4) := HB3.out.trans (hb4.mono HB3.out.size); clear hb4))
        refine bodyPost_ret (v := .tuple #[.int .i64 3, .int .i64 (k : Int), .int .i64 0, .int .i64 0]) (by simp [results, Tryz.results55, go_sem]) rfl ⟨by rw [← HV.out]; rfl, HB4.out⟩
      | false =>
        go_wp2_with (first
          | (go_at_call 53; (with_reducible refine (HLT.out wr HB.out).mono ?_); rintro e w3 ⟨rfl, hb3⟩; have HB3 : Hid (Below w.heap.size w w3) := HB.out.trans (hb3.mono HB.out.size); clear hb3)
          | (go_at_call 82; (with_reducible refine (HDI.out _).mono ?_); rintro e w4 ⟨rfl, hb4⟩; have HB4 : Hid (Below w.heap.size w w4) := HB3.out.trans (hb4.mono HB3.out.size); clear hb4))
        refine bodyPost_ret (v := .tuple #[.int .i64 0, .int .i64 0, .int .i64 21, .int .i64 (p : Int)]) (by simp [results, Tryz.results55, go_sem]) rfl ⟨by rw [← HV.out]; rfl, HB4.out⟩
end Go.Proofs.YthdfccdkomfikabGreatDoor
