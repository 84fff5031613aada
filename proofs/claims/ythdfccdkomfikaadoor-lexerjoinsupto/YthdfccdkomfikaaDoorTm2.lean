import Derived.Test.YthdfccdkomfikaaDoorTm1
namespace Go.Proofs.YthdfccdkomfikaaDoor
open Go.ChangeShapes Go.WideShapes Go.ChangeAt Go.RowKit Go.Maps Go.WideMaps
set_option linter.unusedVariables false
set_option linter.unusedSimpArgs false

theorem infoPB : (Tryd.prog.info? 61).map (fun i => (i.zero, i.size, i.bytes)) = some (some (.pointer none), 1, 8) := by kernel_rfl
/-- trees of the same nodes' places, as far as the first of them -/
def Ext (A A' : Nat → Nat) (n : Nat) : Prop := ∀ j, j < n → A' j = A j

set_option maxRecDepth 1000000 in
set_option maxHeartbeats 4000000 in
theorem grown_any (B : Nat) (T : List Tn) (A : Nat → Nat) (V : Nat → Value) (i c : Nat) (t : Tn) (hi : T[i]? = some t) (hc : c < 256) (hl : T.length ≤ 1000) (w : World) (hB : B ≤ w.heap.size) (h : Tre w B T A V) :
    Calls Tryd.prog 67 #[.pointer (some ⟨A i, 0, none⟩), .int .u8 (c : Int)] w fun e w' => ∃ A' V', e = .returned (ptrT A' (growT T i c).2) ∧ Tre w' B (growT T i c).1 A' V' ∧ Ext A A' T.length ∧ (growT T i c).2 < (growT T i c).1.length ∧ T.length ≤ (growT T i c).1.length ∧ (growT T i c).1.length ≤ T.length + 1 ∧ Below B w w' := by
  obtain ⟨i0, hif, hz0, hz1, hz2⟩ := info_parts infoPB
  have hX := (h.box i t hi).2
  have hAi := hX.lt
  have x2 := hX.cell 2
  simp at x2
  have f2 := hX.free 2
  have HON : Hid (Calls Tryd.prog 44 #[.pointer (some ⟨A i, 0, none⟩), .int .u8 (c : Int)] w fun e w' => e = .returned (ptrO A (onT T i c)) ∧ w' = w) := on_any B T A V i c t hi hc hl w h
  cases hO : onT T i c with
  | some j =>
    have hg : growT T i c = (T, j) := by unfold growT; rw [hO]
    rw [hO] at HON
    have HON' : Hid (Calls Tryd.prog 44 #[.pointer (some ⟨A i, 0, none⟩), .int .u8 (c : Int)] w fun e w' => e = .returned (.pointer (some ⟨A j, 0, none⟩)) ∧ w' = w) := HON
    have hj : j < T.length := by
      unfold onT at hO
      rw [getD_of hi] at hO
      exact h.kid i t hi j (List.mem_of_find?_eq_some hO)
    rw [hg]
    have H : Hid (Tre w B T A V) := h
    clear HON hO hg h
    go_enter Tryd.func67, Tryd.ntmps67
    go_wp2_with (go_at_call 44; (with_reducible refine HON'.out.mono ?_); rintro e w3 ⟨rfl, hw3⟩; subst hw3)
    go_ret
    exact ⟨A, V, rfl, H.out, fun _ _ => rfl, hj, Nat.le_refl _, by simp, Below.refl _ _⟩
  | none =>
    have hg : growT T i c = (newT T i c, T.length) := by unfold growT; rw [hO]
    rw [hO] at HON
    have HON' : Hid (Calls Tryd.prog 44 #[.pointer (some ⟨A i, 0, none⟩), .int .u8 (c : Int)] w fun e w' => e = .returned (.pointer none) ∧ w' = w) := HON
    rw [hg]
    have H : Hid (Tre w B T A V) := h
    have hr := h.row i t hi
    have HR : Hid (w.ownsRow B 61 1 (V i) t.ch.length (t.ch.map (ptrT A))) := hr
    have hlim := (h.lim i t hi).2.2
    have hne := h.ne hi hr
    obtain ⟨v, hv⟩ : ∃ v, V i = v := ⟨_, rfl⟩
    have HV : Hid (V i = v) := hv
    rw [hv] at x2 HR hne
    have HNE : Hid (v.ownBlock ≠ some (A i)) := hne
    have HX : Hid (Bx w (A i) #[.int .u8 (t.f : Int), .int .u8 (t.k : Int), v] 92) := by unfold Hid; rw [← hv]; exact hX
    clear HON hO hg h hr hv hX hne
    go_enter Tryd.func67, Tryd.ntmps67
    go_wp2_with (first
      | (go_at_call 44; (with_reducible refine HON'.out.mono ?_); rintro e w3 ⟨rfl, hw3⟩; subst hw3)
      | (at_builtin; (refine wpList_append_at _ rfl (.tmp 20) (.tmp 22) 90 rfl B 61 i0 (.pointer none) 1 8 Tryd.underlying90 hif hz0 hz1 hz2 rfl (by decide) _ t.ch.length (t.ch.map (ptrT A)) rfl ((HR.out.alloc _).alloc _) (some ⟨w3.heap.size + 1, 0, none⟩) 1 1 [.pointer (some ⟨w3.heap.size, 0, none⟩)] rfl rfl (fun h => by cases h) (fun ad had => by cases had; have := cells_new (w3.alloc (.cells #[.int .u8 (c : Int), .int .u8 0, .slice none 0 0] 92)) [.pointer (some ⟨w3.heap.size, 0, none⟩)] 61; simpa using this) (fun u hu => by simp at hu; subst hu; rfl) (by unfold maxLen; omega) (by omega) (by simp; omega) ?_); intro v5 w5 ho5 hg5 hv5; obtain ⟨g5, k5, rfl⟩ : ∃ g k, v5 = .slice (some ⟨g, 0, none⟩) (t.ch.length + 1) k := (by rcases ho5.2 with ⟨-, e⟩ | ⟨g, k, cur, e, -⟩; omega; exact ⟨g, k, e⟩); have HO5 : Hid (w5.ownsRow B 61 1 (.slice (some ⟨g5, 0, none⟩) (t.ch.length + 1) k5) (t.ch.length + 1) (t.ch.map (ptrT A) ++ [.pointer (some ⟨w3.heap.size, 0, none⟩)])) := ho5; have HG5 : Hid (((w3.alloc (.cells #[.int .u8 (c : Int), .int .u8 0, .slice none 0 0] 92)).alloc (.cells #[.pointer (some ⟨w3.heap.size, 0, none⟩)] 61)).grownBy w5 v.ownBlock) := hg5; have HV5 : Hid ((Value.slice (some ⟨g5, 0, none⟩) (t.ch.length + 1) k5).ownBlock = v.ownBlock ∨ (Value.slice (some ⟨g5, 0, none⟩) (t.ch.length + 1) k5).ownBlock = some (w3.heap.size + 2)) := (by unfold Hid; rcases hv5 with e | e; exact .inl e; exact .inr (e.trans (by simp))); have HX5 : Hid (Bx w5 (A i) #[.int .u8 (t.f : Int), .int .u8 (t.k : Int), v] 92) := (hg5.block (A i) (by simp; omega) (fun e => HNE.out e.symm)).trans ((HX.out.alloc _).alloc _); have y2 := HX5.out.cell 2; have g2 := HX5.out.free 2; have hA5 := HX5.out.lt; simp at y2; clear ho5 hg5 hv5))
    go_ret
    have HG6 := HG5.out
    have HV6 := HV5.out
    rw [← HV.out] at HG6 HV6
    obtain ⟨k1, k2⟩ := H.out.grow hB hi hc HO5.out HG6 HV6
    refine ⟨_, _, ?_, k1, fun j hj => by unfold upA; rw [if_neg (by omega)], by rw [newT_len]; simp, by rw [newT_len]; omega, by rw [newT_len]; omega, k2⟩
    simp [ptrT, upA]
end Go.Proofs.YthdfccdkomfikaaDoor
