import Derived.Test.YtphejjghgalkpaaDoorTm0
namespace Go.Proofs.YtphejjghgalkpaaDoor
open Go.ChangeShapes Go.WideShapes Go.ChangeAt Go.RowKit Go.Maps Go.WideMaps
set_option linter.unusedVariables false
set_option linter.unusedSimpArgs false

theorem Tre.look {w : World} {B : Nat} {T : List Tn} {A : Nat → Nat} {V : Nat → Value} (h : Tre w B T A V) {i : Nat} {t : Tn} (hi : T[i]? = some t) :
    ∃ (a : Option Addr) (cap : Nat), V i = .slice a t.ch.length cap ∧ ∀ (k j : Nat), t.ch[k]? = some j → ∃ g, a = some ⟨g, 0, none⟩ ∧ g < w.heap.size ∧ t.ch.length ≤ cap ∧ w.cell? ⟨g, k, none⟩ = some (ptrT A j) := by
  have hr := h.row i t hi
  rcases hr.2 with ⟨hv, hn⟩ | ⟨g, cap, cur, hv, hg, hh, hnc, hcm, hcs, htk⟩
  · refine ⟨none, 0, by rw [hv, hn], fun k j hk => ?_⟩
    have := (List.getElem?_eq_some_iff.1 hk).1
    omega
  · refine ⟨some ⟨g, 0, none⟩, cap, hv, fun k j hk => ⟨g, rfl, lt_of_block hh, hnc, ?_⟩⟩
    have := hr.cells (g := g) (by rw [hv]; rfl) k (ptrT A j) (by rw [List.getElem?_map, hk]; rfl)
    rw [addr_add] at this
    simpa using this

set_option maxRecDepth 1000000 in
set_option maxHeartbeats 4000000 in
theorem on_any (B : Nat) (T : List Tn) (A : Nat → Nat) (V : Nat → Value) (i c : Nat) (t : Tn) (hi : T[i]? = some t) (hc : c < 256) (hl : T.length ≤ 1000) (w : World) (h : Tre w B T A V) :
    Calls Tryd.prog 53 #[.pointer (some ⟨A i, 0, none⟩), .int .u8 (c : Int)] w fun e w' => e = .returned (ptrO A (onT T i c)) ∧ w' = w := by
  have hX := (h.box i t hi).2
  have hAi := hX.lt
  have x2 := hX.cell 2
  obtain ⟨a, cap, hv, hcell⟩ := h.look hi
  have HC : Hid (∀ (k j : Nat), t.ch[k]? = some j → ∃ g, a = some ⟨g, 0, none⟩ ∧ g < w.heap.size ∧ t.ch.length ≤ cap ∧ w.cell? ⟨g, k, none⟩ = some (ptrT A j)) := hcell
  have hlim := (h.lim i t hi).2.2
  have HK : Hid (∀ j ∈ t.ch, ∃ tj, T[j]? = some tj ∧ tj.f < 256 ∧ w.cell? ⟨A j, 0, none⟩ = some (.int .u8 (tj.f : Int)) ∧ A j < w.heap.size) := fun j hj => by
    have hjl := h.kid i t hi j hj
    have hj' := List.getElem?_eq_getElem hjl
    exact ⟨_, hj', (h.lim j _ hj').1, (h.box j _ hj').2.cell 0, (h.box j _ hj').2.lt⟩
  have hO : onT T i c = t.ch.find? fun j => (T.getD j tz).f == c := by unfold onT; rw [getD_of hi]
  obtain ⟨O, hO2⟩ : ∃ O, onT T i c = O := ⟨_, rfl⟩
  have HO : Hid ((t.ch.drop 0).find? (fun j => (T.getD j tz).f == c) = O) := by unfold Hid; rw [List.drop_zero, ← hO, hO2]
  rw [hO2]
  rw [hv] at x2
  simp at x2
  clear hcell hv hX hO hO2 h
  go_enter Tryd.func53, Tryd.ntmps53
  go_wp2
  go_loopw [12] (fun si wr => ∃ k : Nat, k ≤ t.ch.length ∧ si = .int .i64 (k : Int) ∧ (t.ch.drop k).find? (fun j => (T.getD j tz).f == c) = O ∧ wr = w) (fun si _ => t.ch.length - (intOf si).toNat)
  case atStart => exact ⟨0, Nat.zero_le _, rfl, HO.out, by first | rfl | trivial⟩
  case round =>
    obtain ⟨k, hk, rfl, hfi, rfl⟩ := hrel
    by_cases hlt : k < t.ch.length
    · have hlt' : (k : Int) < (t.ch.length : Int) := by omega
      obtain ⟨j, hj⟩ : ∃ j, t.ch[k]? = some j := ⟨_, List.getElem?_eq_getElem hlt⟩
      obtain ⟨g, rfl, hg, hcap, hcj⟩ := HC.out k j hj
      obtain ⟨tj, hTj, hf, hc0, hAj⟩ := HK.out j (List.mem_of_getElem? hj)
      have hdr : t.ch.drop k = j :: t.ch.drop (k + 1) := by
        rw [List.drop_eq_getElem_cons hlt]
        congr 1
        rw [List.getElem?_eq_getElem hlt] at hj
        exact Option.some.inj hj
      rw [hdr, List.find?_cons, getD_of hTj] at hfi
      rw [show ptrT A j = .pointer (some ⟨A j, 0, none⟩) from rfl] at hcj
      by_cases he : tj.f = c
      · have hee : ((tj.f : Int) == (c : Int)) = true := by simp; omega
        rw [show (tj.f == c) = true by simp [he]] at hfi
        simp only at hfi
        subst hfi
        go_wp2
        go_ret
        exact ⟨rfl, rfl⟩
      · have hee : ((tj.f : Int) == (c : Int)) = false := by simp; omega
        rw [show (tj.f == c) = false by simp [he]] at hfi
        simp only at hfi
        go_wp2
        go_roundw
        case rel => exact ⟨k + 1, by omega, by go_num, hfi, by first | rfl | trivial⟩
        case measure => simp [intOf]; omega
    · have hge : ¬ (k : Int) < (t.ch.length : Int) := by omega
      rw [List.drop_of_length_le (by omega)] at hfi
      simp at hfi
      subst hfi
      go_wp2
      go_ret
      exact ⟨rfl, rfl⟩
end Go.Proofs.YtphejjghgalkpaaDoor

namespace Go.Proofs.YtphejjghgalkpaaDoor
open Go.ChangeShapes Go.WideShapes Go.ChangeAt Go.RowKit Go.Maps Go.WideMaps
set_option linter.unusedVariables false
set_option linter.unusedSimpArgs false

theorem infoPB : (Tryd.prog.info? 76).map (fun i => (i.zero, i.size, i.bytes)) = some (some (.pointer none), 1, 8) := by kernel_rfl
/-- trees of the same nodes' places, as far as the first of them -/
def Ext (A A' : Nat → Nat) (n : Nat) : Prop := ∀ j, j < n → A' j = A j

set_option maxRecDepth 1000000 in
set_option maxHeartbeats 4000000 in
theorem grown_any (B : Nat) (T : List Tn) (A : Nat → Nat) (V : Nat → Value) (i c : Nat) (t : Tn) (hi : T[i]? = some t) (hc : c < 256) (hl : T.length ≤ 1000) (w : World) (hB : B ≤ w.heap.size) (h : Tre w B T A V) :
    Calls Tryd.prog 76 #[.pointer (some ⟨A i, 0, none⟩), .int .u8 (c : Int)] w fun e w' => ∃ A' V', e = .returned (ptrT A' (growT T i c).2) ∧ Tre w' B (growT T i c).1 A' V' ∧ Ext A A' T.length ∧ (growT T i c).2 < (growT T i c).1.length ∧ T.length ≤ (growT T i c).1.length ∧ (growT T i c).1.length ≤ T.length + 1 ∧ Below B w w' := by
  obtain ⟨i0, hif, hz0, hz1, hz2⟩ := info_parts infoPB
  have hX := (h.box i t hi).2
  have hAi := hX.lt
  have x2 := hX.cell 2
  simp at x2
  have f2 := hX.free 2
  have HON : Hid (Calls Tryd.prog 53 #[.pointer (some ⟨A i, 0, none⟩), .int .u8 (c : Int)] w fun e w' => e = .returned (ptrO A (onT T i c)) ∧ w' = w) := on_any B T A V i c t hi hc hl w h
  cases hO : onT T i c with
  | some j =>
    have hg : growT T i c = (T, j) := by unfold growT; rw [hO]
    rw [hO] at HON
    have HON' : Hid (Calls Tryd.prog 53 #[.pointer (some ⟨A i, 0, none⟩), .int .u8 (c : Int)] w fun e w' => e = .returned (.pointer (some ⟨A j, 0, none⟩)) ∧ w' = w) := HON
    have hj : j < T.length := by
      unfold onT at hO
      rw [getD_of hi] at hO
      exact h.kid i t hi j (List.mem_of_find?_eq_some hO)
    rw [hg]
    have H : Hid (Tre w B T A V) := h
    clear HON hO hg h
    go_enter Tryd.func76, Tryd.ntmps76
    go_wp2_with (go_at_call 53; (with_reducible refine HON'.out.mono ?_); rintro e w3 ⟨rfl, hw3⟩; subst hw3)
    go_ret
    exact ⟨A, V, rfl, H.out, fun _ _ => rfl, hj, Nat.le_refl _, by simp, Below.refl _ _⟩
  | none =>
    have hg : growT T i c = (newT T i c, T.length) := by unfold growT; rw [hO]
    rw [hO] at HON
    have HON' : Hid (Calls Tryd.prog 53 #[.pointer (some ⟨A i, 0, none⟩), .int .u8 (c : Int)] w fun e w' => e = .returned (.pointer none) ∧ w' = w) := HON
    rw [hg]
    have H : Hid (Tre w B T A V) := h
    have hr := h.row i t hi
    have HR : Hid (w.ownsRow B 76 1 (V i) t.ch.length (t.ch.map (ptrT A))) := hr
    have hlim := (h.lim i t hi).2.2
    have hne := h.ne hi hr
    obtain ⟨v, hv⟩ : ∃ v, V i = v := ⟨_, rfl⟩
    have HV : Hid (V i = v) := hv
    rw [hv] at x2 HR hne
    have HNE : Hid (v.ownBlock ≠ some (A i)) := hne
    have HX : Hid (Bx w (A i) #[.int .u8 (t.f : Int), .int .u8 (t.k : Int), v] 113) := by unfold Hid; rw [← hv]; exact hX
    clear HON hO hg h hr hv hX hne
    go_enter Tryd.func76, Tryd.ntmps76
    go_wp2_with (first
      | (go_at_call 53; (with_reducible refine HON'.out.mono ?_); rintro e w3 ⟨rfl, hw3⟩; subst hw3)
      | (at_builtin; (refine wpList_append_at _ rfl (.tmp 20) (.tmp 22) 111 rfl B 76 i0 (.pointer none) 1 8 Tryd.underlying111 hif hz0 hz1 hz2 rfl (by decide) _ t.ch.length (t.ch.map (ptrT A)) rfl ((HR.out.alloc _).alloc _) (some ⟨w3.heap.size + 1, 0, none⟩) 1 1 [.pointer (some ⟨w3.heap.size, 0, none⟩)] rfl rfl (fun h => by cases h) (fun ad had => by cases had; have := cells_new (w3.alloc (.cells #[.int .u8 (c : Int), .int .u8 0, .slice none 0 0] 113)) [.pointer (some ⟨w3.heap.size, 0, none⟩)] 76; simpa using this) (fun u hu => by simp at hu; subst hu; rfl) (by unfold maxLen; omega) (by omega) (by simp; omega) ?_); intro v5 w5 ho5 hg5 hv5; obtain ⟨g5, k5, rfl⟩ : ∃ g k, v5 = .slice (some ⟨g, 0, none⟩) (t.ch.length + 1) k := (by rcases ho5.2 with ⟨-, e⟩ | ⟨g, k, cur, e, -⟩; omega; exact ⟨g, k, e⟩); have HO5 : Hid (w5.ownsRow B 76 1 (.slice (some ⟨g5, 0, none⟩) (t.ch.length + 1) k5) (t.ch.length + 1) (t.ch.map (ptrT A) ++ [.pointer (some ⟨w3.heap.size, 0, none⟩)])) := ho5; have HG5 : Hid (((w3.alloc (.cells #[.int .u8 (c : Int), .int .u8 0, .slice none 0 0] 113)).alloc (.cells #[.pointer (some ⟨w3.heap.size, 0, none⟩)] 76)).grownBy w5 v.ownBlock) := hg5; have HV5 : Hid ((Value.slice (some ⟨g5, 0, none⟩) (t.ch.length + 1) k5).ownBlock = v.ownBlock ∨ (Value.slice (some ⟨g5, 0, none⟩) (t.ch.length + 1) k5).ownBlock = some (w3.heap.size + 2)) := (by unfold Hid; rcases hv5 with e | e; exact .inl e; exact .inr (e.trans (by simp))); have HX5 : Hid (Bx w5 (A i) #[.int .u8 (t.f : Int), .int .u8 (t.k : Int), v] 113) := (hg5.block (A i) (by simp; omega) (fun e => HNE.out e.symm)).trans ((HX.out.alloc _).alloc _); have y2 := HX5.out.cell 2; have g2 := HX5.out.free 2; have hA5 := HX5.out.lt; simp at y2; clear ho5 hg5 hv5))
    go_ret
    have HG6 := HG5.out
    have HV6 := HV5.out
    rw [← HV.out] at HG6 HV6
    obtain ⟨k1, k2⟩ := H.out.grow hB hi hc HO5.out HG6 HV6
    refine ⟨_, _, ?_, k1, fun j hj => by unfold upA; rw [if_neg (by omega)], by rw [newT_len]; simp, by rw [newT_len]; omega, by rw [newT_len]; omega, k2⟩
    simp [ptrT, upA]
end Go.Proofs.YtphejjghgalkpaaDoor
