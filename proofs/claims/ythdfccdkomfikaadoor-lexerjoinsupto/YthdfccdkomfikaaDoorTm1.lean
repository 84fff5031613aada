import Derived.Test.YthdfccdkomfikaaDoorTm0
namespace Go.Proofs.YthdfccdkomfikaaDoor
open Go.ChangeShapes Go.WideShapes Go.ChangeAt Go.RowKit Go.Maps Go.WideMaps
set_option linter.unusedVariables false
set_option linter.unusedSimpArgs false

theorem Tre.look {w : World} {B : Nat} {T : List Tn} {A : Nat → Nat} {V : Nat → Value} (h : Tre w B T A V) {i : Nat} {t : Tn} (hi : T[i]? = some t) :
    ∃ (a : Option Addr) (cap : Nat), V i = .slice a t.ch.length cap ∧ ∀ (k j : Nat), t.ch[k]? = some j → ∃ g, a = some ⟨g, 0, none⟩ ∧ g < w.heap.size ∧ t.ch.length ≤ cap ∧ w.cell? ⟨g, k, none⟩ = some (ptrT A j) := by
  have hr := h.row i t hi
  rcases hr.2 with ⟨hv, hn⟩ | ⟨g, cap, cur, hv, hg, hh, hnc, hcm, hcs, htk⟩
  · refine ⟨none, 0, by rw [hv, hn], fun k j hk => ?_⟩
    have := (List.getElem?_eq_some_iff.1 hk).1
    omega
  · refine ⟨some ⟨g, 0, none⟩, cap, hv, fun k j hk => ⟨g, rfl, lt_of_block hh, hnc, ?_⟩⟩
    have := hr.cells (g := g) (by rw [hv]; rfl) k (ptrT A j) (by rw [List.getElem?_map, hk]; rfl)
    rw [addr_add] at this
    simpa using this

set_option maxRecDepth 1000000 in
set_option maxHeartbeats 4000000 in
theorem on_any (B : Nat) (T : List Tn) (A : Nat → Nat) (V : Nat → Value) (i c : Nat) (t : Tn) (hi : T[i]? = some t) (hc : c < 256) (hl : T.length ≤ 1000) (w : World) (h : Tre w B T A V) :
    Calls Tryd.prog 44 #[.pointer (some ⟨A i, 0, none⟩), .int .u8 (c : Int)] w fun e w' => e = .returned (ptrO A (onT T i c)) ∧ w' = w := by
  have hX := (h.box i t hi).2
  have hAi := hX.lt
  have x2 := hX.cell 2
  obtain ⟨a, cap, hv, hcell⟩ := h.look hi
  have HC : Hid (∀ (k j : Nat), t.ch[k]? = some j → ∃ g, a = some ⟨g, 0, none⟩ ∧ g < w.heap.size ∧ t.ch.length ≤ cap ∧ w.cell? ⟨g, k, none⟩ = some (ptrT A j)) := hcell
  have hlim := (h.lim i t hi).2.2
  have HK : Hid (∀ j ∈ t.ch, ∃ tj, T[j]? = some tj ∧ tj.f < 256 ∧ w.cell? ⟨A j, 0, none⟩ = some (.int .u8 (tj.f : Int)) ∧ A j < w.heap.size) := fun j hj => by
    have hjl := h.kid i t hi j hj
    have hj' := List.getElem?_eq_getElem hjl
    exact ⟨_, hj', (h.lim j _ hj').1, (h.box j _ hj').2.cell 0, (h.box j _ hj').2.lt⟩
  have hO : onT T i c = t.ch.find? fun j => (T.getD j tz).f == c := by unfold onT; rw [getD_of hi]
  obtain ⟨O, hO2⟩ : ∃ O, onT T i c = O := ⟨_, rfl⟩
  have HO : Hid ((t.ch.drop 0).find? (fun j => (T.getD j tz).f == c) = O) := by unfold Hid; rw [List.drop_zero, ← hO, hO2]
  rw [hO2]
  rw [hv] at x2
  simp at x2
  clear hcell hv hX hO hO2 h
  go_enter Tryd.func44, Tryd.ntmps44
  go_wp2
  go_loopw [12] (fun si wr => ∃ k : Nat, k ≤ t.ch.length ∧ si = .int .i64 (k : Int) ∧ (t.ch.drop k).find? (fun j => (T.getD j tz).f == c) = O ∧ wr = w) (fun si _ => t.ch.length - (intOf si).toNat)
  case atStart => exact ⟨0, Nat.zero_le _, rfl, HO.out, by first | rfl | trivial⟩
  case round =>
    obtain ⟨k, hk, rfl, hfi, rfl⟩ := hrel
    by_cases hlt : k < t.ch.length
    · have hlt' : (k : Int) < (t.ch.length : Int) := by omega
      obtain ⟨j, hj⟩ : ∃ j, t.ch[k]? = some j := ⟨_, List.getElem?_eq_getElem hlt⟩
      obtain ⟨g, rfl, hg, hcap, hcj⟩ := HC.out k j hj
      obtain ⟨tj, hTj, hf, hc0, hAj⟩ := HK.out j (List.mem_of_getElem? hj)
      have hdr : t.ch.drop k = j :: t.ch.drop (k + 1) := by
        rw [List.drop_eq_getElem_cons hlt]
        congr 1
        rw [List.getElem?_eq_getElem hlt] at hj
        exact Option.some.inj hj
      rw [hdr, List.find?_cons, getD_of hTj] at hfi
      rw [show ptrT A j = .pointer (some ⟨A j, 0, none⟩) from rfl] at hcj
      by_cases he : tj.f = c
      · have hee : ((tj.f : Int) == (c : Int)) = true := by simp; omega
        rw [show (tj.f == c) = true by simp [he]] at hfi
        simp only at hfi
        subst hfi
        go_wp2
        go_ret
        exact ⟨rfl, rfl⟩
      · have hee : ((tj.f : Int) == (c : Int)) = false := by simp; omega
        rw [show (tj.f == c) = false by simp [he]] at hfi
        simp only at hfi
        go_wp2
        go_roundw
        case rel => exact ⟨k + 1, by omega, by go_num, hfi, by first | rfl | trivial⟩
        case measure => simp [intOf]; omega
    · have hge : ¬ (k : Int) < (t.ch.length : Int) := by omega
      rw [List.drop_of_length_le (by omega)] at hfi
      simp at hfi
      subst hfi
      go_wp2
      go_ret
      exact ⟨rfl, rfl⟩
end Go.Proofs.YthdfccdkomfikaaDoor
