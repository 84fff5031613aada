import Derived.Test.YtaploloedocgbaaDoorDw
import Derived.Test.YtaploloedocgbaaDoorNam
import Derived.Laws.OwnMore
import Derived.Deep.DeepCutAuto
namespace Go.Proofs.YtaploloedocgbaaDoor
open Go.ChangeShapes Go.WideShapes Go.ChangeAt Go.RowKit
set_option linter.unusedVariables false

set_option maxRecDepth 1000000 in
set_option maxHeartbeats 1000000 in
theorem copyTree_own (a : Option Addr) (cap : Nat) (ns : List Nd) (w : World) (h : LiesA w a ns) (hn : a = none → ns.length = 0 ∧ cap = 0) (hl : ns.length * 32 ≤ 140737488351232) :
    Calls Tryd.prog 6 #[.agg #[.slice a ns.length cap]] w fun e w' => ∃ a' c', e = .returned (.agg #[.slice a' ns.length c']) ∧ w'.ownsRow (w.heap.size + 2) 57 4 (.slice a' ns.length c') ns.length (flat ns) ∧ Below w.heap.size w w' := by
  obtain ⟨i1, hj, hy0, hy1, hy2⟩ := info_parts infoNd
  have HL : Hid (LiesA w a ns) := h
  have HN : Hid (a = none → ns.length = 0 ∧ cap = 0) := hn
  obtain ⟨w2, e2, hw, hs2, B0, C0⟩ := bx2 w #[.slice a ns.length cap] #[.slice none 0 0] 25 25
  have HB0 : Hid (Below w.heap.size w w2) := hw
  have HX0 : Hid (Bx w2 w.heap.size #[.slice a ns.length cap] 25) := B0
  have HC0 : Hid (Bx w2 (w.heap.size + 1) #[.slice none 0 0] 25) := C0
  have HS2 : Hid (w2.heap.size = w.heap.size + 2) := hs2
  have HE2 : Hid ((w.alloc (.cells #[.slice a ns.length cap] 25)).alloc (.cells #[.slice none 0 0] 25) = w2) := e2
  have x0 := B0.one
  have hs2' : w.heap.size + 1 < w2.heap.size := by omega
  clear h hn hw hs2 B0 C0 e2
  go_enter Tryd.func6, Tryd.ntmps6
  go_upto_region 1 with fail
  rw [HE2.out]
  have hs2a : w.heap.size < w2.heap.size := by omega
  have own0 : (w2.alloc (.cells #[] 57)).ownsRow (w.heap.size + 2) 57 4 (.slice (some ⟨w2.heap.size, 0, none⟩) 0 0) 0 [] :=
    ⟨rfl, .inr ⟨w2.heap.size, 0, #[], rfl, by have := HS2.out; omega, heap_alloc_new w2 _, Nat.le_refl _, by unfold maxLen; omega, rfl, rfl⟩⟩
  have HO0 : Hid ((w2.alloc (.cells #[] 57)).ownsRow (w.heap.size + 2) 57 4 (.slice (some ⟨w2.heap.size, 0, none⟩) 0 0) 0 []) := own0
  clear own0
  go_wp2_with (at_builtin; (refine wpList_append_own_any _ rfl (.tmp 3) (.tmp 5) 23 rfl (w.heap.size + 2) 57 i1 (.agg #[.int .u8 0, .int .i64 0, .int .i64 0, .int .i64 0]) 4 32 Tryd.underlying23 hj hy0 hy1 hy2 rfl (by decide) _ _ _ rfl HO0.out a ns.length cap (flat ns) rfl (flat_length ns) HN.out ?c1 (flat_oneCell ns) ?c2 ?c3 ?c4 ?_))
  case c1 =>
    intro ad had
    rcases HL.out with h | ⟨b, o, hab, h⟩
    · intro j u hj; rw [h] at hj; simp [flat] at hj
    · rw [hab] at had; cases had
      have hb := HB0.out.alloc HB0.out.size (.cells #[] 57)
      exact (h.below hb h.1).flat
  case c2 => unfold maxLen; omega
  case c3 => omega
  case c4 => simp; omega
  intro v5 w5 hown5 hgrow5
  have hown5' : w5.ownsRow (w.heap.size + 2) 57 4 v5 ns.length (flat ns) := by
    simpa using hown5
  have b5 : Below (w.heap.size + 2) w2 w5 := ((Below.refl _ w2).alloc (by omega) _).grown hgrow5 (by simp; omega) (fun k h => by simp [Value.ownBlock] at h; omega)
  have HB5 : Hid (Below (w.heap.size + 2) w2 w5) := b5
  have HLT5 : Hid (∀ k, v5.ownBlock = some k → w.heap.size + 2 ≤ k ∧ k < w5.heap.size) := hown5'.lt
  obtain ⟨a5, c5, rfl, hli, _, _⟩ := own_form hown5'
  have HL5 : Hid (w5.ownsRow (w.heap.size + 2) 57 4 (.slice a5 ns.length c5) ns.length (flat ns)) := hown5'
  have r0 := (HC0.out.below b5 (by omega)).one
  have r1 := (HC0.out.below b5 (by omega)).free 0
  have hs5 : w.heap.size + 2 ≤ w5.heap.size := by have := b5.size; omega
  clear hgrow5 hown5 hown5' hli b5 HO0
  go_wp2
  refine bodyPost_ret (v := .agg #[.slice a5 ns.length c5]) (by simp [results, Tryd.results6, go_sem, r0]) rfl ?_
  refine ⟨a5, c5, rfl, ?_, ?_⟩
  · exact ownsRow_setCell_other HL5.out (a := ⟨w.heap.size + 1, 0, none⟩) (fun h => by have := (HLT5.out (w.heap.size + 1) h).1; omega) _
  · have h5 : Below w.heap.size w w5 := HB0.out.trans (HB5.out.mono (by omega))
    exact h5.setCell (p := ⟨w.heap.size + 1, 0, none⟩) (by show w.heap.size ≤ w.heap.size + 1; omega) _

theorem flat_set_f : ∀ (ns : List Nd) (i : Nat) (x : Nd) (v : Int), ns[i]? = some x → (flat ns).set (i * 4 + 1) (.int .i64 v) = flat (ns.set i ⟨x.k, v, x.e, x.s⟩)
  | [], i, x, v, h => by simp at h
  | y :: r, 0, x, v, h => by
    simp at h; subst h
    rw [flat_cons, List.set_cons_zero, flat_cons]; rfl
  | y :: r, i + 1, x, v, h => by
    have ih := flat_set_f r i x v (by simpa using h)
    rw [flat_cons, List.set_cons_succ, flat_cons, ← ih, show (i + 1) * 4 + 1 = (Rw.cs y).length + (i * 4 + 1) by show _ = 4 + _; omega, List.set_append_right _ _ (by omega), Nat.add_sub_cancel_left]
theorem flat_set_e : ∀ (ns : List Nd) (i : Nat) (x : Nd) (v : Int), ns[i]? = some x → (flat ns).set (i * 4 + 2) (.int .i64 v) = flat (ns.set i ⟨x.k, x.f, v, x.s⟩)
  | [], i, x, v, h => by simp at h
  | y :: r, 0, x, v, h => by
    simp at h; subst h
    rw [flat_cons, List.set_cons_zero, flat_cons]; rfl
  | y :: r, i + 1, x, v, h => by
    have ih := flat_set_e r i x v (by simpa using h)
    rw [flat_cons, List.set_cons_succ, flat_cons, ← ih, show (i + 1) * 4 + 2 = (Rw.cs y).length + (i * 4 + 2) by show _ = 4 + _; omega, List.set_append_right _ _ (by omega), Nat.add_sub_cancel_left]
end Go.Proofs.YtaploloedocgbaaDoor
