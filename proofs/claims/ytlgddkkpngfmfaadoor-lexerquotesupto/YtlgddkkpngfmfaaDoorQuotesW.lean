import Derived.Test.YtlgddkkpngfmfaaDoorLzr
import Derived.Test.YtlgddkkpngfmfaaDoorLyf
import Derived.Test.YtlgddkkpngfmfaaDoorLx4
import Derived.Laws.Cover1
import Derived.Lib.Strings
namespace Go.Proofs.YtlgddkkpngfmfaaDoor
open Go.ChangeShapes Go.WideShapes Go.ChangeAt Go.RowKit Go.Maps Go.WideMaps
set_option linter.unusedVariables false
set_option linter.unusedSimpArgs false

theorem str_eq (a b : ByteArray) : (a.toList == b.toList) = decide (a = b) := by
  rw [ByteArray.toList_eq, ByteArray.toList_eq]
  by_cases h : a = b
  · subst h; simp
  · have : a.data.toList ≠ b.data.toList := fun e => h (by
      have e2 : a.data = b.data := Array.toList_inj.1 e
      cases a; cases b; simp at e2; rw [e2])
    rw [decide_eq_false h]
    exact beq_eq_false_iff_ne.2 this
set_option maxRecDepth 1000000 in
set_option maxHeartbeats 8000000 in
theorem lexerQuotes_walk (s o : ByteArray) (hB : s.size + o.size ≤ 1048576) (w : World) (hS : Spl w) (hT : Lt w) :
    Calls Tryd.prog 3 #[.string s, .string o] w fun e w' => e = .returned (.bool true) ∧ Below w.heap.size w w' := by
  have l1 := qt_len s
  obtain ⟨S, hSd⟩ : ∃ S, sq (qt s) = S := ⟨_, rfl⟩
  obtain ⟨O, hOd⟩ : ∃ S, sq (qt o) = S := ⟨_, rfl⟩
  have HQ : Hid (∀ v, Below w.heap.size w v → Calls Tryd.prog 5 #[.string s] v fun e w' => e = .returned (.string S) ∧ Below v.heap.size v w') := fun v hv => by
    rw [← hSd]; exact quote_any s v (by omega) (hT.below hv).1.1.1 (hT.below hv).1.1.2 (hT.below hv).1.2
  have HR : Hid (∀ v, Below w.heap.size w v → Calls Tryd.prog 7 #[.string s] v fun e w' => e = .returned (.string S) ∧ Below v.heap.size v w') := fun v hv => by
    rw [← hSd]; exact rquote_any s v (by omega) (hT.below hv).1.1.1 (hT.below hv).1.1.2 (hT.below hv).1.2
  have HO : Hid (∀ v, Below w.heap.size w v → Calls Tryd.prog 5 #[.string o] v fun e w' => e = .returned (.string O) ∧ Below v.heap.size v w') := fun v hv => by
    rw [← hOd]; exact quote_any o v (by omega) (hT.below hv).1.1.1 (hT.below hv).1.1.2 (hT.below hv).1.2
  have h0 : 0 < (sq (qt s)).size := by rw [sq_size]; simp [qt]
  have HX : Hid (∀ v, Below w.heap.size w v → Calls Tryd.prog 6 #[.string S] v fun e w' => e = .returned (.tuple #[.string s, .int .i64 0]) ∧ Below v.heap.size v w') := fun v hv => by
    have := Text_text (sq (qt s)) (by omega) h0 (qt_first s h0) (qt_quP s) v (hS.below hv) (hT.below hv)
    rw [qt_back, hSd] at this
    exact this
  have hone : (S = O) ↔ (s = o) := by rw [← hSd, ← hOd]; exact qt_one s o
  have e1 : (S.toList == S.toList) = true := by simp
  have e2 : (s.toList == s.toList) = true := by simp
  have e3 : (S.toList == O.toList) = (s.toList == o.toList) := by rw [str_eq, str_eq]; exact decide_eq_decide.2 hone
  obtain ⟨b, hb⟩ : ∃ b, (s.toList == o.toList) = b := ⟨_, rfl⟩
  rw [hb] at e3
  clear hSd hOd hone hS hT h0 l1
  cases b
  all_goals
    go_enter Tryd.func3, Tryd.ntmps3
    go_wp2_with (first
      | (go_at_call 5; (with_reducible refine (HQ.out _ (Below.refl _ _)).mono ?_); rintro e w3 ⟨rfl, hb3⟩; have HB3 : Hid (Below w.heap.size w w3) := hb3; clear hb3)
      | (go_at_call 6; (with_reducible refine (HX.out _ HB3.out).mono ?_); rintro e w4 ⟨rfl, hb4⟩; have HB4 : Hid (Below w.heap.size w w4) := HB3.out.trans (hb4.mono HB3.out.size); clear hb4)
      | (go_at_call 7; (with_reducible refine (HR.out _ HB4.out).mono ?_); rintro e w5 ⟨rfl, hb5⟩; have HB5 : Hid (Below w.heap.size w w5) := HB4.out.trans (hb5.mono HB4.out.size); clear hb5)
      | (go_at_call 5; (with_reducible refine (HO.out _ HB5.out).mono ?_); rintro e w6 ⟨rfl, hb6⟩; have HB6 : Hid (Below w.heap.size w w6) := HB5.out.trans (hb6.mono HB5.out.size); clear hb6))
    go_ret
    exact ⟨rfl, HB6.out⟩
end Go.Proofs.YtlgddkkpngfmfaaDoor
