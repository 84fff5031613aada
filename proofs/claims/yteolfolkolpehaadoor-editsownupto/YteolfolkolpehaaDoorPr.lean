import Derived.Test.YteolfolkolpehaaDoorPa
namespace Go.Proofs.YteolfolkolpehaaDoor
open Go.ChangeShapes Go.WideShapes Go.ChangeAt Go.RowKit
set_option linter.unusedVariables false

theorem Box.cells3 {w : World} {g : Nat} {f t : Int} {s : ByteArray} (h : Box w g f t s) : w.cell? ⟨g, 0, none⟩ = some (.int .i64 f) ∧ w.cell? ⟨g, 1, none⟩ = some (.int .i64 t) ∧ w.cell? ⟨g, 2, none⟩ = some (.string s) := ⟨h.c0, h.c1, h.c2⟩

/-- an edit as it is printed -/
def ln (e : Ed) : List UInt8 := Lib.itoa e.f ++ ([44] ++ (Lib.itoa e.t ++ ([32] ++ (quo e.s.data.toList ++ [10]))))
def prt (xs : List Ed) : List UInt8 := xs.flatMap ln
theorem prt_drop {xs : List Ed} {k : Nat} {e : Ed} (h : xs[k]? = some e) : prt (xs.drop k) = ln e ++ prt (xs.drop (k + 1)) := by rw [drop_get h]; simp [prt]
theorem ln_len {e : Ed} (h : EdFit e) : (ln e).length ≤ 50 + 2 * e.s.size := by
  obtain ⟨h1, h2, h3, h4, h5⟩ := h
  have a := Lib.itoa_length_le e.f h1 h2
  have b := Lib.itoa_length_le e.t h3 h4
  have c := esc_len e.s.data.toList
  rw [bytes_len] at c
  unfold ln quo
  simp only [List.length_append, List.length_cons, List.length_nil]
  omega
theorem prt_len {xs : List Ed} (h : ∀ e ∈ xs, EdFit e) : (prt xs).length ≤ 50 * xs.length + 2 * tots xs := by
  induction xs with
  | nil => simp [prt]
  | cons e r ih =>
    have h1 := ln_len (h e (by simp))
    have h2 := ih (fun x hx => h x (by simp [hx]))
    have e1 : prt (e :: r) = ln e ++ prt r := by simp [prt]
    rw [e1, List.length_append, List.length_cons, tots]
    omega

set_option maxRecDepth 1000000 in
set_option maxHeartbeats 2000000 in
theorem Print_any (b o cap : Nat) (xs : List Ed) (w : World) (h : Eds w b o xs) (hl : xs.length ≤ 65536) (hF : ∀ e ∈ xs, EdFit e) (hT : tots xs ≤ 1048576) (htab : Lib.TabIs Tryd.prog w "internal/strconv.uint64pow10" .u64 Lib.pow10Tab) :
    Calls Tryd.prog 8 #[.slice (some ⟨b, o, none⟩) xs.length cap] w fun e w' => e = .returned (.string ⟨(prt xs).toArray⟩) ∧ Below w.heap.size w w' := by
  obtain ⟨i0, hi, hz0, hz1, hz2⟩ := info_parts infoU8b
  have HX : Hid (Eds w b o xs) := h
  have HF : Hid (∀ e ∈ xs, EdFit e) := hF
  have HT : Hid (Lib.TabBelow Tryd.prog w.heap.size w "internal/strconv.uint64pow10" .u64 Lib.pow10Tab) := Lib.tabBelow_of_tabIs htab
  have hbw := h.1
  have hN := prt_len hF
  obtain ⟨Q, hQ⟩ : ∃ Q, prt xs = Q := ⟨_, rfl⟩
  have HQ : Hid (prt xs = Q) := hQ
  rw [hQ] at hN
  rw [hQ]
  clear h hF hQ htab
  have hl' : ¬ (65536 : Int) < (xs.length : Int) := by omega
  go_enter Tryd.func8, Tryd.ntmps8
  go_wp2
  go_loopg [3, 11] xs.length (fun gk so si wr => ∃ (k : Nat) (p : List UInt8), gk = xs.length - k ∧ k ≤ xs.length ∧ si = .int .i64 (k : Int) ∧ p ++ prt (xs.drop k) = Q ∧ wr.ownsRow w.heap.size 5 1 so p.length (bc p) ∧ Below w.heap.size w wr)
  case atStart => exact ⟨0, [], by omega, Nat.zero_le _, rfl, by simpa using HQ.out, World.ownsRow_nil _ _ _ _, Below.refl _ _⟩
  case round =>
    obtain ⟨k, p, rfl, hk, rfl, hpq, hown, hbel⟩ := hrel
    have HB : Hid (Below w.heap.size w wr) := hbel
    have HO : Hid (wr.ownsRow w.heap.size 5 1 u3 p.length (bc p)) := hown
    have HPQ : Hid (p ++ prt (xs.drop k) = Q) := hpq
    clear hbel hown hpq
    by_cases hlt : k < xs.length
    · have hlt' : (k : Int) < (xs.length : Int) := by omega
      obtain ⟨e, he⟩ : ∃ e, xs[k]? = some e := ⟨_, List.getElem?_eq_getElem hlt⟩
      obtain ⟨ef0, ef1, et0, et1, -⟩ := HF.out e (List.mem_of_getElem? he)
      have hes : e.s.size ≤ 1048576 := by
        have : ∀ {l : List Ed}, e ∈ l → e.s.size ≤ tots l := by
          intro l
          induction l with
          | nil => intro h; cases h
          | cons x r ih =>
            intro h
            rw [tots]
            rcases List.mem_cons.1 h with rfl | h
            · omega
            · have := ih h; omega
        have := this (List.mem_of_getElem? he); omega
      have HNX : Hid (p ++ Lib.itoa e.f ++ [44] ++ Lib.itoa e.t ++ [32] ++ quo e.s.data.toList ++ [10] ++ prt (xs.drop (k + 1)) = Q) := by
        unfold Hid; rw [← HPQ.out, prt_drop he]; simp [ln]
      have hbd := congrArg List.length HNX.out
      simp only [List.length_append, List.length_cons, List.length_nil] at hbd
      obtain ⟨c0, c1, c2⟩ := HX.out.cells HB.out he
      clear he
      have hbd2 : p.length + (Lib.itoa e.f).length + (Lib.itoa e.t).length + (quo e.s.data.toList).length + 3 ≤ 5373952 := by omega
      clear hbd hN
      go_wp2_with (first
        | (go_at_call 27; (with_reducible refine (Tryd.strconv_AppendInt_10 w.heap.size p.length e.f ef0 ef1 _ (bc p) _ (HO.out.alloc _) (Nat.le_trans (HB.out.size) (by simp)) (by omega) (HT.out.on (HB.out.alloc HB.out.size _))).mono ?_); rintro e9 w1 ⟨v1, rfl, hown9, hb9, hk9⟩; have HBw1 : Hid (Below w.heap.size w w1) := (HB.out.alloc HB.out.size _).trans hb9; have KKw1 : Hid (KB (wr.alloc (.cells #[.int .i64 e.f, .int .i64 e.t, .string e.s] 45)) w1) := (KB.refl _).others hk9; have HOw1 : Hid (w1.ownsRow w.heap.size 5 1 v1 (p ++ Lib.itoa e.f).length (bc (p ++ Lib.itoa e.f))) := (by unfold Hid; rw [bc_append, List.length_append]; exact hown9); have BXw1 : Hid (Box w1 wr.heap.size e.f e.t e.s) := KKw1.out _ _ _ _ (Box.new wr e.f e.t e.s); clear hown9 hb9 hk9; obtain ⟨q0, q1, q2⟩ := BXw1.out.cells3)
        | (at_builtin; (refine wpList_append_own_any _ rfl _ _ 59 rfl w.heap.size 5 i0 (.int .u8 0) 1 1 Tryd.underlying59 hi hz0 hz1 hz2 rfl (by decide) _ _ _ rfl (HOw1.out.alloc _) (some ⟨w1.heap.size, 0, none⟩) 1 1 (bc [44]) rfl (by rfl) (fun h => by cases h) (fun ad had => by cases had; exact cells_new w1 (bc [44]) 5) (bc_one _) (by unfold maxLen; simp only [List.length_append]; omega) (by simp only [List.length_append]; omega) (by have := HBw1.out.size; simp; omega) ?_); intro v2 w2 hown9 hgrow9; have HBw2 : Hid (Below w.heap.size w w2) := (HBw1.out.alloc HBw1.out.size _).grown hgrow9 (by have := HBw1.out.size; simp; omega) (fun g h => (HOw1.out.lt g h).1); have KKw2 : Hid (KB (wr.alloc (.cells #[.int .i64 e.f, .int .i64 e.t, .string e.s] 45)) w2) := (KKw1.out.alloc _).own (HOw1.out.alloc _) hgrow9; have HOw2 : Hid (w2.ownsRow w.heap.size 5 1 v2 ((p ++ Lib.itoa e.f) ++ [44]).length (bc ((p ++ Lib.itoa e.f) ++ [44]))) := (by unfold Hid; rw [bc_append, List.length_append]; exact hown9); have BXw2 : Hid (Box w2 wr.heap.size e.f e.t e.s) := KKw2.out _ _ _ _ (Box.new wr e.f e.t e.s); clear hown9 hgrow9 q0 q1 q2; obtain ⟨q0, q1, q2⟩ := BXw2.out.cells3))
      go_wp2_with (first
        | (go_at_call 27; (with_reducible refine (Tryd.strconv_AppendInt_10 w.heap.size (p ++ Lib.itoa e.f ++ [44]).length e.t et0 et1 _ (bc (p ++ Lib.itoa e.f ++ [44])) _ HOw2.out (Nat.le_trans (HBw2.out.size) (by exact Nat.le_refl _)) (by simp only [List.length_append, List.length_cons, List.length_nil]; omega) (HT.out.on HBw2.out)).mono ?_); rintro e9 w3 ⟨v3, rfl, hown9, hb9, hk9⟩; have HBw3 : Hid (Below w.heap.size w w3) := HBw2.out.trans hb9; have KKw3 : Hid (KB (wr.alloc (.cells #[.int .i64 e.f, .int .i64 e.t, .string e.s] 45)) w3) := KKw2.out.others hk9; have HOw3 : Hid (w3.ownsRow w.heap.size 5 1 v3 ((p ++ Lib.itoa e.f ++ [44]) ++ Lib.itoa e.t).length (bc ((p ++ Lib.itoa e.f ++ [44]) ++ Lib.itoa e.t))) := (by unfold Hid; rw [bc_append, List.length_append]; exact hown9); have BXw3 : Hid (Box w3 wr.heap.size e.f e.t e.s) := KKw3.out _ _ _ _ (Box.new wr e.f e.t e.s); clear hown9 hb9 hk9 q0 q1 q2; obtain ⟨q0, q1, q2⟩ := BXw3.out.cells3)
        | (at_builtin; (refine wpList_append_own_any _ rfl _ _ 59 rfl w.heap.size 5 i0 (.int .u8 0) 1 1 Tryd.underlying59 hi hz0 hz1 hz2 rfl (by decide) _ _ _ rfl (HOw3.out.alloc _) (some ⟨w3.heap.size, 0, none⟩) 1 1 (bc [32]) rfl (by rfl) (fun h => by cases h) (fun ad had => by cases had; exact cells_new w3 (bc [32]) 5) (bc_one _) (by unfold maxLen; simp only [List.length_append, List.length_cons, List.length_nil]; omega) (by simp only [List.length_append, List.length_cons, List.length_nil]; omega) (by have := HBw3.out.size; simp; omega) ?_); intro v4 w4 hown9 hgrow9; have HBw4 : Hid (Below w.heap.size w w4) := (HBw3.out.alloc HBw3.out.size _).grown hgrow9 (by have := HBw3.out.size; simp; omega) (fun g h => (HOw3.out.lt g h).1); have KKw4 : Hid (KB (wr.alloc (.cells #[.int .i64 e.f, .int .i64 e.t, .string e.s] 45)) w4) := (KKw3.out.alloc _).own (HOw3.out.alloc _) hgrow9; have HOw4 : Hid (w4.ownsRow w.heap.size 5 1 v4 ((p ++ Lib.itoa e.f ++ [44] ++ Lib.itoa e.t) ++ [32]).length (bc ((p ++ Lib.itoa e.f ++ [44] ++ Lib.itoa e.t) ++ [32]))) := (by unfold Hid; rw [bc_append, List.length_append]; exact hown9); have BXw4 : Hid (Box w4 wr.heap.size e.f e.t e.s) := KKw4.out _ _ _ _ (Box.new wr e.f e.t e.s); clear hown9 hgrow9 q0 q1 q2; obtain ⟨q0, q1, q2⟩ := BXw4.out.cells3))
      go_wp2_with (first
        | (go_at_call 28; (refine (appendQuoted_any w.heap.size _ (p ++ Lib.itoa e.f ++ [44] ++ Lib.itoa e.t ++ [32]) e.s _ hes (by simp only [List.length_append, List.length_cons, List.length_nil]; omega) HBw4.out.size HOw4.out).mono ?_); rintro e9 w5 ⟨v5, rfl, hown9, hb9, hk9⟩; have HBw5 : Hid (Below w.heap.size w w5) := HBw4.out.trans hb9; have KKw5 : Hid (KB (wr.alloc (.cells #[.int .i64 e.f, .int .i64 e.t, .string e.s] 45)) w5) := KKw4.out.trans hk9; have HOw5 : Hid (w5.ownsRow w.heap.size 5 1 v5 (p ++ Lib.itoa e.f ++ [44] ++ Lib.itoa e.t ++ [32] ++ quo e.s.data.toList).length (bc (p ++ Lib.itoa e.f ++ [44] ++ Lib.itoa e.t ++ [32] ++ quo e.s.data.toList))) := hown9; have BXw5 : Hid (Box w5 wr.heap.size e.f e.t e.s) := KKw5.out _ _ _ _ (Box.new wr e.f e.t e.s); clear hown9 hb9 hk9 q0 q1 q2; obtain ⟨q0, q1, q2⟩ := BXw5.out.cells3)
        | (at_builtin; (refine wpList_append_own_any _ rfl _ _ 59 rfl w.heap.size 5 i0 (.int .u8 0) 1 1 Tryd.underlying59 hi hz0 hz1 hz2 rfl (by decide) _ _ _ rfl (HOw5.out.alloc _) (some ⟨w5.heap.size, 0, none⟩) 1 1 (bc [10]) rfl (by rfl) (fun h => by cases h) (fun ad had => by cases had; exact cells_new w5 (bc [10]) 5) (bc_one _) (by unfold maxLen; simp only [List.length_append, List.length_cons, List.length_nil]; omega) (by simp only [List.length_append, List.length_cons, List.length_nil]; omega) (by have := HBw5.out.size; simp; omega) ?_); intro v6 w6 hown9 hgrow9; have HBw6 : Hid (Below w.heap.size w w6) := (HBw5.out.alloc HBw5.out.size _).grown hgrow9 (by have := HBw5.out.size; simp; omega) (fun g h => (HOw5.out.lt g h).1); have KKw6 : Hid (KB (wr.alloc (.cells #[.int .i64 e.f, .int .i64 e.t, .string e.s] 45)) w6) := (KKw5.out.alloc _).own (HOw5.out.alloc _) hgrow9; have HOw6 : Hid (w6.ownsRow w.heap.size 5 1 v6 ((p ++ Lib.itoa e.f ++ [44] ++ Lib.itoa e.t ++ [32] ++ quo e.s.data.toList) ++ [10]).length (bc ((p ++ Lib.itoa e.f ++ [44] ++ Lib.itoa e.t ++ [32] ++ quo e.s.data.toList) ++ [10]))) := (by unfold Hid; rw [bc_append, List.length_append]; exact hown9); have BXw6 : Hid (Box w6 wr.heap.size e.f e.t e.s) := KKw6.out _ _ _ _ (Box.new wr e.f e.t e.s); clear hown9 hgrow9 q0 q1 q2; obtain ⟨q0, q1, q2⟩ := BXw6.out.cells3))
      go_roundg (xs.length - (k + 1))
      case measure => omega
      case rel => exact ⟨k + 1, p ++ Lib.itoa e.f ++ [44] ++ Lib.itoa e.t ++ [32] ++ quo e.s.data.toList ++ [10], rfl, by omega, by go_num, HNX.out, HOw6.out, HBw6.out⟩
    · have hge : ¬ (k : Int) < (xs.length : Int) := by omega
      have HZ : Hid (p = Q) := by
        unfold Hid; rw [← HPQ.out, List.drop_eq_nil_of_le (by omega)]; simp [prt]
      have hcv := own_string_any HO.out
      go_wp2
      go_ret
      have hz := HZ.out
      subst hz
      exact ⟨rfl, HB.out⟩
end Go.Proofs.YteolfolkolpehaaDoor
