import Derived.Test.YtcanabbjliloeaaDoorBkl
namespace Go.Proofs.YtcanabbjliloeaaDoor
open Go.ChangeShapes Go.WideShapes Go.ChangeAt Go.RowKit
set_option linter.unusedVariables false

set_option maxHeartbeats 1000000 in
set_option maxRecDepth 100000 in
theorem writeString_k (B b : Nat) (bs : List Value) (s : ByteArray) (w : World) (h : Lib.IsBuilder 42 5 B b bs w) (hlen : bs.length + s.size ≤ 140737488355328) (hBw : B ≤ w.heap.size) :
    Calls Tryd.prog 11 #[.pointer (some ⟨b, 0, none⟩), .string s] w fun e w' => e = .returned (.tuple #[.int .i64 s.size, .nilIface]) ∧ Lib.BuilderAt 42 5 B b (.pointer (some ⟨b, 0, none⟩)) (bs ++ Lib.strCells s) w' ∧ Below B w w' ∧ Lib.OthersKept 5 (some b) w w' := by
  obtain ⟨i0, hi, hz0, hz1, hz2⟩ := info_parts infoByte
  have H : Hid (Lib.IsBuilder 42 5 B b bs w) := h
  clear h
  go_enter Tryd.func11, Tryd.ntmps11
  go_wp2_with (first
    | (go_at_call 17; refine (copyCheck_k B b bs _ H.out).mono ?_; rintro e w1 ⟨rfl, h1, hb1, hk1⟩; have HK1 : Hid (Lib.OthersKept 5 (some b) w w1) := hk1; obtain ⟨hB, v, hbk, hown, hne⟩ := h1; have c1 : w1.cell? ⟨b, 1, none⟩ = some v := (by rw [Lib.cell_of_heap hbk]; rfl); have HBK : Hid (w1.heap[b]? = some (.cells #[.pointer (some ⟨b, 0, none⟩), v] 42 (0, 0))) := hbk; have HO : Hid (w1.ownsRow B 5 1 v bs.length bs) := hown; have HB1 : Hid (Below B w w1) := hb1; have HNE : Hid (v.ownBlock ≠ some b) := hne; have hsz1 : w.heap.size ≤ w1.heap.size := hb1.size; have hb1w : b < w1.heap.size := lt_of_block hbk; clear hbk hown hb1 hne hk1)
    | (at_builtin; (refine Lib.wpList_append_own_string _ rfl (.tmp 12) (.tmp 13) 40 9 rfl B 5 i0 Tryd.underlying40 Tryd.underlying9 hi hz0 hz1 hz2 _ _ _ rfl HO.out s rfl ?_ ?_ ?_ ?_)))
  case refine_1 => unfold maxLen; omega
  case refine_2 => omega
  case refine_3 => omega
  intro v' w2 hown' hgrow _
  have hb2 : w2.heap[b]? = some (.cells #[.pointer (some ⟨b, 0, none⟩), v] 42 (0, 0)) := by
    rw [hgrow.block b hb1w (fun e => HNE.out e.symm)]; exact HBK.out
  have d1 : w2.cell? ⟨b, 1, none⟩ = some v := by rw [Lib.cell_of_heap hb2]; rfl
  have f1 : w2.frozen? ⟨b, 1, none⟩ = false := Lib.frozen_of_heap hb2 1
  have HB2 : Hid (Below B w w2) := HB1.out.grown hgrow (by omega) (fun k hk => (HO.out.lt k hk).1)
  have HO2 : Hid (w2.ownsRow B 5 1 v' (bs.length + s.size) (bs ++ Lib.strCells s)) := hown'
  have HK2 : Hid (Lib.OthersKept 5 (some b) w w2) := HK1.out.grown hgrow (row_kind HO.out)
  have HBK2 : Hid (w2.heap[b]? = some (.cells #[.pointer (some ⟨b, 0, none⟩), v] 42 (0, 0))) := hb2
  obtain ⟨g, cap, rfl⟩ : ∃ g cap, v' = .slice g (bs.length + s.size) cap := by
    rcases hown'.2 with ⟨h1, h0⟩ | ⟨g, cap, cur, hv, _⟩
    · exact ⟨none, 0, by rw [h1, h0]⟩
    · exact ⟨_, cap, hv⟩
  clear hb2 hown' hgrow
  go_wp2
  go_ret2
  exact ⟨rfl, Lib.BuilderAt.put hB HBK2.out (by rw [List.length_append, Lib.strCells_eq, Lib.byteCells_length, ← Lib.size_eq, ← Lib.strCells_eq]; exact HO2.out) (by decide), HB2.out.setCell (p := ⟨b, 1, none⟩) hB _, HK2.out.setCell ⟨b, 1, none⟩ rfl _⟩
end Go.Proofs.YtcanabbjliloeaaDoor
