import Derived.Test.YtnaipmgdipflgaaGreatDoorLyd
import Derived.Test.YtnaipmgdipflgaaGreatDoorLxs
namespace Go.Proofs.YtnaipmgdipflgaaGreatDoor
open Go.ChangeShapes Go.WideShapes Go.ChangeAt Go.RowKit Go.Maps Go.WideMaps
set_option linter.unusedVariables false
set_option linter.unusedSimpArgs false

/-- the bytes that an item says -/
def itB (i : Itm) : List UInt8 := if i.e then [i.v.toUInt8] else Lib.encodeRune (i.v : Int)
/-- what a text says from a place on -/
def tvs (s : ByteArray) (k : Nat) : List UInt8 :=
  if h : k < s.size then
    match ita s k 34 with
    | none => []
    | some i => if hn : 0 < i.n then itB i ++ tvs s (k + i.n) else []
  else []
termination_by s.size - k
theorem ita_in {s : ByteArray} {k : Nat} {i : Itm} (h : ita s k 34 = some i) : k < s.size ∧ 0 < i.n ∧ k + i.n ≤ s.size ∧ i.v ≤ 1114111 := by
  unfold ita at h
  split at h
  · cases h
  · rename_i h0
    have hk : k < s.size := by omega
    exact ⟨hk, itm_n hk h⟩
theorem cod_e {s : ByteArray} {k f c b : Nat} {it : Itm} (h : cod s k f c b = some it) (he : it.e = true) : it.v < 256 := by
  unfold cod at h
  split at h
  · cases h
  · split at h
    · cases h
    · split at h
      · cases h
      · rename_i h1; cases h; simp only [decide_eq_true_eq] at he; simp only; omega
theorem ita_e {s : ByteArray} {k : Nat} {i : Itm} (h : ita s k 34 = some i) (he : i.e = true) : i.v < 256 := by
  unfold ita at h
  split at h
  · cases h
  · by_cases h92 : bt s k = 92
    · rw [itm_back h92] at h
      unfold esA at h
      split at h
      · cases h
      · cases hes : esc (bt s (k + 1)) 34 with
        | some v => rw [hes] at h; cases h; cases he
        | none =>
          rw [hes] at h
          simp only at h
          repeat' split at h
          all_goals first | (cases h; done) | exact cod_e h he
    · rw [itm_else h92] at h; cases h; cases he
theorem tvs_some {s : ByteArray} {k : Nat} {i : Itm} (h : ita s k 34 = some i) : tvs s k = itB i ++ tvs s (k + i.n) := by
  obtain ⟨h1, h2, _⟩ := ita_in h
  rw [tvs, dif_pos h1, h]
  simp only
  rw [dif_pos h2]
theorem tvs_none {s : ByteArray} {k : Nat} (h : ita s k 34 = none) : tvs s k = [] := by
  rw [tvs]
  split
  · rw [h]
  · rfl
theorem bc_rune (r : Int) : Lib.runeCells r = bc (Lib.encodeRune r) := (Lib.byteCells_encodeRune r).symm
theorem rune_len (r : Int) : (Lib.encodeRune r).length ≤ 4 := by
  unfold Lib.encodeRune Lib.encodeRuneZ
  rw [List.length_map]
  repeat' split
  all_goals simp
/-- an item's cells -/
def vI : Option Itm → Int
  | some i => (i.v : Int)
  | none => 0
def tI (p : Nat) : Option Itm → Int
  | some i => (p : Int) + (i.n : Int)
  | none => 0
def eI : Option Itm → Bool
  | some i => i.e
  | none => false
def bI : Option Itm → Bool
  | some i => i.b
  | none => false
theorem itV_itC (p : Nat) (O : Option Itm) : itV p O = .agg #[.int .i64 (vI O), .int .i64 (tI p O), .bool (eI O), .bool (bI O)] := by cases O <;> rfl
theorem item_call (s : ByteArray) (k : Nat) (hs : s.size ≤ 4294967280) (hk : k ≤ s.size) (w : World) (hT : U8 w) :
    Calls Tryz.prog 37 #[.string s, .int .i64 (k : Int), .int .u8 34] w fun e w' => e = .returned (.tuple #[.agg #[.int .i64 (vI (ita s k 34)), .int .i64 (tI k (ita s k 34)), .bool (eI (ita s k 34)), .bool (bI (ita s k 34))], .bool (ita s k 34).isSome]) ∧ Below w.heap.size w w' := by
  have h := itemAt_any s k 34 hs (.inl rfl) hk w hT
  rw [itV_itC] at h
  exact h
/-- a row stands while a box of another type is written -/
theorem own_put4 {w : World} {B g n k : Nat} {e t : TypeId} {v : Value} {xs : List Value} {vs : Array Value} (h : w.ownsRow B e k v n xs) (X : Bx w g vs t) (hne : t ≠ e) {v0 v1 v2 v3 : Value} : ((((w.setCell ⟨g, 0, none⟩ v0).setCell ⟨g, 1, none⟩ v1).setCell ⟨g, 2, none⟩ v2).setCell ⟨g, 3, none⟩ v3).ownsRow B e k v n xs := by
  have hv : v.ownBlock ≠ some g := by
    intro e1
    obtain ⟨c, fz, hh⟩ := row_kindR h g e1
    have := (show w.heap[g]? = some (.cells vs t (0, 0)) from X).symm.trans hh
    cases this
    exact hne rfl
  exact ownsRow_setCell_other (ownsRow_setCell_other (ownsRow_setCell_other (ownsRow_setCell_other h (a := ⟨g, 0, none⟩) hv v0) (a := ⟨g, 1, none⟩) hv v1) (a := ⟨g, 2, none⟩) hv v2) (a := ⟨g, 3, none⟩) hv v3
theorem Bx.now4 {w : World} {g : Nat} {t : TypeId} {u0 u1 u2 u3 : Value} (B : Bx w g #[u0, u1, u2, u3] t) (v0 v1 v2 v3 : Value) : Bx ((((w.setCell ⟨g, 0, none⟩ v0).setCell ⟨g, 1, none⟩ v1).setCell ⟨g, 2, none⟩ v2).setCell ⟨g, 3, none⟩ v3) g #[v0, v1, v2, v3] t := by
  have := (((B.set 0 v0).set 1 v1).set 2 v2).set 3 v3
  simpa using this

set_option maxRecDepth 1000000 in
set_option maxHeartbeats 8000000 in
theorem textValue_any (s : ByteArray) (hs : s.size ≤ 4294967280) (h1 : 1 ≤ s.size) (w : World) (hT : U8 w) :
    Calls Tryz.prog 39 #[.string s] w fun e w' => e = .returned (.string ⟨(tvs s 1).toArray⟩) ∧ Below w.heap.size w w' := by
  obtain ⟨i0, hi, hz0, hz1, hz2⟩ := info_parts infoU8b
  have HT : Hid (∀ v, Below w.heap.size w v → U8 v) := fun v h => hT.below h
  obtain ⟨Q, hQ⟩ : ∃ Q, tvs s 1 = Q := ⟨_, rfl⟩
  have HQ : Hid (tvs s 1 = Q) := hQ
  rw [hQ]
  have HI1 : Hid (Calls Tryz.prog 37 #[.string s, .int .i64 1, .int .u8 34] w fun e w' => e = .returned (.tuple #[.agg #[.int .i64 (vI (ita s 1 34)), .int .i64 (tI 1 (ita s 1 34)), .bool (eI (ita s 1 34)), .bool (bI (ita s 1 34))], .bool (ita s 1 34).isSome]) ∧ Below w.heap.size w w') := item_call s 1 hs h1 w hT
  clear hT hQ
  go_enter Tryz.func39, Tryz.ntmps39
  go_wp2_with (go_at_call 37; (with_reducible refine HI1.out.mono ?_); rintro e w3 ⟨rfl, hb3⟩; have HB3 : Hid (Below w.heap.size w w3) := hb3; clear hb3)
  go_loopg [3, 4, 5] (s.size - 1) (fun gk so sp sk wr => ∃ (k g : Nat) (acc : List UInt8), gk = s.size - k ∧ 1 ≤ k ∧ k ≤ s.size ∧ w.heap.size ≤ g ∧ sp = .pointer (some ⟨g, 0, none⟩) ∧ sk = .bool (ita s k 34).isSome ∧ Bx wr g #[.int .i64 (vI (ita s k 34)), .int .i64 (tI k (ita s k 34)), .bool (eI (ita s k 34)), .bool (bI (ita s k 34))] 69 ∧ acc ++ tvs s k = Q ∧ acc.length ≤ 4 * k ∧ wr.ownsRow w.heap.size 5 1 so acc.length (bc acc) ∧ Below w.heap.size w wr)
  case atStart => exact ⟨1, w3.heap.size, [], by omega, by omega, h1, HB3.out.size, rfl, rfl, Bx.new _ _ _, HQ.out, by simp, World.ownsRow_nil _ _ _ _, HB3.out.alloc HB3.out.size _⟩
  case round =>
    obtain ⟨k, g, acc, rfl, hk1, hk, hgw, rfl, rfl, hX, hacc, hal, hown, hbel⟩ := hrel
    have HX : Hid (Bx wr g #[.int .i64 (vI (ita s k 34)), .int .i64 (tI k (ita s k 34)), .bool (eI (ita s k 34)), .bool (bI (ita s k 34))] 69) := hX
    have HA : Hid (acc ++ tvs s k = Q) := hacc
    have HO : Hid (wr.ownsRow w.heap.size 5 1 u3 acc.length (bc acc)) := hown
    have HB : Hid (Below w.heap.size w wr) := hbel
    clear hX hacc hown hbel
    cases hO : ita s k 34 with
    | none =>
      have HN : Hid (acc = Q) := by unfold Hid; rw [← HA.out, tvs_none hO]; simp
      have hcv := own_string_any HO.out
      go_wp2
      go_ret
      exact ⟨by rw [HN.out]; rfl, HB.out⟩
    | some it =>
      obtain ⟨hks, hn0, hkn, hv⟩ := ita_in hO
      have hstep := tvs_some hO
      rw [hO] at HX
      obtain ⟨n, v, e, b⟩ := it
      simp only [vI, tI, eI, bI] at HX hn0 hkn hv hstep
      have HIT : Hid (∀ u, Below w.heap.size w u → Calls Tryz.prog 37 #[.string s, .int .i64 ((k : Int) + (n : Int)), .int .u8 34] u fun e w' => e = .returned (.tuple #[.agg #[.int .i64 (vI (ita s (k + n) 34)), .int .i64 (tI (k + n) (ita s (k + n) 34)), .bool (eI (ita s (k + n) 34)), .bool (bI (ita s (k + n) 34))], .bool (ita s (k + n) 34).isSome]) ∧ Below u.heap.size u w') := fun u hu => by
        have h := item_call s (k + n) hs hkn u (HT.out u hu)
        rw [show ((k + n : Nat) : Int) = (k : Int) + (n : Int) by omega] at h
        exact h
      have z0 := HX.out.cell 0
      have z1 := HX.out.cell 1
      have z2 := HX.out.cell 2
      have z3 := HX.out.cell 3
      simp at z0 z1 z2 z3
      have hgr : g < wr.heap.size := HX.out.lt
      have hne : u3.ownBlock ≠ some g := by
        intro e1
        obtain ⟨cc, fz, hh⟩ := row_kindR HO.out g e1
        have := (show wr.heap[g]? = some (.cells _ _ (0, 0)) from HX.out).symm.trans hh
        cases this
      have HNE : Hid (u3.ownBlock ≠ some g) := hne
      clear hne
      cases e with
      | false =>
        have HNX : Hid ((acc ++ Lib.encodeRune (v : Int)) ++ tvs s (k + n) = Q) := by unfold Hid; rw [← HA.out, hstep, List.append_assoc]; rfl
        have HBL : Hid ((Lib.encodeRune (v : Int)).length ≤ 4) := rune_len _
        have HAR : Hid (Calls Tryz.prog 44 #[u3, .int .i32 (v : Int)] wr fun e w' => ∃ v', e = .returned v' ∧ w'.ownsRow w.heap.size 5 1 v' (acc.length + (Lib.runeCells (v : Int)).length) (bc acc ++ Lib.runeCells (v : Int)) ∧ ∃ o, (wr.alloc o).grownBy w' u3.ownBlock) := Tryz.utf8_AppendRune_plain w.heap.size u3 acc.length (bc acc) (v : Int) (by omega) (by omega) wr HO.out (by omega) HB.out.size
        obtain ⟨BB, hBB⟩ : ∃ BB, Lib.encodeRune (v : Int) = BB := ⟨_, rfl⟩
        rw [bc_rune, hBB] at HAR
        rw [hBB] at HNX HBL
        clear hstep hO hBB HA
        go_wp2_with (first
          | (go_at_call 44; (with_reducible refine HAR.out.mono ?_); rintro e w5 ⟨v5, rfl, ho5, o5, hg5'⟩; have HO5 : Hid (w5.ownsRow w.heap.size 5 1 v5 (acc ++ BB).length (bc (acc ++ BB))) := (by unfold Hid; rw [bc_append, List.length_append]; rw [bc_length] at ho5; exact ho5); have HB5 : Hid (Below w.heap.size w w5) := (HB.out.alloc HB.out.size _).grown hg5' (by have := HB.out.size; simp; omega) (fun j hj => (HO.out.lt j hj).1); have HG5 : Hid (Bx w5 g #[.int .i64 (v : Int), .int .i64 ((k : Int) + (n : Int)), .bool false, .bool b] 69) := (hg5'.block g (by simp; omega) (fun e => HNE.out e.symm)).trans (HX.out.alloc o5); clear ho5 hg5' z0 z1 z2 z3; have HXa : Hid (Bx (w5.alloc (.cells #[.int .i64 (v : Int), .int .i64 ((k : Int) + (n : Int)), .bool false, .bool b] 69)) w5.heap.size #[.int .i64 (v : Int), .int .i64 ((k : Int) + (n : Int)), .bool false, .bool b] 69) := Bx.new _ _ _; have HBa : Hid (Below w.heap.size w (w5.alloc (.cells #[.int .i64 (v : Int), .int .i64 ((k : Int) + (n : Int)), .bool false, .bool b] 69))) := HB5.out.alloc HB5.out.size _; have HOa : Hid ((w5.alloc (.cells #[.int .i64 (v : Int), .int .i64 ((k : Int) + (n : Int)), .bool false, .bool b] 69)).ownsRow w.heap.size 5 1 v5 (acc ++ BB).length (bc (acc ++ BB))) := HO5.out.alloc _; have q0 : w5.cell? ⟨g, 0, none⟩ = some (.int .i64 (v : Int)) := HG5.out.cell 0; have q1 : w5.cell? ⟨g, 1, none⟩ = some (.int .i64 ((k : Int) + (n : Int))) := HG5.out.cell 1; have q2 : w5.cell? ⟨g, 2, none⟩ = some (.bool false) := HG5.out.cell 2; have q3 : w5.cell? ⟨g, 3, none⟩ = some (.bool b) := HG5.out.cell 3; have hg5 : g < w5.heap.size := HG5.out.lt)
          | (go_at_call 37; (with_reducible refine (HIT.out _ HBa.out).mono ?_); rintro e w6 ⟨rfl, hb6⟩; have HX6 : Hid (Bx w6 w5.heap.size #[.int .i64 (v : Int), .int .i64 ((k : Int) + (n : Int)), .bool false, .bool b] 69) := HXa.out.below hb6 HXa.out.lt; have y0 := HX6.out.cell 0; have y1 := HX6.out.cell 1; have y2 := HX6.out.cell 2; have y3 := HX6.out.cell 3; have f0 := HX6.out.free 0; have f1 := HX6.out.free 1; have f2 := HX6.out.free 2; have f3 := HX6.out.free 3; simp at y0 y1 y2 y3; have HB6 : Hid (Below w.heap.size w w6) := HBa.out.trans (hb6.mono HBa.out.size); have HO6 : Hid (w6.ownsRow w.heap.size 5 1 v5 (acc ++ BB).length (bc (acc ++ BB))) := ownsRow_below HOa.out hb6 (Nat.le_refl _); clear hb6))
        go_roundg (s.size - (k + n))
        case measure => omega
        case rel => exact ⟨k + n, w5.heap.size, acc ++ BB, rfl, by omega, by omega, HB5.out.size, rfl, rfl, HX6.out.now4 _ _ _ _, HNX.out, by rw [List.length_append]; have := HBL.out; omega, own_put4 HO6.out HX6.out (by decide), bel_put4 HB6.out HB5.out.size⟩
      | true =>
        have hv8 : v < 256 := ita_e hO rfl
        have HNX : Hid ((acc ++ [v.toUInt8]) ++ tvs s (k + n) = Q) := by unfold Hid; rw [← HA.out, hstep, List.append_assoc]; rfl
        obtain ⟨BB, hBB⟩ : ∃ BB : List UInt8, [v.toUInt8] = BB := ⟨_, rfl⟩
        have HBC : Hid (bc BB = [.int .u8 (v : Int)]) := by
          unfold Hid; rw [← hBB]; simp [bc]; omega
        have HBL : Hid (BB.length = 1) := by unfold Hid; rw [← hBB]; rfl
        rw [hBB] at HNX
        clear hstep hO hBB HA
        go_wp2_with (first
          | (at_builtin; (refine wpList_append_at _ rfl (.tmp 21) (.tmp 25) 79 rfl w.heap.size 5 i0 (.int .u8 0) 1 1 Tryz.underlying79 hi hz0 hz1 hz2 rfl (by decide) _ acc.length (bc acc) rfl (HO.out.alloc _) (some ⟨wr.heap.size, 0, none⟩) 1 1 [.int .u8 (v : Int)] rfl rfl (fun h => by cases h) (fun ad had => by cases had; exact cells_new _ _ _) (fun u hu => by simp at hu; subst hu; rfl) (by unfold maxLen; omega) (by omega) (by have := HB.out.size; simp; omega) ?_); intro v5 w5 ho5 hg5' _; have HO5 : Hid (w5.ownsRow w.heap.size 5 1 v5 (acc ++ BB).length (bc (acc ++ BB))) := (by unfold Hid; rw [bc_append, List.length_append, HBC.out, HBL.out]; exact ho5); have HB5 : Hid (Below w.heap.size w w5) := (HB.out.alloc HB.out.size _).grown hg5' (by have := HB.out.size; simp; omega) (fun j hj => (HO.out.lt j hj).1); have HG5 : Hid (Bx w5 g #[.int .i64 (v : Int), .int .i64 ((k : Int) + (n : Int)), .bool true, .bool b] 69) := (hg5'.block g (by simp; omega) (fun e => HNE.out e.symm)).trans (HX.out.alloc _); clear ho5 hg5' z0 z1 z2 z3; have HXa : Hid (Bx (w5.alloc (.cells #[.int .i64 (v : Int), .int .i64 ((k : Int) + (n : Int)), .bool true, .bool b] 69)) w5.heap.size #[.int .i64 (v : Int), .int .i64 ((k : Int) + (n : Int)), .bool true, .bool b] 69) := Bx.new _ _ _; have HBa : Hid (Below w.heap.size w (w5.alloc (.cells #[.int .i64 (v : Int), .int .i64 ((k : Int) + (n : Int)), .bool true, .bool b] 69))) := HB5.out.alloc HB5.out.size _; have HOa : Hid ((w5.alloc (.cells #[.int .i64 (v : Int), .int .i64 ((k : Int) + (n : Int)), .bool true, .bool b] 69)).ownsRow w.heap.size 5 1 v5 (acc ++ BB).length (bc (acc ++ BB))) := HO5.out.alloc _; have q0 : w5.cell? ⟨g, 0, none⟩ = some (.int .i64 (v : Int)) := HG5.out.cell 0; have q1 : w5.cell? ⟨g, 1, none⟩ = some (.int .i64 ((k : Int) + (n : Int))) := HG5.out.cell 1; have q2 : w5.cell? ⟨g, 2, none⟩ = some (.bool true) := HG5.out.cell 2; have q3 : w5.cell? ⟨g, 3, none⟩ = some (.bool b) := HG5.out.cell 3; have hg5 : g < w5.heap.size := HG5.out.lt)
          | (go_at_call 37; (with_reducible refine (HIT.out _ HBa.out).mono ?_); rintro e w6 ⟨rfl, hb6⟩; have HX6 : Hid (Bx w6 w5.heap.size #[.int .i64 (v : Int), .int .i64 ((k : Int) + (n : Int)), .bool true, .bool b] 69) := HXa.out.below hb6 HXa.out.lt; have y0 := HX6.out.cell 0; have y1 := HX6.out.cell 1; have y2 := HX6.out.cell 2; have y3 := HX6.out.cell 3; have f0 := HX6.out.free 0; have f1 := HX6.out.free 1; have f2 := HX6.out.free 2; have f3 := HX6.out.free 3; simp at y0 y1 y2 y3; have HB6 : Hid (Below w.heap.size w w6) := HBa.out.trans (hb6.mono HBa.out.size); have HO6 : Hid (w6.ownsRow w.heap.size 5 1 v5 (acc ++ BB).length (bc (acc ++ BB))) := ownsRow_below HOa.out hb6 (Nat.le_refl _); clear hb6))
        go_roundg (s.size - (k + n))
        case measure => omega
        case rel => exact ⟨k + n, w5.heap.size, acc ++ BB, rfl, by omega, by omega, HB5.out.size, rfl, rfl, HX6.out.now4 _ _ _ _, HNX.out, by rw [List.length_append]; have := HBL.out; omega, own_put4 HO6.out HX6.out (by decide), bel_put4 HB6.out HB5.out.size⟩
end Go.Proofs.YtnaipmgdipflgaaGreatDoor
