import Derived.Test.YteolfolkolpehaaDoorNm
import Derived.Test.YteolfolkolpehaaDoorAp1
import Derived.Test.YteolfolkolpehaaDoorShf
import Derived.Lib.ItoaLen
import Derived.Lib.ConvBytes
import Derived.Lib.AtoiErrMem
import Derived.Laws.OwnMore
import Derived.Test.YteolfolkolpehaaDoorCk
namespace Go.Proofs.YteolfolkolpehaaDoor
open Go.ChangeShapes Go.WideShapes Go.ChangeAt Go.RowKit
set_option linter.unusedVariables false

def esc1 (c : UInt8) : List UInt8 := if c = 34 ∨ c = 92 then [92, c] else if c = 10 then [92, 110] else [c]
def esc (s : List UInt8) : List UInt8 := s.flatMap esc1
def quo (s : List UInt8) : List UInt8 := 34 :: (esc s ++ [34])
theorem esc_cons (c : UInt8) (r : List UInt8) : esc (c :: r) = esc1 c ++ esc r := by simp [esc]
theorem esc1_len (c : UInt8) : (esc1 c).length ≤ 2 := by unfold esc1; split <;> (try split) <;> simp
theorem esc_len (s : List UInt8) : (esc s).length ≤ 2 * s.length := by
  induction s with
  | nil => simp [esc]
  | cons c r ih => have := esc1_len c; rw [esc_cons, List.length_append, List.length_cons]; omega
theorem esc_drop {s : List UInt8} {k : Nat} {c : UInt8} (h : s[k]? = some c) : esc (s.drop k) = esc1 c ++ esc (s.drop (k + 1)) := by rw [drop_get h, esc_cons]
theorem bc_one (l : List UInt8) : ∀ u ∈ bc l, u.oneCell' = true := by
  intro u hu
  obtain ⟨b, _, rfl⟩ := List.mem_map.1 hu
  rfl

set_option maxRecDepth 1000000 in
set_option maxHeartbeats 2000000 in
theorem quoted_any (s : ByteArray) (w : World) (hs : s.size ≤ 1048576) :
    Calls Tryd.prog 31 #[.string s] w fun e w' => e = .returned (.string ⟨(quo s.data.toList).toArray⟩) ∧ Below w.heap.size w w' := by
  obtain ⟨i0, hi, hz0, hz1, hz2⟩ := info_parts infoU8b
  have hl := bytes_len s
  obtain ⟨Q, hQ⟩ : ∃ Q, 34 :: esc s.data.toList = Q := ⟨_, rfl⟩
  have HQ : Hid (34 :: esc s.data.toList = Q) := hQ
  clear hQ
  go_enter Tryd.func31, Tryd.ntmps31
  go_wp2
  go_loopg [3, 4] s.size (fun gk sb si wr => ∃ (k : Nat) (l : List UInt8), gk = s.size - k ∧ k ≤ s.size ∧ si = .int .i64 (k : Int) ∧ l ++ esc (s.data.toList.drop k) = Q ∧ l.length ≤ 1 + 2 * k ∧ 0 < l.length ∧ wr.ownsRow w.heap.size 5 1 sb l.length (bc l) ∧ Below w.heap.size w wr)
  case atStart => exact ⟨0, [34], by omega, Nat.zero_le _, rfl, HQ.out, by simp, by simp, World.ownsRow_lit w (bc [34]).toArray 1 (Nat.le_refl _) (by unfold maxLen; omega) rfl, by go_grown⟩
  case round =>
    obtain ⟨k, l, rfl, hk, rfl, hlq, hll, hl0, hown, hbel⟩ := hrel
    have HB : Hid (Below w.heap.size w wr) := hbel
    have HO : Hid (wr.ownsRow w.heap.size 5 1 u3 l.length (bc l)) := hown
    have HLQ : Hid (l ++ esc (s.data.toList.drop k) = Q) := hlq
    clear hbel hown hlq
    by_cases hlt : k < s.size
    · have hlt' : (k : Int) < (s.size : Int) := by omega
      obtain ⟨c, hc⟩ : ∃ c, s[k]'hlt = c := ⟨_, rfl⟩
      have hck : s.data.toList[k]? = some c := by
        rw [List.getElem?_eq_getElem (by omega), ← hc]; rfl
      have HNC : Hid (l ++ esc1 c ++ esc (s.data.toList.drop (k + 1)) = Q) := by unfold Hid; rw [← HLQ.out, esc_drop hck, List.append_assoc]
      clear hck
      by_cases h34 : c = 34
      · have HNX : Hid (l ++ [92, c] ++ esc (s.data.toList.drop (k + 1)) = Q) := by
          have := HNC.out; unfold esc1 at this; rw [if_pos (.inl h34)] at this; exact this
        have t1 : ((c.toNat : Int) == 34) = true := by rw [h34]; rfl
        clear h34
        go_wp2_with (at_builtin; (refine wpList_append_own_any _ rfl _ _ 59 rfl w.heap.size 5 i0 (.int .u8 0) 1 1 Tryd.underlying59 hi hz0 hz1 hz2 rfl (by decide) _ _ _ rfl (HO.out.alloc _) (some ⟨wr.heap.size, 0, none⟩) 2 2 (bc [92, c]) rfl (by rfl) (fun h => by cases h) (fun ad had => by cases had; exact cells_new wr (bc [92, c]) 5) (bc_one _) (by unfold maxLen; omega) (by omega) (by have := HB.out.size; simp; omega) ?_); intro v9 w9 hown9 hgrow9; have HBw9 : Hid (Below w.heap.size w w9) := (HB.out.alloc HB.out.size _).grown hgrow9 (by have := HB.out.size; simp; omega) (fun g h => (HO.out.lt g h).1); have HOw9 : Hid (w9.ownsRow w.heap.size 5 1 v9 (l ++ [92, c]).length (bc (l ++ [92, c]))) := (by unfold Hid; rw [bc_append, List.length_append]; exact hown9); clear hown9 hgrow9)
        go_roundg (s.size - (k + 1))
        case measure => omega
        case rel => exact ⟨k + 1, l ++ [92, c], rfl, by omega, by go_num, HNX.out, by simp only [List.length_append, List.length_cons, List.length_nil]; omega, by simp only [List.length_append]; omega, HOw9.out, HBw9.out⟩
      · have t1 : ((c.toNat : Int) == 34) = false := by
          rw [beq_eq_false_iff_ne]; intro h; apply h34; apply UInt8.toNat_inj.1; show c.toNat = 34; omega
        by_cases h92 : c = 92
        · have HNX : Hid (l ++ [92, c] ++ esc (s.data.toList.drop (k + 1)) = Q) := by
            have := HNC.out; unfold esc1 at this; rw [if_pos (.inr h92)] at this; exact this
          have t2 : ((c.toNat : Int) == 92) = true := by rw [h92]; rfl
          clear h34 h92
          go_wp2_with (at_builtin; (refine wpList_append_own_any _ rfl _ _ 59 rfl w.heap.size 5 i0 (.int .u8 0) 1 1 Tryd.underlying59 hi hz0 hz1 hz2 rfl (by decide) _ _ _ rfl (HO.out.alloc _) (some ⟨wr.heap.size, 0, none⟩) 2 2 (bc [92, c]) rfl (by rfl) (fun h => by cases h) (fun ad had => by cases had; exact cells_new wr (bc [92, c]) 5) (bc_one _) (by unfold maxLen; omega) (by omega) (by have := HB.out.size; simp; omega) ?_); intro v9 w9 hown9 hgrow9; have HBw9 : Hid (Below w.heap.size w w9) := (HB.out.alloc HB.out.size _).grown hgrow9 (by have := HB.out.size; simp; omega) (fun g h => (HO.out.lt g h).1); have HOw9 : Hid (w9.ownsRow w.heap.size 5 1 v9 (l ++ [92, c]).length (bc (l ++ [92, c]))) := (by unfold Hid; rw [bc_append, List.length_append]; exact hown9); clear hown9 hgrow9)
          go_roundg (s.size - (k + 1))
          case measure => omega
          case rel => exact ⟨k + 1, l ++ [92, c], rfl, by omega, by go_num, HNX.out, by simp only [List.length_append, List.length_cons, List.length_nil]; omega, by simp only [List.length_append]; omega, HOw9.out, HBw9.out⟩
        · have t2 : ((c.toNat : Int) == 92) = false := by
            rw [beq_eq_false_iff_ne]; intro h; apply h92; apply UInt8.toNat_inj.1; show c.toNat = 92; omega
          by_cases h10 : c = 10
          · have HNX : Hid (l ++ [92, 110] ++ esc (s.data.toList.drop (k + 1)) = Q) := by
              have := HNC.out; unfold esc1 at this; rw [if_neg (fun h => h.elim h34 h92), if_pos h10] at this; exact this
            have t3 : ((c.toNat : Int) == 10) = true := by rw [h10]; rfl
            clear h34 h92 h10
            go_wp2_with (at_builtin; (refine wpList_append_own_any _ rfl _ _ 59 rfl w.heap.size 5 i0 (.int .u8 0) 1 1 Tryd.underlying59 hi hz0 hz1 hz2 rfl (by decide) _ _ _ rfl (HO.out.alloc _) (some ⟨wr.heap.size, 0, none⟩) 2 2 (bc [92, 110]) rfl (by rfl) (fun h => by cases h) (fun ad had => by cases had; exact cells_new wr (bc [92, 110]) 5) (bc_one _) (by unfold maxLen; omega) (by omega) (by have := HB.out.size; simp; omega) ?_); intro v9 w9 hown9 hgrow9; have HBw9 : Hid (Below w.heap.size w w9) := (HB.out.alloc HB.out.size _).grown hgrow9 (by have := HB.out.size; simp; omega) (fun g h => (HO.out.lt g h).1); have HOw9 : Hid (w9.ownsRow w.heap.size 5 1 v9 (l ++ [92, 110]).length (bc (l ++ [92, 110]))) := (by unfold Hid; rw [bc_append, List.length_append]; exact hown9); clear hown9 hgrow9)
            go_roundg (s.size - (k + 1))
            case measure => omega
            case rel => exact ⟨k + 1, l ++ [92, 110], rfl, by omega, by go_num, HNX.out, by simp only [List.length_append, List.length_cons, List.length_nil]; omega, by simp only [List.length_append]; omega, HOw9.out, HBw9.out⟩
          · have t3 : ((c.toNat : Int) == 10) = false := by
              rw [beq_eq_false_iff_ne]; intro h; apply h10; apply UInt8.toNat_inj.1; show c.toNat = 10; omega
            have HNX : Hid (l ++ [c] ++ esc (s.data.toList.drop (k + 1)) = Q) := by
              have := HNC.out; unfold esc1 at this; rw [if_neg (fun h => h.elim h34 h92), if_neg h10] at this; exact this
            clear h34 h92 h10
            go_wp2_with (at_builtin; (refine wpList_append_own_any _ rfl _ _ 59 rfl w.heap.size 5 i0 (.int .u8 0) 1 1 Tryd.underlying59 hi hz0 hz1 hz2 rfl (by decide) _ _ _ rfl (HO.out.alloc _) (some ⟨wr.heap.size, 0, none⟩) 1 1 (bc [c]) rfl (by rfl) (fun h => by cases h) (fun ad had => by cases had; exact cells_new wr (bc [c]) 5) (bc_one _) (by unfold maxLen; omega) (by omega) (by have := HB.out.size; simp; omega) ?_); intro v9 w9 hown9 hgrow9; have HBw9 : Hid (Below w.heap.size w w9) := (HB.out.alloc HB.out.size _).grown hgrow9 (by have := HB.out.size; simp; omega) (fun g h => (HO.out.lt g h).1); have HOw9 : Hid (w9.ownsRow w.heap.size 5 1 v9 (l ++ [c]).length (bc (l ++ [c]))) := (by unfold Hid; rw [bc_append, List.length_append]; exact hown9); clear hown9 hgrow9)
            go_roundg (s.size - (k + 1))
            case measure => omega
            case rel => exact ⟨k + 1, l ++ [c], rfl, by omega, by go_num, HNX.out, by simp only [List.length_append, List.length_cons, List.length_nil]; omega, by simp only [List.length_append]; omega, HOw9.out, HBw9.out⟩
    · have hge : ¬ (k : Int) < (s.size : Int) := by omega
      have HZ : Hid (l = Q) := by
        unfold Hid; rw [← HLQ.out, List.drop_eq_nil_of_le (by omega)]; simp [esc]
      go_wp2_with (at_builtin; (refine wpList_append_own_any _ rfl _ _ 59 rfl w.heap.size 5 i0 (.int .u8 0) 1 1 Tryd.underlying59 hi hz0 hz1 hz2 rfl (by decide) _ _ _ rfl (HO.out.alloc _) (some ⟨wr.heap.size, 0, none⟩) 1 1 (bc [34]) rfl (by rfl) (fun h => by cases h) (fun ad had => by cases had; exact cells_new wr (bc [34]) 5) (bc_one _) (by unfold maxLen; omega) (by omega) (by have := HB.out.size; simp; omega) ?_); intro v9 w9 hown9 hgrow9; have HBw9 : Hid (Below w.heap.size w w9) := (HB.out.alloc HB.out.size _).grown hgrow9 (by have := HB.out.size; simp; omega) (fun g h => (HO.out.lt g h).1); have HOw9 : Hid (w9.ownsRow w.heap.size 5 1 v9 (l ++ [34]).length (bc (l ++ [34]))) := (by unfold Hid; rw [bc_append, List.length_append]; exact hown9); clear hown9 hgrow9; have hcv := own_string_any HOw9.out)
      go_ret
      refine ⟨?_, HBw9.out⟩
      rw [HZ.out, ← HQ.out]; rfl
end Go.Proofs.YteolfolkolpehaaDoor

namespace Go.Proofs.YteolfolkolpehaaDoor
open Go.ChangeShapes Go.WideShapes Go.ChangeAt Go.RowKit
set_option linter.unusedVariables false

/-- a row of the call's own is no row of a conversion -/
theorem own_mark {w : World} {B e n G z : Nat} {v : Value} {xs : List Value} {C : Array Value} {e' : TypeId} (h : w.ownsRow B e 1 v n xs) (hG : w.heap[G]? = some (.cells C e' (z, z + 1))) : v.ownBlock ≠ some G := by
  rcases h.2 with ⟨rfl, _⟩ | ⟨g, cap, cur, rfl, _, hh, _⟩
  · intro h; cases h
  · intro h
    have : g = G := by simpa [Value.ownBlock] using h
    subst this
    rw [hG] at hh
    simp at hh

set_option maxRecDepth 1000000 in
set_option maxHeartbeats 2000000 in
theorem appendQuoted_any (B : Nat) (v : Value) (l0 : List UInt8) (s : ByteArray) (w : World) (hs : s.size ≤ 1048576) (hl0 : l0.length ≤ 1099511627776) (hB : B ≤ w.heap.size) (ho : w.ownsRow B 5 1 v l0.length (bc l0)) :
    Calls Tryd.prog 28 #[v, .string s] w fun e w' => ∃ v', e = .returned v' ∧ w'.ownsRow B 5 1 v' (l0 ++ quo s.data.toList).length (bc (l0 ++ quo s.data.toList)) ∧ Below B w w' ∧ KB w w' := by
  obtain ⟨i0, hi, hz0, hz1, hz2⟩ := info_parts infoU8b
  have hl := bytes_len s
  have HO0 : Hid (w.ownsRow B 5 1 v l0.length (bc l0)) := ho
  have HB0 : Hid (Below B w w) := Below.refl B w
  have KK : Hid (KB w w) := KB.refl w
  clear ho
  obtain ⟨Q, hQ⟩ : ∃ Q, l0 ++ 34 :: esc s.data.toList = Q := ⟨_, rfl⟩
  have HQ : Hid (l0 ++ 34 :: esc s.data.toList = Q) := hQ
  clear hQ
  go_enter Tryd.func28, Tryd.ntmps28
  go_wp2_with (at_builtin; (refine wpList_append_own_any _ rfl _ _ 59 rfl B 5 i0 (.int .u8 0) 1 1 Tryd.underlying59 hi hz0 hz1 hz2 rfl (by decide) _ _ _ rfl (HO0.out.alloc _) (some ⟨w.heap.size, 0, none⟩) 1 1 (bc [34]) rfl (by rfl) (fun h => by cases h) (fun ad had => by cases had; exact cells_new w (bc [34]) 5) (bc_one _) (by unfold maxLen; omega) (by omega) (by have := HB0.out.size; simp; omega) ?_); intro v7 w7 hown9 hgrow9; have HBw7 : Hid (Below B w w7) := (HB0.out.alloc (Nat.le_trans hB HB0.out.size) _).grown hgrow9 (by have := HB0.out.size; simp; omega) (fun g h => (HO0.out.lt g h).1); have HOw7 : Hid (w7.ownsRow B 5 1 v7 (l0 ++ [34]).length (bc (l0 ++ [34]))) := (by unfold Hid; rw [bc_append, List.length_append]; exact hown9); have KKw7 : Hid (KB w w7) := (KK.out.alloc _).own (HO0.out.alloc _) hgrow9; have hcv := Lib.run_convert_string_bytes (P := Tryd.prog) w7 9 59 5 s Tryd.underlying9 Tryd.underlying59 Tryd.underlying5; clear hown9 hgrow9)
  clear hcv
  have HN := Lib.bytesWorld_at_new w7 5 s
  have HC : Hid (∀ j, j < s.size → (Lib.bytesWorld w7 5 s).cell? ⟨w7.heap.size, j, none⟩ = some (.int .u8 (s.data.toList.getD j 0).toNat)) := Lib.bytesWorld_cell w7 5 s
  have hS8 := Lib.bytesWorld_size w7 5 s
  have hb8 := Lib.bytesWorld_below w7 5 s
  have HO8 : Hid ((Lib.bytesWorld w7 5 s).ownsRow B 5 1 v7 (l0 ++ [34]).length (bc (l0 ++ [34]))) := ownsRow_below HOw7.out hb8 (Nat.le_refl _)
  have HB8 : Hid (Below B w (Lib.bytesWorld w7 5 s)) := HBw7.out.trans (hb8.mono (Nat.le_trans hB HBw7.out.size))
  have KK8 : Hid (KB w (Lib.bytesWorld w7 5 s)) := KKw7.out.below hb8
  obtain ⟨w8, hw8⟩ : ∃ w8, Lib.bytesWorld w7 5 s = w8 := ⟨_, rfl⟩
  obtain ⟨C, hC⟩ : ∃ C, Lib.bytesCells w7 5 s = C := ⟨_, rfl⟩
  obtain ⟨z, hz⟩ : ∃ z, C.size = z := ⟨_, rfl⟩
  obtain ⟨G, hG⟩ : ∃ G, w7.heap.size = G := ⟨_, rfl⟩
  obtain ⟨cp, hcp⟩ : ∃ cp, grownCap w7 s.size 0 5 = cp := ⟨_, rfl⟩
  rw [hw8] at HN HC HO8 HB8 hS8 KK8
  rw [hC, hz, hG] at HN
  rw [hG] at HC hS8
  have HG8 : Hid (w8.heap[G]? = some (.cells C 5 (z, z + 1))) := HN
  rw [hw8, hG, hcp]
  clear HN hb8 hw8 hC hz hcp
  go_loopg [0, 13] s.size (fun gk so si wr => ∃ (k : Nat) (l : List UInt8), gk = s.size - k ∧ k ≤ s.size ∧ True ∧ si = .int .i64 (k : Int) ∧ l ++ esc (s.data.toList.drop k) = Q ∧ l.length ≤ l0.length + 1 + 2 * k ∧ wr.ownsRow B 5 1 so l.length (bc l) ∧ wr.heap[G]? = some (.cells C 5 (z, z + 1)) ∧ Below B w wr ∧ KB w wr)
  case atStart => exact ⟨0, l0 ++ [34], by omega, Nat.zero_le _, trivial, rfl, by rw [← HQ.out]; simp, by simp, HO8.out, HG8.out, HB8.out, KK8.out⟩
  case round =>
    obtain ⟨k, l, rfl, hk, -, rfl, hlq, hll, hown, hGk, hbel, hkb⟩ := hrel
    clear KK
    have KK : Hid (KB w wr) := hkb
    have HB : Hid (Below B w wr) := hbel
    have HO : Hid (wr.ownsRow B 5 1 u0 l.length (bc l)) := hown
    have HG : Hid (wr.heap[G]? = some (.cells C 5 (z, z + 1))) := hGk
    have hGl : G < wr.heap.size := by
      rcases Nat.lt_or_ge G wr.heap.size with h | h
      · exact h
      · rw [Array.getElem?_eq_none h] at hGk; cases hGk
    have HLQ : Hid (l ++ esc (s.data.toList.drop k) = Q) := hlq
    clear hbel hown hlq hGk hkb
    by_cases hlt : k < s.size
    · have hlt' : (k : Int) < (s.size : Int) := by omega
      obtain ⟨c, hck⟩ : ∃ c, s.data.toList[k]? = some c := ⟨_, List.getElem?_eq_getElem (by omega)⟩
      have hcell : wr.cell? ⟨G, k, none⟩ = some (.int .u8 (c.toNat : Int)) := by
        have h1 := HC.out k hlt
        rw [List.getD_eq_getElem?_getD, hck] at h1
        exact (World.cell?_of_block (a := ⟨G, k, none⟩) (HG.out.trans HG8.out.symm)).trans h1
      have HNC : Hid (l ++ esc1 c ++ esc (s.data.toList.drop (k + 1)) = Q) := by unfold Hid; rw [← HLQ.out, esc_drop hck, List.append_assoc]
      clear hck
      by_cases h34 : c = 34
      · have HNX : Hid (l ++ [92, c] ++ esc (s.data.toList.drop (k + 1)) = Q) := by
          have := HNC.out; unfold esc1 at this; rw [if_pos (.inl h34)] at this; exact this
        have t1 : ((c.toNat : Int) == 34) = true := by rw [h34]; rfl
        clear h34
        go_wp2_with (at_builtin; (refine wpList_append_own_any _ rfl _ _ 59 rfl B 5 i0 (.int .u8 0) 1 1 Tryd.underlying59 hi hz0 hz1 hz2 rfl (by decide) _ _ _ rfl (HO.out.alloc _) (some ⟨wr.heap.size, 0, none⟩) 2 2 (bc [92, c]) rfl (by rfl) (fun h => by cases h) (fun ad had => by cases had; exact cells_new wr (bc [92, c]) 5) (bc_one _) (by unfold maxLen; omega) (by omega) (by have := HB.out.size; simp; omega) ?_); intro v9 w9 hown9 hgrow9; have HBw9 : Hid (Below B w w9) := (HB.out.alloc (Nat.le_trans hB HB.out.size) _).grown hgrow9 (by have := HB.out.size; simp; omega) (fun g h => (HO.out.lt g h).1); have HOw9 : Hid (w9.ownsRow B 5 1 v9 (l ++ [92, c]).length (bc (l ++ [92, c]))) := (by unfold Hid; rw [bc_append, List.length_append]; exact hown9); have KKw9 : Hid (KB w w9) := (KK.out.alloc _).own (HO.out.alloc _) hgrow9; have HGw9 : Hid (w9.heap[G]? = some (.cells C 5 (z, z + 1))) := (hgrow9.block G (by simp; omega) (fun e => own_mark HO.out HG.out e.symm)).trans ((Below.heap_alloc _ _ _ hGl).trans HG.out); clear hown9 hgrow9)
        go_roundg (s.size - (k + 1))
        case measure => omega
        case rel => exact ⟨k + 1, l ++ [92, c], rfl, by omega, trivial, by go_num, HNX.out, by simp only [List.length_append, List.length_cons, List.length_nil]; omega, HOw9.out, HGw9.out, HBw9.out, KKw9.out⟩
      · have t1 : ((c.toNat : Int) == 34) = false := by
          rw [beq_eq_false_iff_ne]; intro h; apply h34; apply UInt8.toNat_inj.1; show c.toNat = 34; omega
        by_cases h92 : c = 92
        · have HNX : Hid (l ++ [92, c] ++ esc (s.data.toList.drop (k + 1)) = Q) := by
            have := HNC.out; unfold esc1 at this; rw [if_pos (.inr h92)] at this; exact this
          have t2 : ((c.toNat : Int) == 92) = true := by rw [h92]; rfl
          clear h34 h92
          go_wp2_with (at_builtin; (refine wpList_append_own_any _ rfl _ _ 59 rfl B 5 i0 (.int .u8 0) 1 1 Tryd.underlying59 hi hz0 hz1 hz2 rfl (by decide) _ _ _ rfl (HO.out.alloc _) (some ⟨wr.heap.size, 0, none⟩) 2 2 (bc [92, c]) rfl (by rfl) (fun h => by cases h) (fun ad had => by cases had; exact cells_new wr (bc [92, c]) 5) (bc_one _) (by unfold maxLen; omega) (by omega) (by have := HB.out.size; simp; omega) ?_); intro v9 w9 hown9 hgrow9; have HBw9 : Hid (Below B w w9) := (HB.out.alloc (Nat.le_trans hB HB.out.size) _).grown hgrow9 (by have := HB.out.size; simp; omega) (fun g h => (HO.out.lt g h).1); have HOw9 : Hid (w9.ownsRow B 5 1 v9 (l ++ [92, c]).length (bc (l ++ [92, c]))) := (by unfold Hid; rw [bc_append, List.length_append]; exact hown9); have KKw9 : Hid (KB w w9) := (KK.out.alloc _).own (HO.out.alloc _) hgrow9; have HGw9 : Hid (w9.heap[G]? = some (.cells C 5 (z, z + 1))) := (hgrow9.block G (by simp; omega) (fun e => own_mark HO.out HG.out e.symm)).trans ((Below.heap_alloc _ _ _ hGl).trans HG.out); clear hown9 hgrow9)
          go_roundg (s.size - (k + 1))
          case measure => omega
          case rel => exact ⟨k + 1, l ++ [92, c], rfl, by omega, trivial, by go_num, HNX.out, by simp only [List.length_append, List.length_cons, List.length_nil]; omega, HOw9.out, HGw9.out, HBw9.out, KKw9.out⟩
        · have t2 : ((c.toNat : Int) == 92) = false := by
            rw [beq_eq_false_iff_ne]; intro h; apply h92; apply UInt8.toNat_inj.1; show c.toNat = 92; omega
          by_cases h10 : c = 10
          · have HNX : Hid (l ++ [92, 110] ++ esc (s.data.toList.drop (k + 1)) = Q) := by
              have := HNC.out; unfold esc1 at this; rw [if_neg (fun h => h.elim h34 h92), if_pos h10] at this; exact this
            have t3 : ((c.toNat : Int) == 10) = true := by rw [h10]; rfl
            clear h34 h92 h10
            go_wp2_with (at_builtin; (refine wpList_append_own_any _ rfl _ _ 59 rfl B 5 i0 (.int .u8 0) 1 1 Tryd.underlying59 hi hz0 hz1 hz2 rfl (by decide) _ _ _ rfl (HO.out.alloc _) (some ⟨wr.heap.size, 0, none⟩) 2 2 (bc [92, 110]) rfl (by rfl) (fun h => by cases h) (fun ad had => by cases had; exact cells_new wr (bc [92, 110]) 5) (bc_one _) (by unfold maxLen; omega) (by omega) (by have := HB.out.size; simp; omega) ?_); intro v9 w9 hown9 hgrow9; have HBw9 : Hid (Below B w w9) := (HB.out.alloc (Nat.le_trans hB HB.out.size) _).grown hgrow9 (by have := HB.out.size; simp; omega) (fun g h => (HO.out.lt g h).1); have HOw9 : Hid (w9.ownsRow B 5 1 v9 (l ++ [92, 110]).length (bc (l ++ [92, 110]))) := (by unfold Hid; rw [bc_append, List.length_append]; exact hown9); have KKw9 : Hid (KB w w9) := (KK.out.alloc _).own (HO.out.alloc _) hgrow9; have HGw9 : Hid (w9.heap[G]? = some (.cells C 5 (z, z + 1))) := (hgrow9.block G (by simp; omega) (fun e => own_mark HO.out HG.out e.symm)).trans ((Below.heap_alloc _ _ _ hGl).trans HG.out); clear hown9 hgrow9)
            go_roundg (s.size - (k + 1))
            case measure => omega
            case rel => exact ⟨k + 1, l ++ [92, 110], rfl, by omega, trivial, by go_num, HNX.out, by simp only [List.length_append, List.length_cons, List.length_nil]; omega, HOw9.out, HGw9.out, HBw9.out, KKw9.out⟩
          · have t3 : ((c.toNat : Int) == 10) = false := by
              rw [beq_eq_false_iff_ne]; intro h; apply h10; apply UInt8.toNat_inj.1; show c.toNat = 10; omega
            have HNX : Hid (l ++ [c] ++ esc (s.data.toList.drop (k + 1)) = Q) := by
              have := HNC.out; unfold esc1 at this; rw [if_neg (fun h => h.elim h34 h92), if_neg h10] at this; exact this
            clear h34 h92 h10
            go_wp2_with (at_builtin; (refine wpList_append_own_any _ rfl _ _ 59 rfl B 5 i0 (.int .u8 0) 1 1 Tryd.underlying59 hi hz0 hz1 hz2 rfl (by decide) _ _ _ rfl (HO.out.alloc _) (some ⟨wr.heap.size, 0, none⟩) 1 1 (bc [c]) rfl (by rfl) (fun h => by cases h) (fun ad had => by cases had; exact cells_new wr (bc [c]) 5) (bc_one _) (by unfold maxLen; omega) (by omega) (by have := HB.out.size; simp; omega) ?_); intro v9 w9 hown9 hgrow9; have HBw9 : Hid (Below B w w9) := (HB.out.alloc (Nat.le_trans hB HB.out.size) _).grown hgrow9 (by have := HB.out.size; simp; omega) (fun g h => (HO.out.lt g h).1); have HOw9 : Hid (w9.ownsRow B 5 1 v9 (l ++ [c]).length (bc (l ++ [c]))) := (by unfold Hid; rw [bc_append, List.length_append]; exact hown9); have KKw9 : Hid (KB w w9) := (KK.out.alloc _).own (HO.out.alloc _) hgrow9; have HGw9 : Hid (w9.heap[G]? = some (.cells C 5 (z, z + 1))) := (hgrow9.block G (by simp; omega) (fun e => own_mark HO.out HG.out e.symm)).trans ((Below.heap_alloc _ _ _ hGl).trans HG.out); clear hown9 hgrow9)
            go_roundg (s.size - (k + 1))
            case measure => omega
            case rel => exact ⟨k + 1, l ++ [c], rfl, by omega, trivial, by go_num, HNX.out, by simp only [List.length_append, List.length_cons, List.length_nil]; omega, HOw9.out, HGw9.out, HBw9.out, KKw9.out⟩
    · have hge : ¬ (k : Int) < (s.size : Int) := by omega
      have HZ : Hid (l = Q) := by
        unfold Hid; rw [← HLQ.out, List.drop_eq_nil_of_le (by omega)]; simp [esc]
      go_wp2_with (at_builtin; (refine wpList_append_own_any _ rfl _ _ 59 rfl B 5 i0 (.int .u8 0) 1 1 Tryd.underlying59 hi hz0 hz1 hz2 rfl (by decide) _ _ _ rfl (HO.out.alloc _) (some ⟨wr.heap.size, 0, none⟩) 1 1 (bc [34]) rfl (by rfl) (fun h => by cases h) (fun ad had => by cases had; exact cells_new wr (bc [34]) 5) (bc_one _) (by unfold maxLen; omega) (by omega) (by have := HB.out.size; simp; omega) ?_); intro v9 w9 hown9 hgrow9; have HBw9 : Hid (Below B w w9) := (HB.out.alloc (Nat.le_trans hB HB.out.size) _).grown hgrow9 (by have := HB.out.size; simp; omega) (fun g h => (HO.out.lt g h).1); have HOw9 : Hid (w9.ownsRow B 5 1 v9 (l ++ [34]).length (bc (l ++ [34]))) := (by unfold Hid; rw [bc_append, List.length_append]; exact hown9); have KKw9 : Hid (KB w w9) := (KK.out.alloc _).own (HO.out.alloc _) hgrow9; clear hown9 hgrow9)
      go_ret
      refine ⟨_, rfl, ?_, HBw9.out, KKw9.out⟩
      have e : l0 ++ quo s.data.toList = l ++ [34] := by rw [HZ.out, ← HQ.out]; simp [quo]
      have e2 : l0.length + (quo s.data.toList).length = (l ++ [34]).length := by rw [← e, List.length_append]
      first
        | (rw [e, e2]; exact HOw9.out)
        | (rw [e]; exact HOw9.out)
end Go.Proofs.YteolfolkolpehaaDoor
