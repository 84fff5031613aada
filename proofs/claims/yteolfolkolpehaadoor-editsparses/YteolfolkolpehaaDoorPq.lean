import Derived.Test.YteolfolkolpehaaDoorAp2
import Derived.Test.YteolfolkolpehaaDoorRn
import Derived.Test.YteolfolkolpehaaDoorShf
import Derived.Lib.ItoaLen
import Derived.Lib.ConvBytes
import Derived.Lib.AtoiErrMem
import Derived.Laws.OwnMore
namespace Go.Proofs.YteolfolkolpehaaDoor
open Go.ChangeShapes Go.WideShapes Go.ChangeAt Go.RowKit
set_option linter.unusedVariables false

def esc1 (c : UInt8) : List UInt8 := if c = 34 ∨ c = 92 then [92, c] else if c = 10 then [92, 110] else [c]
def esc (s : List UInt8) : List UInt8 := s.flatMap esc1
def quo (s : List UInt8) : List UInt8 := 34 :: (esc s ++ [34])
theorem esc_cons (c : UInt8) (r : List UInt8) : esc (c :: r) = esc1 c ++ esc r := by simp [esc]
theorem esc1_len (c : UInt8) : (esc1 c).length ≤ 2 := by unfold esc1; split <;> (try split) <;> simp
theorem esc_len (s : List UInt8) : (esc s).length ≤ 2 * s.length := by
  induction s with
  | nil => simp [esc]
  | cons c r ih => have := esc1_len c; rw [esc_cons, List.length_append, List.length_cons]; omega
theorem esc_drop {s : List UInt8} {k : Nat} {c : UInt8} (h : s[k]? = some c) : esc (s.drop k) = esc1 c ++ esc (s.drop (k + 1)) := by rw [drop_get h, esc_cons]
theorem bc_one (l : List UInt8) : ∀ u ∈ bc l, u.oneCell' = true := by
  intro u hu
  obtain ⟨b, _, rfl⟩ := List.mem_map.1 hu
  rfl

set_option maxRecDepth 1000000 in
set_option maxHeartbeats 2000000 in
theorem quoted_any (s : ByteArray) (w : World) (hs : s.size ≤ 1048576) :
    Calls Tryd.prog 31 #[.string s] w fun e w' => e = .returned (.string ⟨(quo s.data.toList).toArray⟩) ∧ Below w.heap.size w w' := by
  obtain ⟨i0, hi, hz0, hz1, hz2⟩ := info_parts infoU8b
  have hl := bytes_len s
  obtain ⟨Q, hQ⟩ : ∃ Q, 34 :: esc s.data.toList = Q := ⟨_, rfl⟩
  have HQ : Hid (34 :: esc s.data.toList = Q) := hQ
  clear hQ
  go_enter Tryd.func31, Tryd.ntmps31
  go_wp2
  go_loopg [3, 4] s.size (fun gk sb si wr => ∃ (k : Nat) (l : List UInt8), gk = s.size - k ∧ k ≤ s.size ∧ si = .int .i64 (k : Int) ∧ l ++ esc (s.data.toList.drop k) = Q ∧ l.length ≤ 1 + 2 * k ∧ 0 < l.length ∧ wr.ownsRow w.heap.size 5 1 sb l.length (bc l) ∧ Below w.heap.size w wr)
  case atStart => exact ⟨0, [34], by omega, Nat.zero_le _, rfl, HQ.out, by simp, by simp, World.ownsRow_lit w (bc [34]).toArray 1 (Nat.le_refl _) (by unfold maxLen; omega) rfl, by go_grown⟩
  case round =>
    obtain ⟨k, l, rfl, hk, rfl, hlq, hll, hl0, hown, hbel⟩ := hrel
    have HB : Hid (Below w.heap.size w wr) := hbel
    have HO : Hid (wr.ownsRow w.heap.size 5 1 u3 l.length (bc l)) := hown
    have HLQ : Hid (l ++ esc (s.data.toList.drop k) = Q) := hlq
    clear hbel hown hlq
    by_cases hlt : k < s.size
    · have hlt' : (k : Int) < (s.size : Int) := by omega
      obtain ⟨c, hc⟩ : ∃ c, s[k]'hlt = c := ⟨_, rfl⟩
      have hck : s.data.toList[k]? = some c := by
        rw [List.getElem?_eq_getElem (by omega), ← hc]; rfl
      have HNC : Hid (l ++ esc1 c ++ esc (s.data.toList.drop (k + 1)) = Q) := by unfold Hid; rw [← HLQ.out, esc_drop hck, List.append_assoc]
      clear hck
      by_cases h34 : c = 34
      · have HNX : Hid (l ++ [92, c] ++ esc (s.data.toList.drop (k + 1)) = Q) := by
          have := HNC.out; unfold esc1 at this; rw [if_pos (.inl h34)] at this; exact this
        have t1 : ((c.toNat : Int) == 34) = true := by rw [h34]; rfl
        clear h34
        go_wp2_with (at_builtin; (refine wpList_append_own_any _ rfl _ _ 59 rfl w.heap.size 5 i0 (.int .u8 0) 1 1 Tryd.underlying59 hi hz0 hz1 hz2 rfl (by decide) _ _ _ rfl (HO.out.alloc _) (some ⟨wr.heap.size, 0, none⟩) 2 2 (bc [92, c]) rfl (by rfl) (fun h => by cases h) (fun ad had => by cases had; exact cells_new wr (bc [92, c]) 5) (bc_one _) (by unfold maxLen; omega) (by omega) (by have := HB.out.size; simp; omega) ?_); intro v9 w9 hown9 hgrow9; have HBw9 : Hid (Below w.heap.size w w9) := (HB.out.alloc HB.out.size _).grown hgrow9 (by have := HB.out.size; simp; omega) (fun g h => (HO.out.lt g h).1); have HOw9 : Hid (w9.ownsRow w.heap.size 5 1 v9 (l ++ [92, c]).length (bc (l ++ [92, c]))) := (by unfold Hid; rw [bc_append, List.length_append]; exact hown9); clear hown9 hgrow9)
        go_roundg (s.size - (k + 1))
        case measure => omega
        case rel => exact ⟨k + 1, l ++ [92, c], rfl, by omega, by go_num, HNX.out, by simp only [List.length_append, List.length_cons, List.length_nil]; omega, by simp only [List.length_append]; omega, HOw9.out, HBw9.out⟩
      · have t1 : ((c.toNat : Int) == 34) = false := by
          rw [beq_eq_false_iff_ne]; intro h; apply h34; apply UInt8.toNat_inj.1; show c.toNat = 34; omega
        by_cases h92 : c = 92
        · have HNX : Hid (l ++ [92, c] ++ esc (s.data.toList.drop (k + 1)) = Q) := by
            have := HNC.out; unfold esc1 at this; rw [if_pos (.inr h92)] at this; exact this
          have t2 : ((c.toNat : Int) == 92) = true := by rw [h92]; rfl
          clear h34 h92
          go_wp2_with (at_builtin; (refine wpList_append_own_any _ rfl _ _ 59 rfl w.heap.size 5 i0 (.int .u8 0) 1 1 Tryd.underlying59 hi hz0 hz1 hz2 rfl (by decide) _ _ _ rfl (HO.out.alloc _) (some ⟨wr.heap.size, 0, none⟩) 2 2 (bc [92, c]) rfl (by rfl) (fun h => by cases h) (fun ad had => by cases had; exact cells_new wr (bc [92, c]) 5) (bc_one _) (by unfold maxLen; omega) (by omega) (by have := HB.out.size; simp; omega) ?_); intro v9 w9 hown9 hgrow9; have HBw9 : Hid (Below w.heap.size w w9) := (HB.out.alloc HB.out.size _).grown hgrow9 (by have := HB.out.size; simp; omega) (fun g h => (HO.out.lt g h).1); have HOw9 : Hid (w9.ownsRow w.heap.size 5 1 v9 (l ++ [92, c]).length (bc (l ++ [92, c]))) := (by unfold Hid; rw [bc_append, List.length_append]; exact hown9); clear hown9 hgrow9)
          go_roundg (s.size - (k + 1))
          case measure => omega
          case rel => exact ⟨k + 1, l ++ [92, c], rfl, by omega, by go_num, HNX.out, by simp only [List.length_append, List.length_cons, List.length_nil]; omega, by simp only [List.length_append]; omega, HOw9.out, HBw9.out⟩
        · have t2 : ((c.toNat : Int) == 92) = false := by
            rw [beq_eq_false_iff_ne]; intro h; apply h92; apply UInt8.toNat_inj.1; show c.toNat = 92; omega
          by_cases h10 : c = 10
          · have HNX : Hid (l ++ [92, 110] ++ esc (s.data.toList.drop (k + 1)) = Q) := by
              have := HNC.out; unfold esc1 at this; rw [if_neg (fun h => h.elim h34 h92), if_pos h10] at this; exact this
            have t3 : ((c.toNat : Int) == 10) = true := by rw [h10]; rfl
            clear h34 h92 h10
            go_wp2_with (at_builtin; (refine wpList_append_own_any _ rfl _ _ 59 rfl w.heap.size 5 i0 (.int .u8 0) 1 1 Tryd.underlying59 hi hz0 hz1 hz2 rfl (by decide) _ _ _ rfl (HO.out.alloc _) (some ⟨wr.heap.size, 0, none⟩) 2 2 (bc [92, 110]) rfl (by rfl) (fun h => by cases h) (fun ad had => by cases had; exact cells_new wr (bc [92, 110]) 5) (bc_one _) (by unfold maxLen; omega) (by omega) (by have := HB.out.size; simp; omega) ?_); intro v9 w9 hown9 hgrow9; have HBw9 : Hid (Below w.heap.size w w9) := (HB.out.alloc HB.out.size _).grown hgrow9 (by have := HB.out.size; simp; omega) (fun g h => (HO.out.lt g h).1); have HOw9 : Hid (w9.ownsRow w.heap.size 5 1 v9 (l ++ [92, 110]).length (bc (l ++ [92, 110]))) := (by unfold Hid; rw [bc_append, List.length_append]; exact hown9); clear hown9 hgrow9)
            go_roundg (s.size - (k + 1))
            case measure => omega
            case rel => exact ⟨k + 1, l ++ [92, 110], rfl, by omega, by go_num, HNX.out, by simp only [List.length_append, List.length_cons, List.length_nil]; omega, by simp only [List.length_append]; omega, HOw9.out, HBw9.out⟩
          · have t3 : ((c.toNat : Int) == 10) = false := by
              rw [beq_eq_false_iff_ne]; intro h; apply h10; apply UInt8.toNat_inj.1; show c.toNat = 10; omega
            have HNX : Hid (l ++ [c] ++ esc (s.data.toList.drop (k + 1)) = Q) := by
              have := HNC.out; unfold esc1 at this; rw [if_neg (fun h => h.elim h34 h92), if_neg h10] at this; exact this
            clear h34 h92 h10
            go_wp2_with (at_builtin; (refine wpList_append_own_any _ rfl _ _ 59 rfl w.heap.size 5 i0 (.int .u8 0) 1 1 Tryd.underlying59 hi hz0 hz1 hz2 rfl (by decide) _ _ _ rfl (HO.out.alloc _) (some ⟨wr.heap.size, 0, none⟩) 1 1 (bc [c]) rfl (by rfl) (fun h => by cases h) (fun ad had => by cases had; exact cells_new wr (bc [c]) 5) (bc_one _) (by unfold maxLen; omega) (by omega) (by have := HB.out.size; simp; omega) ?_); intro v9 w9 hown9 hgrow9; have HBw9 : Hid (Below w.heap.size w w9) := (HB.out.alloc HB.out.size _).grown hgrow9 (by have := HB.out.size; simp; omega) (fun g h => (HO.out.lt g h).1); have HOw9 : Hid (w9.ownsRow w.heap.size 5 1 v9 (l ++ [c]).length (bc (l ++ [c]))) := (by unfold Hid; rw [bc_append, List.length_append]; exact hown9); clear hown9 hgrow9)
            go_roundg (s.size - (k + 1))
            case measure => omega
            case rel => exact ⟨k + 1, l ++ [c], rfl, by omega, by go_num, HNX.out, by simp only [List.length_append, List.length_cons, List.length_nil]; omega, by simp only [List.length_append]; omega, HOw9.out, HBw9.out⟩
    · have hge : ¬ (k : Int) < (s.size : Int) := by omega
      have HZ : Hid (l = Q) := by
        unfold Hid; rw [← HLQ.out, List.drop_eq_nil_of_le (by omega)]; simp [esc]
      go_wp2_with (at_builtin; (refine wpList_append_own_any _ rfl _ _ 59 rfl w.heap.size 5 i0 (.int .u8 0) 1 1 Tryd.underlying59 hi hz0 hz1 hz2 rfl (by decide) _ _ _ rfl (HO.out.alloc _) (some ⟨wr.heap.size, 0, none⟩) 1 1 (bc [34]) rfl (by rfl) (fun h => by cases h) (fun ad had => by cases had; exact cells_new wr (bc [34]) 5) (bc_one _) (by unfold maxLen; omega) (by omega) (by have := HB.out.size; simp; omega) ?_); intro v9 w9 hown9 hgrow9; have HBw9 : Hid (Below w.heap.size w w9) := (HB.out.alloc HB.out.size _).grown hgrow9 (by have := HB.out.size; simp; omega) (fun g h => (HO.out.lt g h).1); have HOw9 : Hid (w9.ownsRow w.heap.size 5 1 v9 (l ++ [34]).length (bc (l ++ [34]))) := (by unfold Hid; rw [bc_append, List.length_append]; exact hown9); clear hown9 hgrow9; have hcv := own_string_any HOw9.out)
      go_ret
      refine ⟨?_, HBw9.out⟩
      rw [HZ.out, ← HQ.out]; rfl
end Go.Proofs.YteolfolkolpehaaDoor
