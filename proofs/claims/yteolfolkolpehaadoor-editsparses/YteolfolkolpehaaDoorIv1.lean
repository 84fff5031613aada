import Derived.Test.YteolfolkolpehaaDoorIv
import Derived.Test.YteolfolkolpehaaDoorClone
import Derived.Deep.RegionHeld3
import Derived.Deep.AppendLies
import Derived.Deep.DrawnRows
import Derived.Deep.DeepCutAuto
namespace Go.Proofs.YteolfolkolpehaaDoor
open Go.ChangeShapes Go.WideShapes Go.ChangeAt Go.RowKit
set_option linter.unusedVariables false
attribute [local go_sem ↓] Go.wp_at_zero Go.wp_at_succ

set_option maxRecDepth 1000000 in
set_option maxHeartbeats 4000000 in
theorem invert_any (tx : ByteArray) (b o cap : Nat) (xs : List Ed) (w : World) (hx : tx.size ≤ 140737488351232) (h : Eds w b o xs) (hl : xs.length * 32 ≤ 140737488351232) (hF : ∀ e ∈ xs, EdFit e) (hv : vld tx.size xs = 0) (hB : tx.size + tots xs ≤ 1048576) :
    Calls Tryd.prog 22 #[.string tx, .slice (some ⟨b, o, none⟩) xs.length cap] w fun e w' => ∃ v, e = .returned (.tuple #[v, .int .i64 0]) ∧ w'.ownsRow w.heap.size 45 3 v (invF tx 0 xs).length (flat (invF tx 0 xs)) ∧ Below w.heap.size w w' := by
  obtain ⟨i0, hi, hz0, hz1, hz2⟩ := info_parts infoEd
  have hck := (vld_chk hv).1
  have hlen0 := (vld_chk hv).2
  have HX : Hid (Eds w b o xs) := h
  have hbw : b < w.heap.size := h.1
  have HV : Hid (val62 tx.size xs = 0) := by unfold Hid val62; rw [if_pos (by omega)]; exact hv
  have HK : Hid (∀ e ∈ xs, 0 ≤ e.f ∧ e.f ≤ e.t ∧ e.t ≤ (tx.size : Int)) := chk_ok hck
  have HCK : Hid (chk tx.size 0 xs = 0) := hck
  have HF : Hid (∀ e ∈ xs, EdFit e) := hF
  have HL : Hid (xs.length ≤ maxLen) := by unfold Hid maxLen; omega
  clear h hv hck hF
  go_enter Tryd.func22, Tryd.ntmps22
  go_wp2_with (first | (go_at_call 33; refine (valid_all tx.size _ cap xs _ (by omega) (by omega) (.inr ⟨b, o, rfl, HX.out⟩) HL.out).mono ?_; rintro e w1 ⟨rfl, hb1⟩; rw [HV.out]) | (at_make; refine wpList_make_own _ rfl _ _ 22 rfl w.heap.size 45 i0 (.agg #[.int .i64 0, .int .i64 0, .string ⟨#[]⟩]) 3 Tryd.underlying22 hi hz0 hz1 _ _ _ xs.length rfl rfl ?_ ?_ ?_ ?_ ?_) | go_in)
  case refine_1 => omega
  case refine_2 => rw [hz2]; omega
  case refine_3 => unfold maxLen; omega
  case refine_4 => exact hb1.size
  intro w3 hown3 hgrow3
  have hb3 : Below w.heap.size w w3 := hb1.grown hgrow3 hb1.size (fun k h => by cases h)
  clear hgrow3 hb1
  go_wp2
  go_loopg [7, 8, 24] xs.length (fun gk v sm i wr => ∃ (k : Nat) (p : List Ed), gk = xs.length - k ∧ k ≤ xs.length ∧ i = .int .i64 k ∧ sm = .int .i64 (grw (xs.take k)) ∧ Below w.heap.size w wr ∧ wr.ownsRow w.heap.size 45 3 v p.length (flat p) ∧ p.length = k ∧ p ++ invF tx (grw (xs.take k)) (xs.drop k) = invF tx 0 xs)
  case atStart => exact ⟨0, [], by omega, Nat.zero_le _, rfl, rfl, hb3, hown3, rfl, by simp [grw]⟩
  case round =>
    clear hown3 hb3
    obtain ⟨k, p, rfl, hk, rfl, rfl, hbel, hown, hpk, hp⟩ := hrel
    have hsz := hbel.size
    have hlt1 : Hid (∀ k, u7.ownBlock = some k → w.heap.size ≤ k ∧ k < wr.heap.size) := hown.lt
    have HO : Hid (wr.ownsRow w.heap.size 45 3 u7 p.length (flat p)) := hown
    have HP : Hid (p ++ invF tx (grw (xs.take k)) (xs.drop k) = invF tx 0 xs) := hp
    have hpk' : p.length ≤ k := by omega
    have HPK : Hid (p.length = k) := hpk
    clear hown hp hpk
    by_cases hlt : k < xs.length
    · obtain ⟨e, he⟩ : ∃ e, xs[k]? = some e := ⟨_, List.getElem?_eq_getElem hlt⟩
      obtain ⟨c0, c1, c2⟩ := HX.out.cells hbel he
      have hmem : e ∈ xs := List.mem_of_getElem? he
      have q4 := (HF.out e hmem).2.2.2.2
      obtain ⟨q5, q6, q7⟩ := grw_bound HCK.out he
      clear q7
      have hgt := grw_take he
      obtain ⟨f, t, hee, hft, ht⟩ := nat_ed2 (HK.out e hmem)
      generalize e.s = s at *
      subst hee
      simp only at c0 c1 c2 q4 q5 hgt
      have HGT : Hid (grw (xs.take (k + 1)) = grw (xs.take k) + ((s.size : Int) - ((t : Int) - f))) := hgt
      have HS := inv_step he HP.out
      obtain ⟨m, hm⟩ : ∃ m, grw (xs.take k) = m := ⟨_, rfl⟩
      rw [hm] at q5 q6 HS HGT
      have HS2 : Hid ((p ++ [⟨(f : Int) + m, (f : Int) + m + s.size, tx.extract f t⟩]) ++ invF tx (m + ((s.size : Int) - ((t : Int) - f))) (xs.drop (k + 1)) = invF tx 0 xs) := HS
      have hsb : s.size ≤ 1048576 := by
        have : ∀ ys : List Ed, (⟨f, t, s⟩ : Ed) ∈ ys → s.size ≤ tots ys := by
          intro ys
          induction ys with
          | nil => intro h; cases h
          | cons y z ih =>
            intro h
            rw [tots]
            rcases List.mem_cons.1 h with rfl | h
            · simp only; omega
            · have := ih h; omega
        have := this xs hmem
        omega
      clear he hmem HS hgt
      obtain ⟨old, hold⟩ : ∃ old, tx.extract f t = old := ⟨_, rfl⟩
      have hos : old.size ≤ 1048576 := by rw [← hold]; simp; omega
      rw [hold] at HS2
      have hm1 : -1048576 ≤ m := by omega
      have hm2 : m ≤ 1048576 := by omega
      rw [hm]
      clear hm q5 q6
      have hft' : (f : Int) ≤ (t : Int) := by omega
      have ht' : (t : Int) ≤ (tx.size : Int) := by omega
      have hf0 : (0 : Int) ≤ (f : Int) := by omega
      clear hsz
      have hsz : w.heap.size ≤ wr.heap.size := hbel.size
      go_upto_region 10 with fail
      have hw1 : IntKind.i64.wrap ((f : Int) + m + s.size) = (f : Int) + m + s.size := IntWalk.i64_in _ ⟨by omega, by omega⟩
      have hne : Hid (some wr.heap.size ≠ u7.ownBlock) := fun h => by have := (hlt1.out _ h.symm).2; omega
      go_region_held3 (fun w' => w'.cell? ⟨wr.heap.size, 0, none⟩ = some (.int .i64 f) ∧ w'.cell? ⟨wr.heap.size, 1, none⟩ = some (.int .i64 t) ∧ w'.cell? ⟨wr.heap.size, 2, none⟩ = some (.string s))
        (first
          | go_keep
          | (refine ⟨?_, ?_, ?_⟩ <;> assumption))
        ((first
          | (go_at_call 47; refine (clone_any old _ (by omega)).mono ?_; rintro e w2 ⟨rfl, hb2⟩; have d0 : w2.cell? ⟨wr.heap.size, 0, none⟩ = some (.int .i64 f) := (hb2.cell (p := ⟨wr.heap.size, 0, none⟩) (by simp)).trans (by simp); have d1 : w2.cell? ⟨wr.heap.size, 1, none⟩ = some (.int .i64 t) := (hb2.cell (p := ⟨wr.heap.size, 1, none⟩) (by simp)).trans (by simp); have d2 : w2.cell? ⟨wr.heap.size, 2, none⟩ = some (.string s) := (hb2.cell (p := ⟨wr.heap.size, 2, none⟩) (by simp)).trans (by simp); have HO2 : Hid (w2.ownsRow w.heap.size 45 3 u7 p.length (flat p)) := ownsRow_below ((HO.out.alloc _).drew) hb2 (Nat.le_refl _); have HB2 : Hid (Below w.heap.size w w2) := ((hbel.alloc hsz _).drew).trans (hb2.mono (by simp; omega)); have hlt2 : Hid (wr.heap.size < w2.heap.size) := Nat.lt_of_lt_of_le (by simp) hb2.size; clear hb2)
          | (refine step_append_lies _ (by rfl) _ _ _ (by rfl) w.heap.size 45 i0 (.agg #[.int .i64 0, .int .i64 0, .string ⟨#[]⟩]) 3 32 Tryd.underlying22 hi hz0 hz1 hz2 rfl (by omega) u7 p.length (flat p) (by rfl) (HO2.out.alloc _) ⟨w2.heap.size, 0, none⟩ 1 1 (flat [⟨(f : Int) + m, (f : Int) + m + s.size, old⟩]) (by rfl) (by rfl) (cells_new w2 (flat [⟨(f : Int) + m, (f : Int) + m + s.size, old⟩]) 45) (flat_oneCell _) (by omega) (by unfold maxLen; omega) (by omega) (by have := HB2.out.size; simp; omega) (w2.heap.size + 1) (by simp) ?_; intro gg cp w4 hown4 hgrow4 hat hlt4; have x0 : w4.cell? ⟨wr.heap.size, 0, none⟩ = some (.int .i64 f) := hgrow4.cell ((World.cell?_alloc_past _ _ _ hlt2.out).trans d0) hne.out; have x1 : w4.cell? ⟨wr.heap.size, 1, none⟩ = some (.int .i64 t) := hgrow4.cell ((World.cell?_alloc_past _ _ _ hlt2.out).trans d1) hne.out; have x2 : w4.cell? ⟨wr.heap.size, 2, none⟩ = some (.string s) := hgrow4.cell ((World.cell?_alloc_past _ _ _ hlt2.out).trans d2) hne.out)))
      have hbel4 : Below w.heap.size w w4 := (HB2.out.alloc (HB2.out.size) _).grown hgrow4 (by have := HB2.out.size; simp; omega) (fun k h => (hlt1.out k h).1)
      have HO4 : Hid (w4.ownsRow w.heap.size 45 3 (.slice (some ⟨gg, 0, none⟩) (p.length + 1) cp) (p ++ ([⟨(f : Int) + m, (f : Int) + m + s.size, old⟩] : List Ed)).length (flat (p ++ [⟨(f : Int) + m, (f : Int) + m + s.size, old⟩]))) := by
        unfold Hid; rw [flat_append, List.length_append]; exact hown4
      have HB4 : Hid (Below w.heap.size w w4) := hbel4
      have hsz4 := hbel4.size
      clear hown4 hgrow4 hbel4 HO2 HB2 hat hlt4 d0 d1 d2 c0 c1 c2 hold hlt2 HO
      go_wp2
      go_roundg (xs.length - (k + 1))
      case measure => omega
      case rel => exact ⟨k + 1, _, rfl, by omega, by go_num, by rw [HGT.out], by have := HB4.out; go_grown, by (repeat (first | exact HO4.out | refine World.ownsRow.alloc ?_ _)), by rw [List.length_append, HPK.out]; rfl, by rw [HGT.out]; exact HS2.out⟩
    · have HE : Hid (p = invF tx 0 xs) := by
        unfold Hid; rw [← HP.out, List.drop_eq_nil_of_le (by omega), invF, List.append_nil]
      go_wp2
      go_ret2
      exact ⟨_, rfl, by rw [← HE.out]; exact HO.out, hbel⟩
end Go.Proofs.YteolfolkolpehaaDoor
