import Derived.Test.YteolfolkolpehaaDoorAp
namespace Go.Proofs.YteolfolkolpehaaDoor
open Go.ChangeShapes Go.WideShapes Go.ChangeAt Go.RowKit
set_option linter.unusedVariables false

theorem infoU8 : (Tryd.prog.info? 5).map (fun i => (i.zero, i.size, i.bytes)) = some (some (.int .u8 0), 1, 1) := by kernel_rfl

set_option maxHeartbeats 800000 in
theorem growth_any (b o cap : Nat) (xs : List Ed) (w : World) (h : Eds w b o xs) (hl : xs.length ≤ maxLen) (hF : ∀ e ∈ xs, EdFit e) (hK : ∀ e ∈ xs, 0 ≤ e.f ∧ e.f ≤ e.t ∧ e.t ≤ 4611686018427387904) :
    Calls Tryd.prog 34 #[.slice (some ⟨b, o, none⟩) xs.length cap] w fun e w' => e = .returned (.int .i64 (wrap64 (grw xs))) ∧ Below w.heap.size w w' := by
  have HX : Hid (Eds w b o xs) := h
  have HF : Hid (∀ e ∈ xs, EdFit e) := hF
  have HK : Hid (∀ e ∈ xs, 0 ≤ e.f ∧ e.f ≤ e.t ∧ e.t ≤ 4611686018427387904) := hK
  have hbw : b < w.heap.size := h.1
  unfold maxLen at hl
  clear h hF hK
  go_enter Tryd.func34, Tryd.ntmps34
  go_wp2
  go_loopw [3, 8] (fun mv i wr => ∃ k : Nat, k ≤ xs.length ∧ i = .int .i64 k ∧ Below w.heap.size w wr ∧ ∃ m : Int, mv = .int .i64 (wrap64 m) ∧ grw xs = m + grw (xs.drop k)) (fun _ i _ => xs.length - (intOf i).toNat)
  case atStart => exact ⟨0, Nat.zero_le _, rfl, Below.refl _ _, 0, by rw [wrap64_zero], by simp⟩
  case round =>
    obtain ⟨k, hk, rfl, hbel, m, rfl, hc⟩ := hrel
    have HC : Hid (grw xs = m + grw (xs.drop k)) := hc
    have hsz := hbel.size
    clear hc
    by_cases hlt : k < xs.length
    · obtain ⟨e, he⟩ : ∃ e, xs[k]? = some e := ⟨_, List.getElem?_eq_getElem hlt⟩
      obtain ⟨c0, c1, c2⟩ := HX.out.cells hbel he
      have hmem : e ∈ xs := List.mem_of_getElem? he
      obtain ⟨q1, q2, q3⟩ := HK.out e hmem
      have q4 := (HF.out e hmem).2.2.2.2
      have HS : Hid (grw xs = (m + ((e.s.size : Int) - (e.t - e.f))) + grw (xs.drop (k + 1))) := by
        unfold Hid; rw [HC.out, grw_drop he]; omega
      clear he hmem
      go_wp2
      go_roundw
      case rel => exact ⟨k + 1, by omega, by go_num, by (repeat (with_reducible refine below_drewN ?_ _)); go_grown, m + ((e.s.size : Int) - (e.t - e.f)), by rw [wrap64_left], HS.out⟩
      case measure => simp [intOf]; omega
    · have HG : Hid (grw xs = m) := by unfold Hid; rw [HC.out, List.drop_eq_nil_of_le (by omega), grw]; omega
      go_wp2
      go_ret
      exact ⟨ret_i64 (by rw [HG.out]), by (repeat (with_reducible refine below_drewN ?_ _)); go_grown⟩

set_option maxRecDepth 1000000 in
set_option maxHeartbeats 2000000 in
theorem apply_any (tx : ByteArray) (b o cap : Nat) (xs : List Ed) (w : World) (hx : tx.size ≤ 140737488351232) (h : Eds w b o xs) (hl : xs.length ≤ maxLen) (hF : ∀ e ∈ xs, EdFit e) (hv : vld tx.size xs = 0) (hB : tx.size + tots xs ≤ 70368744177664) :
    Calls Tryd.prog 15 #[.string tx, .slice (some ⟨b, o, none⟩) xs.length cap] w fun e w' => e = .returned (.tuple #[.string ⟨(appF tx.data.toList 0 xs).toArray⟩, .int .i64 0]) ∧ Below w.heap.size w w' := by
  obtain ⟨i0, hi, hz0, hz1, hz2⟩ := info_parts infoU8
  have hck := (vld_chk hv).1
  obtain ⟨hlen, hgr⟩ := app_bound hck
  have hlen0 := (vld_chk hv).2
  have HX : Hid (Eds w b o xs) := h
  have HF : Hid (∀ e ∈ xs, EdFit e) := hF
  have hbw : b < w.heap.size := h.1
  have HV : Hid (val62 tx.size xs = 0) := by unfold Hid val62; rw [if_pos (by omega)]; exact hv
  have HK : Hid (∀ e ∈ xs, 0 ≤ e.f ∧ e.f ≤ e.t ∧ e.t ≤ (tx.size : Int)) := chk_ok hck
  have HCK : Hid (chk tx.size 0 xs = 0) := hck
  have HL : Hid (xs.length ≤ maxLen) := hl
  obtain ⟨N, hN⟩ : ∃ N : Nat, N = (appF tx.data.toList 0 xs).length := ⟨_, rfl⟩
  have HG : Hid (wrap64 (grw xs) = (N : Int) - tx.size) := by
    unfold Hid; rw [hN, hlen, IntWalk.wrap64_in _ ⟨by omega, by omega⟩]; omega
  have hNb : N ≤ 70368744177664 := by omega
  have HNe : Hid (N = (appF tx.data.toList 0 xs).length) := hN
  clear h hF hv hlen hgr hck hN hl hB
  go_enter Tryd.func15, Tryd.ntmps15
  go_wp2_with (first | (go_at_call 33; refine (valid_all tx.size _ cap xs _ (by omega) (by omega) (.inr ⟨b, o, rfl, HX.out⟩) HL.out).mono ?_; rintro e w1 ⟨rfl, hb1⟩; rw [HV.out]) | (go_at_call 34; refine (growth_any b o cap xs _ (HX.out.below hb1 HX.out.1) HL.out HF.out (fun e he => ⟨(HK.out e he).1, (HK.out e he).2.1, Int.le_trans (HK.out e he).2.2 (by omega)⟩)).mono ?_; rintro e w2 ⟨rfl, hb2⟩; rw [HG.out]) | (at_make; refine wpList_make_own _ rfl _ _ 59 rfl w.heap.size 5 i0 (.int .u8 0) 1 Tryd.underlying59 hi hz0 hz1 _ _ _ N rfl rfl ?_ ?_ ?_ ?_ ?_) | go_in)
  case refine_1 => omega
  case refine_2 => rw [hz2]; omega
  case refine_3 => unfold maxLen; omega
  case refine_4 => exact Nat.le_trans hb1.size hb2.size
  intro w3 hown3 hgrow3
  have hb12 : Below w.heap.size w w2 := hb1.trans (hb2.mono hb1.size)
  have hb3 : Below w.heap.size w w3 := hb12.grown hgrow3 hb12.size (fun k h => by cases h)
  clear hgrow3 hb1 hb2 hb12
  go_wp2
  go_loopg [7, 8, 26] xs.length (fun gk v sa i wr => ∃ (k a : Nat) (p : List UInt8) (L : Int), gk = xs.length - k ∧ k ≤ xs.length ∧ i = .int .i64 k ∧ sa = .int .i64 a ∧ a ≤ tx.size ∧ (a : Int) ≤ L ∧ chk tx.size L (xs.drop k) = 0 ∧ Below w.heap.size w wr ∧ wr.ownsRow w.heap.size 5 1 v p.length (bc p) ∧ p ++ appF tx.data.toList a (xs.drop k) = appF tx.data.toList 0 xs)
  case atStart => exact ⟨0, 0, [], 0, by omega, Nat.zero_le _, rfl, rfl, Nat.zero_le _, by omega, by simpa using HCK.out, hb3, hown3, by simp⟩
  case round =>
    clear hown3 hb3
    obtain ⟨k, a, p, L, rfl, hk, rfl, rfl, ha, haL, hck, hbel, hown, hp⟩ := hrel
    have hsz := hbel.size
    have hlt1 : Hid (∀ k, u7.ownBlock = some k → w.heap.size ≤ k ∧ k < wr.heap.size) := hown.lt
    have HO : Hid (wr.ownsRow w.heap.size 5 1 u7 p.length (bc p)) := hown
    have HP : Hid (p ++ appF tx.data.toList a (xs.drop k) = appF tx.data.toList 0 xs) := hp
    have HC : Hid (chk tx.size L (xs.drop k) = 0) := hck
    clear hown hp hck
    by_cases hlt : k < xs.length
    · obtain ⟨e, he⟩ : ∃ e, xs[k]? = some e := ⟨_, List.getElem?_eq_getElem hlt⟩
      obtain ⟨c0, c1, c2⟩ := HX.out.cells hbel he
      have hmem : e ∈ xs := List.mem_of_getElem? he
      obtain ⟨_, _, _, hLe, hnext⟩ := chk_cons (by rw [← drop_get he]; exact HC.out)
      obtain ⟨f, t, hee, hft, ht⟩ := nat_ed2 (HK.out e hmem)
      generalize e.s = s at *
      subst hee
      simp only at c0 c1 c2 hLe hnext
      have HS : Hid ((p ++ (tx.extract a f).data.toList ++ s.data.toList) ++ appF tx.data.toList t (xs.drop (k + 1)) = appF tx.data.toList 0 xs) := app_step he HP.out
      have haf : a ≤ f := by omega
      have e1 : (tx.extract a f).size = f - a := by simp; omega
      have hbd : p.length + (f - a) + s.size ≤ N := by
        have h1 := congrArg List.length HS.out
        rw [← HNe.out] at h1
        simp only [List.length_append, bytes_len, e1] at h1
        omega
      have HNX : Hid (chk tx.size ((t : Int) + 1) (xs.drop (k + 1)) = 0) := hnext
      clear he hmem hnext
      have haf' : (a : Int) ≤ (f : Int) := by omega
      have hft' : (f : Int) ≤ (tx.size : Int) := by omega
      go_wp2_with (at_builtin; (refine Lib.wpList_append_own_string _ rfl (.tmp 30) (.tmp 35) 59 9 rfl w.heap.size 5 i0 Tryd.underlying59 Tryd.underlying9 hi hz0 hz1 hz2 _ _ _ rfl (HO.out.alloc _) (tx.extract a f) rfl ?_ ?_ ?_ ?_))
      case refine_1 => unfold maxLen; omega
      case refine_2 => omega
      case refine_3 => omega
      intro v4 w4 hown4 hgrow4 _
      rw [bc_str, ← bc_append] at hown4
      have hbx4 : Box w4 wr.heap.size f t s := (Box.new wr f t s).grown hgrow4 (fun h => by have := (hlt1.out _ h).2; omega)
      have hbel4 : Below w.heap.size w w4 := (hbel.alloc hsz _).grown hgrow4 (by simp; omega) (fun k h => (hlt1.out k h).1)
      have hne4 : Hid (v4.ownBlock ≠ some wr.heap.size) := own_ne_box hown4 hbx4 (by decide)
      have hlt4 : Hid (∀ k, v4.ownBlock = some k → w.heap.size ≤ k ∧ k < w4.heap.size) := hown4.lt
      have HO4 : Hid (w4.ownsRow w.heap.size 5 1 v4 (p.length + (f - a)) (bc (p ++ (tx.extract a f).data.toList))) := hown4
      have HBX4 : Hid (Box w4 wr.heap.size f t s) := hbx4
      have HB4 : Hid (Below w.heap.size w w4) := hbel4
      have d2 := hbx4.c2
      have hsz4 := hbel4.size
      clear hown4 hgrow4 hbx4 hbel4 c0 c1 c2
      go_wp2_with (at_builtin; (refine Lib.wpList_append_own_string _ rfl (.tmp 37) (.tmp 39) 59 9 rfl w.heap.size 5 i0 Tryd.underlying59 Tryd.underlying9 hi hz0 hz1 hz2 _ _ _ rfl HO4.out s rfl ?_ ?_ ?_ ?_))
      case refine_1 => unfold maxLen; omega
      case refine_2 => omega
      case refine_3 => omega
      intro v5 w5 hown5 hgrow5 _
      rw [bc_str, ← bc_append] at hown5
      have hbx5 : Box w5 wr.heap.size f t s := HBX4.out.grown hgrow5 hne4.out
      have hbel5 : Below w.heap.size w w5 := HB4.out.grown hgrow5 hsz4 (fun k h => (hlt4.out k h).1)
      have d1 := hbx5.c1
      have hl5 : p.length + (f - a) + s.size = (p ++ (tx.extract a f).data.toList ++ s.data.toList).length := by
        simp only [List.length_append, bytes_len, e1]
      have HO5 : Hid (w5.ownsRow w.heap.size 5 1 v5 (p ++ (tx.extract a f).data.toList ++ s.data.toList).length (bc (p ++ (tx.extract a f).data.toList ++ s.data.toList))) := by unfold Hid; rw [← hl5, Lib.extract_data]; exact hown5
      have HB5 : Hid (Below w.heap.size w w5) := hbel5
      clear hown5 hgrow5 hbx5 hbel5 hl5 e1 HO4 HB4 HBX4
      go_wp2
      go_roundg (xs.length - (k + 1))
      case measure => omega
      case rel => exact ⟨k + 1, t, _, (t : Int) + 1, rfl, by omega, by go_num, rfl, ht, by omega, HNX.out, HB5.out, HO5.out, HS.out⟩
    · have hend := app_end hlt HP.out
      have hEL : (tx.extract a tx.size).size = tx.size - a := by simp
      have hbd : p.length + (tx.size - a) ≤ N := by
        have h1 := congrArg List.length hend
        rw [← HNe.out, List.length_append, bytes_len, hEL] at h1
        omega
      have HE : Hid (p ++ (tx.extract a tx.size).data.toList = appF tx.data.toList 0 xs) := hend
      clear hend
      go_wp2_with (at_builtin; (refine Lib.wpList_append_own_string _ rfl (.tmp 44) (.tmp 47) 59 9 rfl w.heap.size 5 i0 Tryd.underlying59 Tryd.underlying9 hi hz0 hz1 hz2 _ _ _ rfl HO.out (tx.extract a tx.size) rfl ?_ ?_ ?_ ?_))
      case refine_1 => unfold maxLen; omega
      case refine_2 => omega
      case refine_3 => omega
      intro v4 w4 hown4 hgrow4 _
      rw [bc_str, ← bc_append, HE.out] at hown4
      have hbel4 : Below w.heap.size w w4 := hbel.grown hgrow4 hsz (fun k h => (hlt1.out k h).1)
      have hconv : (convert 59 9 v4).run Tryd.prog w4 = .ok (.string ⟨(appF tx.data.toList 0 xs).toArray⟩) w4 := own_string_any hown4
      clear hown4 hgrow4
      go_wp2
      go_ret2
      exact ⟨rfl, hbel4⟩
end Go.Proofs.YteolfolkolpehaaDoor
