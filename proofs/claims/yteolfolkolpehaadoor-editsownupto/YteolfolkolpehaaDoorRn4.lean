import Derived.Test.YteolfolkolpehaaDoorRn2
import Derived.Test.YteolfolkolpehaaDoorRn3
import Derived.Test.YteolfolkolpehaaDoorAp1
namespace Go.Proofs.YteolfolkolpehaaDoor
open Go.ChangeShapes Go.WideShapes Go.ChangeAt Go.RowKit
set_option linter.unusedVariables false

/-- what Apply answers: the text, the number -/
def appA (tx : ByteArray) (xs : List Ed) : ByteArray := if vld tx.size xs = 0 then ⟨(appF tx.data.toList 0 xs).toArray⟩ else ⟨#[]⟩

theorem appF_nil (tx : ByteArray) : (⟨(appF tx.data.toList 0 []).toArray⟩ : ByteArray) = tx := by
  apply bytes_ext; simp [appF]

/-- 'said' at any slice -/
theorem said_all (tx : ByteArray) (a : Option Addr) (cap : Nat) (rs : List Rn) (w : World) (hx : tx.size ≤ 140737488351232) (h : RnA w a rs) (hl : rs.length ≤ 140737488351232) (hin : ∀ r ∈ rs, RnIn tx.size r) (hB : (sd tx.data.toList rs).length ≤ 140737488351232) :
    Calls Tryd.prog 36 #[.string tx, .slice a rs.length cap] w fun e w' => e = .returned (.string ⟨(sd tx.data.toList rs).toArray⟩) ∧ Below w.heap.size w w' := by
  rcases h with rfl | ⟨b, o, rfl, h⟩
  · rw [List.length_nil]
    go_enter Tryd.func36, Tryd.ntmps36
    go_wp2
    refine wp_loop_rounds 1 ?_
    rw [rounds_succ]
    go_wp2
    go_ret
    exact ⟨rfl, Below.refl _ _⟩
  · exact said_any tx b o cap rs w hx h hl hin hB

set_option maxRecDepth 1000000 in
set_option maxHeartbeats 800000 in
theorem rdone_all (n : Nat) (a : Option Addr) (cap : Nat) (xs : List Ed) (a0 : Option Addr) (c0 : Nat) (w : World) (hn : n ≤ 140737488351232) (hw : RnA w a0 (wh n)) (h : EdsA w a xs) (hl : xs.length ≤ 65536) (hck : chk n 0 xs = 0) :
    Calls Tryd.prog 37 #[.slice a0 (wh n).length c0, .slice a xs.length cap] w fun e w' => ∃ v, e = .returned v ∧ w'.ownsRow w.heap.size 94 4 v (dn n 0 xs).length (flatR (dn n 0 xs)) ∧ Below w.heap.size w w' := by
  rcases h with rfl | ⟨b, o, rfl, h⟩
  · obtain ⟨i0, hi, hz0, hz1, hz2⟩ := info_parts infoRn
    rw [List.length_nil]
    have HW : Hid (RnA w a0 (wh n)) := hw
    have hk1 := kp_len 0 n
    clear hw
    go_enter Tryd.func37, Tryd.ntmps37
    go_wp2
    refine wp_loop_rounds 1 ?_
    rw [rounds_succ]
    go_wp2_with fail
    refine (wsize_any n a0 c0 _ hn HW.out).mono ?_
    rintro e w1 ⟨rfl, hb1⟩
    go_wp2_with fail
    refine (rkept_any n 0 n a0 c0 _ hn (Nat.zero_le _) (Nat.le_refl _) (HW.out.below hb1)).mono ?_
    rintro e w2 ⟨v1, rfl, hown1, hb2⟩
    obtain ⟨a1, cap1, rfl, hR1, _, hn1⟩ := own_formR hown1
    have HR1 : Hid (RnA w2 a1 (kp 0 n)) := hR1
    have HN1 : Hid (a1 = none → (kp 0 n).length = 0 ∧ cap1 = 0) := hn1
    have HB2 : Hid (Below w.heap.size w w2) := hb1.trans (hb2.mono hb1.size)
    have hsz2 : w.heap.size ≤ w2.heap.size := HB2.out.size
    clear hown1 hR1 hn1 hb2 hb1
    go_wp2_with (at_builtin; (refine wpList_append_own_any _ rfl (.tmp 38) (.tmp 43) 74 rfl w.heap.size 94 i0 (.agg #[.bool false, .int .i64 0, .int .i64 0, .string ⟨#[]⟩]) 4 40 Tryd.underlying74 hi hz0 hz1 hz2 rfl (by decide) _ _ _ rfl (World.ownsRow_nil _ _ _ _) a1 (kp 0 n).length cap1 (flatR (kp 0 n)) rfl (flatR_length _) HN1.out HR1.out.news (flatR_oneCell _) ?_ ?_ ?_ ?_))
    case refine_1 => unfold maxLen; omega
    case refine_2 => omega
    case refine_3 => omega
    intro v2 w3 hown3 hgrow3
    have hbel3 : Below w.heap.size w w3 := HB2.out.grown hgrow3 hsz2 (fun k h => by cases h)
    have HO3 : Hid (w3.ownsRow w.heap.size 94 4 v2 (dn n 0 []).length (flatR (dn n 0 []))) := by unfold Hid; rw [dn]; simpa using hown3
    clear hown3 hgrow3
    go_wp2
    go_ret
    exact ⟨_, rfl, HO3.out, hbel3⟩
  · exact rdone_any n b o cap xs a0 c0 w hn hw h hl hck

set_option maxHeartbeats 800000 in
theorem rapply_all (tx : ByteArray) (a : Option Addr) (cap : Nat) (xs : List Ed) (w : World) (hx : tx.size ≤ 140737488351232) (h : EdsA w a xs) (hl : xs.length ≤ maxLen) (hB : tx.size + tots xs ≤ 70368744177664) :
    Calls Tryd.prog 16 #[.string tx, .slice a xs.length cap] w fun e w' => e = .returned (.tuple #[.string (appA tx xs), .int .i64 (vld tx.size xs)]) ∧ Below w.heap.size w w' := by
  have H : Hid (EdsA w a xs) := h
  have HL : Hid (xs.length ≤ maxLen) := hl
  clear h hl
  by_cases hv : vld tx.size xs = 0
  · have hA : appA tx xs = ⟨(appF tx.data.toList 0 xs).toArray⟩ := by unfold appA; rw [if_pos hv]
    have hck := (vld_chk hv).1
    have hl2 := (vld_chk hv).2
    obtain ⟨hb1, hb2⟩ := app_bound hck
    have hsd := sd_dn (tx := tx.data.toList) tx.size 0 xs (by rw [bytes_len]; exact Nat.le_refl _)
    have HSD : Hid (sd tx.data.toList (dn tx.size 0 xs) = appF tx.data.toList 0 xs) := hsd
    have hlen : (sd tx.data.toList (dn tx.size 0 xs)).length ≤ 140737488351232 := by rw [hsd]; omega
    have HIN : Hid (∀ r ∈ dn tx.size 0 xs, RnIn tx.size r) := dn_in (fun e he => by have := chk_ok hck e he; omega)
    have hdl := dn_len tx.size 0 xs
    have HLEN : Hid ((sd tx.data.toList (dn tx.size 0 xs)).length ≤ 140737488351232) := hlen
    have HCK : Hid (chk tx.size 0 xs = 0) := hck
    have HV : Hid (vld tx.size xs = 0) := hv
    rw [hA, hv]
    clear hA hck hb1 hb2 hsd hlen hv hB
    go_enter Tryd.func16, Tryd.ntmps16
    go_wp2_with fail
    refine (rvalid_all tx.size a cap xs _ (by omega) (by omega) H.out HL.out).mono ?_
    rintro e w1 ⟨rfl, hb1⟩
    rw [HV.out]
    go_wp2_with fail
    refine (whole_any tx.size _ hx).mono ?_
    rintro e w2 ⟨a2, c2, rfl, hR2, _, hb2⟩
    have HR2 : Hid (RnA w2 a2 (wh tx.size)) := hR2
    clear hR2
    go_wp2_with fail
    refine (rdone_all tx.size a cap xs a2 c2 _ hx HR2.out ((H.out.below hb1).below hb2) hl2 HCK.out).mono ?_
    rintro e w3 ⟨v3, rfl, hown3, hb3⟩
    obtain ⟨a3, c3, rfl, hR3, _, _⟩ := own_formR hown3
    have HR3 : Hid (RnA w3 a3 (dn tx.size 0 xs)) := hR3
    clear hR3 hown3
    go_wp2_with fail
    refine (said_all tx a3 c3 (dn tx.size 0 xs) _ hx HR3.out (by omega) HIN.out HLEN.out).mono ?_
    rintro e w4 ⟨rfl, hb4⟩
    rw [HSD.out]
    go_wp2
    go_ret2
    have s2 : w.heap.size ≤ w2.heap.size := Nat.le_trans hb1.size hb2.size
    exact ⟨rfl, ((hb1.trans (hb2.mono hb1.size)).trans (hb3.mono s2)).trans (hb4.mono (Nat.le_trans s2 hb3.size))⟩
  · have hA : appA tx xs = ⟨#[]⟩ := by unfold appA; rw [if_neg hv]
    have HW : Hid ((vld tx.size xs != 0) = true) := by unfold Hid; simpa using hv
    rw [hA]
    clear hv hA
    go_enter Tryd.func16, Tryd.ntmps16
    go_wp2_with fail
    refine (rvalid_all tx.size a cap xs _ (by omega) (by omega) H.out HL.out).mono ?_
    rintro e w1 ⟨rfl, hb1⟩
    have hne := HW.out
    go_wp2
    go_ret2
    exact ⟨rfl, hb1⟩
end Go.Proofs.YteolfolkolpehaaDoor
