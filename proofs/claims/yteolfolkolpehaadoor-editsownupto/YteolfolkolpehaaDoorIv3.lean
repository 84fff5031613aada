import Derived.Test.YteolfolkolpehaaDoorNm
import Derived.Test.YteolfolkolpehaaDoorCm4
import Derived.Deep.RegionHeld3
import Derived.Deep.AppendLies
import Derived.Deep.DrawnRows
import Derived.Deep.DeepCutAuto
namespace Go.Proofs.YteolfolkolpehaaDoor
open Go.ChangeShapes Go.WideShapes Go.ChangeAt Go.RowKit
set_option linter.unusedVariables false

theorem Eds.take {w : World} {b o : Nat} {xs : List Ed} (h : Eds w b o xs) (k : Nat) : Eds w b o (xs.take k) := by
  refine ⟨h.1, fun i e he => h.2 i e ?_⟩
  rw [List.getElem?_take] at he
  by_cases hi : i < k
  · rw [if_pos hi] at he; exact he
  · rw [if_neg hi] at he; cases he

theorem rdone_pre (n b o cap k : Nat) (xs : List Ed) (a0 : Option Addr) (c0 : Nat) (w : World) (hn : n ≤ 140737488351232) (hw : RnA w a0 (wh n)) (h : Eds w b o xs) (hk : k ≤ xs.length) (hl : xs.length ≤ 65536) (hck : chk n 0 (xs.take k) = 0) :
    Calls Tryd.prog 37 #[.slice a0 (wh n).length c0, .slice (some ⟨b, o, none⟩) k cap] w fun e w' => ∃ a1 c1, e = .returned (.slice a1 (dn n 0 (xs.take k)).length c1) ∧ RnA w' a1 (dn n 0 (xs.take k)) ∧ Below w.heap.size w w' := by
  have h1 := rdone_any n b o cap (xs.take k) a0 c0 w hn hw (h.take k) (by rw [List.length_take]; omega) hck
  rw [List.length_take, Nat.min_eq_left hk] at h1
  refine h1.mono ?_
  rintro e w' ⟨v, rfl, hown, hb⟩
  obtain ⟨a1, c1, rfl, hR, _, _⟩ := own_formR hown
  exact ⟨a1, c1, rfl, hR, hb⟩

theorem said_len (tx pre : ByteArray) (f k : Nat) (xs : List Ed) (e : Ed) (a : Option Addr) (cap : Nat) (w : World) (hx : tx.size ≤ 140737488351232) (hpre : tx.extract 0 f = pre) (he : xs[k]? = some e) (hef : e.f = f) (hck : chk tx.size 0 xs = 0) (hl : xs.length ≤ 65536) (hB : tx.size + tots xs ≤ 1048576)
    (h : RnA w a (dn f 0 (xs.take k))) :
    Calls Tryd.prog 36 #[.string pre, .slice a (dn f 0 (xs.take k)).length cap] w fun r w' => ∃ R : ByteArray, r = .returned (.string R) ∧ (R.size : Int) = f + grw (xs.take k) ∧ Below w.heap.size w w' := by
  obtain ⟨q1, q2, q3⟩ := grw_bound hck he
  have hK := chk_ok hck e (List.mem_of_getElem? he)
  have hfs : f ≤ tx.size := by omega
  have hps : pre.size = f := by rw [← hpre]; simp; omega
  have hfn : e.f.toNat = f := by omega
  rw [hfn, hpre, hef] at q3
  rw [hef] at q1
  have hsd := sd_dn (tx := pre.data.toList) f 0 (xs.take k) (by rw [bytes_len, hps]; exact Nat.le_refl _)
  have hd := dn_len f 0 (xs.take k)
  have htk : (xs.take k).length ≤ 65536 := by rw [List.length_take]; omega
  have hchk := chk_take hck he
  rw [hef] at hchk
  refine (said_all pre a cap (dn f 0 (xs.take k)) w (by omega) h (by omega) ?_ (by rw [hsd]; omega)).mono ?_
  · rw [hps]
    exact dn_in (fun x hx => by have := chk_ok hchk x hx; omega)
  · rintro r w' ⟨rfl, hb⟩
    refine ⟨_, rfl, ?_, hb⟩
    rw [← bytes_len]
    show ((sd pre.data.toList (dn f 0 (xs.take k))).length : Int) = _
    rw [hsd]
    exact q3
end Go.Proofs.YteolfolkolpehaaDoor

namespace Go.Proofs.YteolfolkolpehaaDoor
open Go.ChangeShapes Go.WideShapes Go.ChangeAt Go.RowKit
set_option linter.unusedVariables false
attribute [local go_sem ↓] Go.wp_at_zero Go.wp_at_succ

set_option maxRecDepth 1000000 in
set_option maxHeartbeats 4000000 in
theorem rinvert_any (tx : ByteArray) (b o cap : Nat) (xs : List Ed) (w : World) (hx : tx.size ≤ 140737488351232) (h : Eds w b o xs) (hl : xs.length * 32 ≤ 140737488351232) (hcap : xs.length ≤ cap) (hF : ∀ e ∈ xs, EdFit e) (hv : vld tx.size xs = 0) (hB : tx.size + tots xs ≤ 1048576) :
    Calls Tryd.prog 21 #[.string tx, .slice (some ⟨b, o, none⟩) xs.length cap] w fun e w' => ∃ v, e = .returned (.tuple #[v, .int .i64 0]) ∧ w'.ownsRow w.heap.size 45 3 v (invF tx 0 xs).length (flat (invF tx 0 xs)) ∧ Below w.heap.size w w' := by
  obtain ⟨i0, hi, hz0, hz1, hz2⟩ := info_parts infoEd
  have hck := (vld_chk hv).1
  have hlen0 := (vld_chk hv).2
  have HX : Hid (Eds w b o xs) := h
  have hbw : b < w.heap.size := h.1
  have HV : Hid (vld tx.size xs = 0) := hv
  have HK : Hid (∀ e ∈ xs, 0 ≤ e.f ∧ e.f ≤ e.t ∧ e.t ≤ (tx.size : Int)) := chk_ok hck
  have HCK : Hid (chk tx.size 0 xs = 0) := hck
  have HL : Hid (xs.length ≤ maxLen) := by unfold Hid maxLen; omega
  have HB : Hid (tx.size + tots xs ≤ 1048576) := hB
  clear h hv hck hF
  go_enter Tryd.func21, Tryd.ntmps21
  go_wp2_with (first | (go_at_call 35; refine (rvalid_all tx.size _ cap xs _ (by omega) (by omega) (.inr ⟨b, o, rfl, HX.out⟩) HL.out).mono ?_; rintro e w1 ⟨rfl, hb1⟩; rw [HV.out]) | go_in)
  go_loopg [7, 8] xs.length (fun gk v i wr => ∃ (k : Nat) (p : List Ed), gk = xs.length - k ∧ k ≤ xs.length ∧ i = .int .i64 k ∧ Below w.heap.size w wr ∧ wr.ownsRow w.heap.size 45 3 v p.length (flat p) ∧ p.length = k ∧ p ++ invF tx (grw (xs.take k)) (xs.drop k) = invF tx 0 xs)
  case atStart => exact ⟨0, [], by omega, Nat.zero_le _, rfl, hb1, World.ownsRow_nil _ _ _ _, rfl, by simp [grw]⟩
  case round =>
    clear hb1
    obtain ⟨k, p, rfl, hk, rfl, hbel, hown, hpk, hp⟩ := hrel
    have hsz := hbel.size
    have hlt1 : Hid (∀ k, u7.ownBlock = some k → w.heap.size ≤ k ∧ k < wr.heap.size) := hown.lt
    have HO : Hid (wr.ownsRow w.heap.size 45 3 u7 p.length (flat p)) := hown
    have HP : Hid (p ++ invF tx (grw (xs.take k)) (xs.drop k) = invF tx 0 xs) := hp
    have hpk' : p.length ≤ k := by omega
    have HPK : Hid (p.length = k) := hpk
    clear hown hp hpk
    by_cases hlt : k < xs.length
    · obtain ⟨e, he⟩ : ∃ e, xs[k]? = some e := ⟨_, List.getElem?_eq_getElem hlt⟩
      obtain ⟨c0, c1, c2⟩ := HX.out.cells hbel he
      have hmem : e ∈ xs := List.mem_of_getElem? he
      obtain ⟨q5, q6, q7⟩ := grw_bound HCK.out he
      clear q7
      have hgt := grw_take he
      obtain ⟨f, t, hee, hft, ht⟩ := nat_ed2 (HK.out e hmem)
      generalize e.s = s at *
      subst hee
      simp only at c0 c1 c2 q5 hgt
      have HE : Hid (xs[k]? = some ⟨f, t, s⟩) := he
      have HGT : Hid (grw (xs.take (k + 1)) = grw (xs.take k) + ((s.size : Int) - ((t : Int) - f))) := hgt
      have HS := inv_step he HP.out
      have HCT : Hid (chk f 0 (xs.take k) = 0) := chk_take HCK.out he
      obtain ⟨m, hm⟩ : ∃ m, grw (xs.take k) = m := ⟨_, rfl⟩
      have HM : Hid (grw (xs.take k) = m) := hm
      rw [hm] at q5 q6 HS HGT
      have HS2 : Hid ((p ++ [⟨(f : Int) + m, (f : Int) + m + s.size, tx.extract f t⟩]) ++ invF tx (m + ((s.size : Int) - ((t : Int) - f))) (xs.drop (k + 1)) = invF tx 0 xs) := HS
      have hsb : s.size ≤ 1048576 := by
        have : ∀ ys : List Ed, (⟨f, t, s⟩ : Ed) ∈ ys → s.size ≤ tots ys := by
          intro ys
          induction ys with
          | nil => intro h; cases h
          | cons y z ih =>
            intro h
            rw [tots]
            rcases List.mem_cons.1 h with rfl | h
            · simp only; omega
            · have := ih h; omega
        have := this xs hmem
        omega
      clear he hmem HS hgt hm
      obtain ⟨old, hold⟩ : ∃ old, tx.extract f t = old := ⟨_, rfl⟩
      obtain ⟨pre, hpre⟩ : ∃ pre, tx.extract 0 f = pre := ⟨_, rfl⟩
      have HPRE : Hid (tx.extract 0 f = pre) := hpre
      have hos : old.size ≤ 1048576 := by rw [← hold]; simp; omega
      rw [hold] at HS2
      have hm1 : -1048576 ≤ m := by omega
      have hm2 : m ≤ 1048576 := by omega
      have hft' : (f : Int) ≤ (t : Int) := by omega
      have ht' : (t : Int) ≤ (tx.size : Int) := by omega
      have hfx : (f : Int) ≤ (tx.size : Int) := by omega
      have hf0 : (0 : Int) ≤ (f : Int) := by omega
      have hk0 : (0 : Int) ≤ (k : Int) := by omega
      have hkc : (k : Int) ≤ (cap : Int) := by omega
      have hkl : (k : Int) < (xs.length : Int) := by omega
      go_upto_region 8 with fail
      go_region_held3 (fun w' => w'.cell? ⟨b, o + k * 3, none⟩ = some (.int .i64 f))
        (first
          | go_keep
          | assumption)
        ((first
          | (go_at_call 38; refine (whole_any f _ (by omega)).mono ?_; rintro e w2 ⟨a2, cc2, rfl, hR2, _, hb2⟩; have HR2 : Hid (RnA w2 a2 (wh f)) := hR2; have HB2 : Hid (Below w.heap.size w w2) := (hbel.drew).trans (hb2.mono hsz); have HO2 : Hid (w2.ownsRow w.heap.size 45 3 u7 p.length (flat p)) := ownsRow_below HO.out.drew hb2 (Nat.le_refl _); have d0 : w2.cell? ⟨b, o + k * 3, none⟩ = some (.int .i64 f) := (HX.out.cells HB2.out HE.out).1; clear hb2 hR2)
          | (go_at_call 37; refine (rdone_pre f b o cap k xs a2 cc2 _ (by omega) HR2.out (HX.out.below HB2.out hbw) hk hlen0 HCT.out).mono ?_; rintro e w3 ⟨a3, cc3, rfl, hR3, hb3⟩; have HR3 : Hid (RnA w3 a3 (dn f 0 (xs.take k))) := hR3; have HB3 : Hid (Below w.heap.size w w3) := HB2.out.trans (hb3.mono HB2.out.size); have HO3 : Hid (w3.ownsRow w.heap.size 45 3 u7 p.length (flat p)) := ownsRow_below HO2.out hb3 (Nat.le_refl _); have e0 : w3.cell? ⟨b, o + k * 3, none⟩ = some (.int .i64 f) := (HX.out.cells HB3.out HE.out).1; clear hb3 hR3)
          | (go_at_call 36; refine (said_len tx pre f k xs ⟨f, t, s⟩ a3 cc3 _ hx HPRE.out HE.out rfl HCK.out hlen0 HB.out HR3.out).mono ?_; rintro e w4 ⟨R, rfl, hRs, hb4⟩; have HRS : Hid ((R.size : Int) = f + grw (xs.take k)) := hRs; have HB4 : Hid (Below w.heap.size w w4) := HB3.out.trans (hb4.mono HB3.out.size); have HO4 : Hid (w4.ownsRow w.heap.size 45 3 u7 p.length (flat p)) := ownsRow_below HO3.out hb4 (Nat.le_refl _); have g0 : w4.cell? ⟨b, o + k * 3, none⟩ = some (.int .i64 f) := (HX.out.cells HB4.out HE.out).1; clear hb4 hRs)))
      obtain ⟨y0, y1, y2⟩ := HX.out.cells HB4.out HE.out
      simp only at y0 y1 y2
      have hRb : R.size ≤ 4194304 := by have := HRS.out; rw [HM.out] at this; omega
      have hsz4 : w.heap.size ≤ w4.heap.size := HB4.out.size
      have hlt4 : Hid (∀ k, u7.ownBlock = some k → w.heap.size ≤ k ∧ k < w4.heap.size) := HO4.out.lt
      have hbb : b < w4.heap.size := Nat.lt_of_lt_of_le hbw hsz4
      have hne : Hid (some b ≠ u7.ownBlock) := fun h => by have := (hlt4.out _ h.symm).1; omega
      have hw1 : IntKind.i64.wrap ((R.size : Int) + s.size) = (R.size : Int) + s.size := IntWalk.i64_in _ ⟨by omega, by omega⟩
      clear HO2 HO3 HB2 HB3 HR2 HR3 d0 e0 g0 c0 c1 c2 hpre
      go_upto_region 9 with fail
      go_region_held3 (fun w' => w'.cell? ⟨b, o + k * 3, none⟩ = some (.int .i64 f) ∧ w'.cell? ⟨b, o + k * 3 + 1, none⟩ = some (.int .i64 t) ∧ w'.cell? ⟨b, o + k * 3 + 2, none⟩ = some (.string s))
        (first
          | go_keep
          | (refine ⟨?_, ?_, ?_⟩ <;> assumption))
        ((refine step_append_lies _ (by rfl) _ _ _ (by rfl) w.heap.size 45 i0 (.agg #[.int .i64 0, .int .i64 0, .string ⟨#[]⟩]) 3 32 Tryd.underlying22 hi hz0 hz1 hz2 rfl (by omega) u7 p.length (flat p) (by rfl) ((HO4.out.alloc _).drew) ⟨w4.heap.size, 0, none⟩ 1 1 (flat [⟨(R.size : Int), (R.size : Int) + s.size, old⟩]) (by rfl) (by rfl) (cells_new w4 (flat [⟨(R.size : Int), (R.size : Int) + s.size, old⟩]) 45) (flat_oneCell _) (by omega) (by unfold maxLen; omega) (by omega) (by simp; omega) (w4.heap.size + 1) (by simp) ?_; intro gg cp w5 hown5 hgrow5 hat hlt5; have x0 : w5.cell? ⟨b, o + k * 3, none⟩ = some (.int .i64 f) := hgrow5.cell ((World.cell?_alloc_past _ _ _ hbb).trans y0) hne.out; have x1 : w5.cell? ⟨b, o + k * 3 + 1, none⟩ = some (.int .i64 t) := hgrow5.cell ((World.cell?_alloc_past _ _ _ hbb).trans y1) hne.out; have x2 : w5.cell? ⟨b, o + k * 3 + 2, none⟩ = some (.string s) := hgrow5.cell ((World.cell?_alloc_past _ _ _ hbb).trans y2) hne.out))
      have hbel5 : Below w.heap.size w w5 := ((HB4.out.alloc hsz4 _).drew).grown hgrow5 (by simp; omega) (fun k h => (hlt4.out k h).1)
      have hRm : (R.size : Int) = (f : Int) + m := by rw [HRS.out, HM.out]
      rw [hRm] at hown5
      have HO5 : Hid (w5.ownsRow w.heap.size 45 3 (.slice (some ⟨gg, 0, none⟩) (p.length + 1) cp) (p ++ ([⟨(f : Int) + m, (f : Int) + m + s.size, old⟩] : List Ed)).length (flat (p ++ [⟨(f : Int) + m, (f : Int) + m + s.size, old⟩]))) := by
        unfold Hid; rw [flat_append, List.length_append]; exact hown5
      have HB5 : Hid (Below w.heap.size w w5) := hbel5
      clear hown5 hgrow5 hbel5 HO4 HB4 hat hlt5 y0 y1 y2 x0 x1 x2 hold HO hRm
      go_wp2
      go_roundg (xs.length - (k + 1))
      case measure => omega
      case rel => exact ⟨k + 1, _, rfl, by omega, by go_num, HB5.out, HO5.out, by rw [List.length_append, HPK.out]; rfl, by rw [HGT.out]; exact HS2.out⟩
    · have HE : Hid (p = invF tx 0 xs) := by
        unfold Hid; rw [← HP.out, List.drop_eq_nil_of_le (by omega), invF, List.append_nil]
      go_wp2
      go_ret2
      exact ⟨_, rfl, by rw [← HE.out]; exact HO.out, hbel⟩
end Go.Proofs.YteolfolkolpehaaDoor
