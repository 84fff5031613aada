import Derived.Test.YtmnbakalcpanlaaGreatDoorTw0
import Derived.Deep.RegionHeld3
namespace Go.Proofs.YtmnbakalcpanlaaGreatDoor
open Go.ChangeShapes Go.WideShapes Go.ChangeAt Go.RowKit Go.Maps Go.WideMaps
set_option linter.unusedVariables false
set_option linter.unusedSimpArgs false

theorem nms_yes (n : ByteArray) {L : List Tk} {k : Nat} {f t : Int} (h : L[k]? = some (⟨2, f, t⟩ : Tk)) : nms n (L.drop k) = ⟨f, t, n⟩ :: nms n (L.drop (k + 1)) := by
  rw [Q.drop_get h, nms, if_pos (by rfl)]
theorem nms_no (n : ByteArray) {L : List Tk} {k : Nat} {x f t : Int} (h : L[k]? = some (⟨x, f, t⟩ : Tk)) (hx : x ≠ 2) : nms n (L.drop k) = nms n (L.drop (k + 1)) := by
  rw [Q.drop_get h, nms, if_neg hx]
theorem nms_len (n : ByteArray) : ∀ l : List Tk, (nms n l).length ≤ l.length
  | [] => by simp [nms]
  | q :: r => by
    have := nms_len n r
    rw [nms]
    by_cases h : q.k = 2
    · rw [if_pos h]; simp; omega
    · rw [if_neg h]; simp; omega

set_option maxRecDepth 1000000 in
theorem respelt_not (s n : ByteArray) (a : Option Addr) (c : Nat) (L : List Tk) (z : Bool) (hz : z = false ∨ 200 < n.size) (w : World)
    (HI0 : ∀ v, Below w.heap.size w v → Calls Tryz.prog 26 #[.string n] v fun e w' => e = .returned (.bool z) ∧ Below v.heap.size v w') :
    Calls Tryz.prog 11 #[.string s, .slice a L.length c, .string n] w fun e w' => e = .returned (.bool true) ∧ Below w.heap.size w w' := by
  have HI : Hid (∀ v, Below w.heap.size w v → Calls Tryz.prog 26 #[.string n] v fun e w' => e = .returned (.bool z) ∧ Below v.heap.size v w') := HI0
  clear HI0
  cases z with
  | false =>
    clear hz
    go_enter Tryz.func11, Tryz.ntmps11
    go_wp2_with (go_at_call 26; (with_reducible refine (HI.out _ (Below.refl _ _)).mono ?_); rintro e w3 ⟨rfl, hb3⟩; have HB3 : Hid (Below w.heap.size w w3) := hb3; clear hb3)
    go_ret
    exact ⟨rfl, HB3.out⟩
  | true =>
    have h2 : (200 : Int) < (n.size : Int) := by
      rcases hz with h | h
      · cases h
      · omega
    clear hz
    go_enter Tryz.func11, Tryz.ntmps11
    go_wp2_with (go_at_call 26; (with_reducible refine (HI.out _ (Below.refl _ _)).mono ?_); rintro e w3 ⟨rfl, hb3⟩; have HB3 : Hid (Below w.heap.size w w3) := hb3; clear hb3)
    go_ret
    exact ⟨rfl, HB3.out⟩

set_option maxRecDepth 1000000 in
set_option maxHeartbeats 16000000 in
theorem respelt_yes (s n now : ByteArray) (a : Option Addr) (c : Nat) (L M : List Tk) (hLl : L.length ≤ 8589934560) (hn2 : n.size ≤ 200) (w : World) (hl : LiesA w a L) (hLM : M.length = L.length) (hsz : s.size ≤ 4294967280) (hnz : now.size ≤ 4294967280)
    (hT0 : ∀ (j : Nat) (x : Tk), L[j]? = some x → ∃ k f t : Nat, x = ⟨k, f, t⟩ ∧ f ≤ t ∧ t ≤ s.size ∧ ∃ f' t' : Nat, M[j]? = some (⟨k, f', t'⟩ : Tk) ∧ f' ≤ t' ∧ t' ≤ now.size ∧ now.extract f' t' = if k = 2 then n else s.extract f t)
    (HI0 : ∀ v, Below w.heap.size w v → Calls Tryz.prog 26 #[.string n] v fun e w' => e = .returned (.bool true) ∧ Below v.heap.size v w')
    (HA0 : ¬ 65536 < (nms n L).length → ∀ v a' c', Below w.heap.size w v → Q.EdsA v a' (nms n L) → Calls Tryz.prog 7 #[.string s, .slice a' (nms n L).length c'] v fun e w' => e = .returned (.tuple #[.string now, .int .i64 0]) ∧ Below v.heap.size v w')
    (HS0 : ¬ 65536 < (nms n L).length → ∀ v, Below w.heap.size w v → Calls Tryz.prog 4 #[.string now] v fun e w' => ∃ a' c', e = .returned (.tuple #[.slice a' L.length c', .agg #[.int .i64 0, .int .i64 0, .int .i64 0]]) ∧ LiesA w' a' M ∧ Below v.heap.size v w')
    (HW0 : ¬ 65536 < (nms n L).length → ∀ v a' c', Below w.heap.size w v → LiesA v a' M → Calls Tryz.prog 5 #[.string now, .slice a' L.length c'] v fun e w' => e = .returned (.bool true) ∧ Below v.heap.size v w') :
    Calls Tryz.prog 11 #[.string s, .slice a L.length c, .string n] w fun e w' => e = .returned (.bool true) ∧ Below w.heap.size w w' := by
  obtain ⟨i0, hi, hz0, hz1, hz2⟩ := info_parts Q.infoEd
  have HI : Hid (∀ v, Below w.heap.size w v → Calls Tryz.prog 26 #[.string n] v fun e w' => e = .returned (.bool true) ∧ Below v.heap.size v w') := HI0
  have HA : Hid (¬ 65536 < (nms n L).length → ∀ v a' c', Below w.heap.size w v → Q.EdsA v a' (nms n L) → Calls Tryz.prog 7 #[.string s, .slice a' (nms n L).length c'] v fun e w' => e = .returned (.tuple #[.string now, .int .i64 0]) ∧ Below v.heap.size v w') := HA0
  have HS : Hid (¬ 65536 < (nms n L).length → ∀ v, Below w.heap.size w v → Calls Tryz.prog 4 #[.string now] v fun e w' => ∃ a' c', e = .returned (.tuple #[.slice a' L.length c', .agg #[.int .i64 0, .int .i64 0, .int .i64 0]]) ∧ LiesA w' a' M ∧ Below v.heap.size v w') := HS0
  have HW : Hid (¬ 65536 < (nms n L).length → ∀ v a' c', Below w.heap.size w v → LiesA v a' M → Calls Tryz.prog 5 #[.string now, .slice a' L.length c'] v fun e w' => e = .returned (.bool true) ∧ Below v.heap.size v w') := HW0
  have HL : Hid (LiesA w a L) := hl
  have HT : Hid (∀ (j : Nat) (x : Tk), L[j]? = some x → ∃ k f t : Nat, x = ⟨k, f, t⟩ ∧ f ≤ t ∧ t ≤ s.size ∧ ∃ f' t' : Nat, M[j]? = some (⟨k, f', t'⟩ : Tk) ∧ f' ≤ t' ∧ t' ≤ now.size ∧ now.extract f' t' = if k = 2 then n else s.extract f t) := hT0
  have HLM : Hid (M.length = L.length) := hLM
  have hnl := nms_len n L
  have h200 : ¬ (200 : Int) < (n.size : Int) := by omega
  clear HI0 HA0 HS0 HW0 hl hT0 hLM
  go_enter Tryz.func11, Tryz.ntmps11
  go_wp2_with (go_at_call 26; (with_reducible refine (HI.out _ (Below.refl _ _)).mono ?_); rintro e w1 ⟨rfl, hb1⟩; have HB1 : Hid (Below w.heap.size w w1) := hb1; clear hb1)
  go_loopg [7, 8] L.length (fun gk l i wr => ∃ (k : Nat) (p : List Q.Ed), gk = L.length - k ∧ k ≤ L.length ∧ i = .int .i64 k ∧ Below w.heap.size w wr ∧ wr.ownsRow w.heap.size 38 3 l p.length (Q.flat p) ∧ p.length ≤ k ∧ p ++ nms n (L.drop k) = nms n L)
  case atStart => exact ⟨0, [], by omega, Nat.zero_le _, rfl, HB1.out, World.ownsRow_nil _ _ _ _, by simp, by simp⟩
  case round =>
    clear HB1
    obtain ⟨k, p, rfl, hk, rfl, hbel, hown, hpk, hp⟩ := hrel
    have hsz2 := hbel.size
    have hlt1 : Hid (∀ k, u7.ownBlock = some k → w.heap.size ≤ k ∧ k < wr.heap.size) := hown.lt
    have HO : Hid (wr.ownsRow w.heap.size 38 3 u7 p.length (Q.flat p)) := hown
    have HP : Hid (p ++ nms n (L.drop k) = nms n L) := hp
    have HB : Hid (Below w.heap.size w wr) := hbel
    clear hown hp
    by_cases hlt : k < L.length
    · obtain ⟨b, o, rfl, hLie⟩ : ∃ b o, a = some ⟨b, o, none⟩ ∧ Lies w b o L := by
        rcases HL.out with rfl | h
        · simp at hlt
        · exact h
      obtain ⟨x, hx⟩ : ∃ x, L[k]? = some x := ⟨_, List.getElem?_eq_getElem hlt⟩
      obtain ⟨kk, f, t, rfl, -⟩ := HT.out k x hx
      obtain ⟨c0, c1, c2⟩ := hLie.tk hbel hx
      have hbw : b < w.heap.size := hLie.1
      have hlt' : (k : Int) < (L.length : Int) := by omega
      have HX : Hid (L[k]? = some (⟨kk, f, t⟩ : Tk)) := hx
      clear hx hLie
      by_cases h2 : kk = 2
      · subst h2
        have HS2 : Hid ((p ++ [⟨(f : Int), (t : Int), n⟩]) ++ nms n (L.drop (k + 1)) = nms n L) := by
          unfold Hid
          rw [← HP.out, nms_yes n HX.out]
          simp
        have HN : Hid (some b ≠ u7.ownBlock) := fun h => by have := (hlt1.out _ h.symm).1; omega
        go_upto_region 8 with fail
        go_region_held3 (fun w' => w'.cell? ⟨b, o + k * 3 + 1, none⟩ = some (.int .i64 (f : Int)) ∧ w'.cell? ⟨b, o + k * 3 + 2, none⟩ = some (.int .i64 (t : Int)))
          (first
            | go_keep
            | (refine ⟨?_, ?_⟩ <;> assumption))
          ((refine step_append_lies _ (by rfl) _ _ _ (by rfl) w.heap.size 38 i0 (.agg #[.int .i64 0, .int .i64 0, .string ⟨#[]⟩]) 3 32 Tryz.underlying22 hi hz0 hz1 hz2 rfl (by omega) u7 p.length (Q.flat p) (by rfl) (HO.out.drew.alloc _) ⟨wr.heap.size, 0, none⟩ 1 1 (Q.flat [⟨(f : Int), (t : Int), n⟩]) (by rfl) (by rfl) (Q.cells_new wr.drew (Q.flat [⟨(f : Int), (t : Int), n⟩]) 38) (Q.flat_oneCell _) (by omega) (by unfold maxLen; omega) (by omega) (by have := HB.out.size; simp; omega) (wr.heap.size + 1) (by simp) ?_; intro gg cp w4 hown4 hgrow4 hat hlt4; have x1 : w4.cell? ⟨b, o + k * 3 + 1, none⟩ = some (.int .i64 (f : Int)) := hgrow4.cell ((World.cell?_alloc_past _ _ _ (by first | omega | (simp; omega))).trans (by simpa using c1)) HN.out; have x2 : w4.cell? ⟨b, o + k * 3 + 2, none⟩ = some (.int .i64 (t : Int)) := hgrow4.cell ((World.cell?_alloc_past _ _ _ (by first | omega | (simp; omega))).trans (by simpa using c2)) HN.out))
        have hbel4 : Below w.heap.size w w4 := ((HB.out.alloc HB.out.size _).drew).grown hgrow4 (by have := HB.out.size; simp; omega) (fun k h => (hlt1.out k h).1)
        have HO4 : Hid (w4.ownsRow w.heap.size 38 3 (.slice (some ⟨gg, 0, none⟩) (p.length + 1) cp) (p ++ ([⟨(f : Int), (t : Int), n⟩] : List Q.Ed)).length (Q.flat (p ++ [⟨(f : Int), (t : Int), n⟩]))) := by
          unfold Hid; rw [Q.flat_append, List.length_append]; exact hown4
        have HB4 : Hid (Below w.heap.size w w4) := hbel4
        clear hown4 hgrow4 hbel4 hat hlt4 x1 x2 c0 c1 c2 HO
        go_wp2
        go_roundg (L.length - (k + 1))
        case measure => omega
        case rel => exact ⟨k + 1, _, rfl, by omega, by go_num, HB4.out, HO4.out, by rw [List.length_append]; simp; omega, HS2.out⟩
      · have h2' : ((kk : Int) == 2) = false := by rw [beq_eq_false_iff_ne]; omega
        have HS2 : Hid (p ++ nms n (L.drop (k + 1)) = nms n L) := by
          unfold Hid
          rw [← HP.out, nms_no n HX.out (by omega)]
        go_wp2
        go_roundg (L.length - (k + 1))
        case measure => omega
        case rel => exact ⟨k + 1, p, rfl, by omega, by go_num, hbel, HO.out, by omega, HS2.out⟩
    · have HE : Hid (p = nms n L) := by
        unfold Hid; rw [← HP.out, List.drop_eq_nil_of_le (by omega)]; simp [nms]
      have hpe : p = nms n L := HE.out
      subst hpe
      obtain ⟨a1, c1, rfl, hE1, -, -⟩ := Q.own_form HO.out
      have HE1 : Hid (Q.EdsA wr a1 (nms n L)) := hE1
      have hlt' : ¬ (k : Int) < (L.length : Int) := by omega
      clear hE1 HO hlt1 HP HE hpk
      by_cases hmany : 65536 < (nms n L).length
      · have hmany' : (65536 : Int) < ((nms n L).length : Int) := by omega
        go_wp2
        go_ret
        exact ⟨rfl, hbel⟩
      · have hmany' : ¬ (65536 : Int) < ((nms n L).length : Int) := by omega
        have HN : Hid (¬ 65536 < (nms n L).length) := hmany
        have hne : ((L.length : Int) != (L.length : Int)) = false := by simp
        clear hmany
        obtain ⟨wo, rfl⟩ : ∃ wo, wo = wr := ⟨_, rfl⟩
        go_wp2_with (first
          | (go_at_call 7; (with_reducible refine (HA.out HN.out _ a1 c1 HB.out HE1.out).mono ?_); rintro e w5 ⟨rfl, hb5⟩; have HB5 : Hid (Below w.heap.size w w5) := HB.out.trans (hb5.mono HB.out.size); clear hb5)
          | (go_at_call 4; (with_reducible refine (HS.out HN.out _ HB5.out).mono ?_); rintro e w6 ⟨a6, c6, rfl, hl6, hb6⟩; have HB6 : Hid (Below w.heap.size w w6) := HB5.out.trans (hb6.mono HB5.out.size); have HB7 : Hid (Below w.heap.size w (w6.alloc (.cells #[.int .i64 0, .int .i64 0, .int .i64 0] 26))) := HB6.out.alloc HB6.out.size _; have HL7 : Hid (LiesA (w6.alloc (.cells #[.int .i64 0, .int .i64 0, .int .i64 0] 26)) a6 M) := hl6.below ((Below.refl _ _).alloc (Nat.le_refl _) _); clear hb6 hl6)
          | (go_at_call 5; (with_reducible refine (HW.out HN.out _ a6 c6 HB7.out HL7.out).mono ?_); rintro e w8 ⟨rfl, hb8⟩; have HB8 : Hid (Below w.heap.size w w8) := HB7.out.trans (hb8.mono HB7.out.size); have HL8 : Hid (LiesA w8 a6 M) := HL7.out.below hb8; clear hb8))
        go_loopw [13] (fun si wx => ∃ i : Nat, i ≤ L.length ∧ si = .int .i64 (i : Int) ∧ Below w8.heap.size w8 wx) (fun si _ => L.length - (intOf si).toNat)
        case atStart => exact ⟨0, Nat.zero_le _, rfl, Below.refl _ _⟩
        case round =>
          obtain ⟨i, hi', rfl, hbx⟩ := hrel
          have HBX : Hid (Below w.heap.size w wr) := HB8.out.trans (hbx.mono HB8.out.size)
          by_cases hlt2 : i < L.length
          · obtain ⟨b, o, rfl, hLie⟩ : ∃ b o, a = some ⟨b, o, none⟩ ∧ Lies w b o L := by
              rcases HL.out with rfl | h
              · simp at hlt2
              · exact h
            obtain ⟨b2, o2, rfl, hLie2⟩ : ∃ b o, a6 = some ⟨b, o, none⟩ ∧ Lies w8 b o M := by
              rcases HL8.out with rfl | h
              · have := HLM.out; simp at this; omega
              · exact h
            obtain ⟨x, hx⟩ : ∃ x, L[i]? = some x := ⟨_, List.getElem?_eq_getElem hlt2⟩
            obtain ⟨kk, f, t, rfl, h1, h2, f', t', hM, h3, h4, hEx⟩ := HT.out i x hx
            obtain ⟨c0, c1, c2⟩ := hLie.tk HBX.out hx
            obtain ⟨d0, d1, d2⟩ := hLie2.tk hbx hM
            have hbw : b < w.heap.size := hLie.1
            have hbw2 : b2 < w8.heap.size := hLie2.1
            have hlt' : (i : Int) < (L.length : Int) := by omega
            clear hx hLie hLie2 hM
            have g1 : (0 : Int) ≤ (f' : Int) := by omega
            have g2 : (f' : Int) ≤ (t' : Int) := by omega
            have g3 : (t' : Int) ≤ (now.size : Int) := by omega
            have g4 : (0 : Int) ≤ (f : Int) := by omega
            have g5 : (f : Int) ≤ (t : Int) := by omega
            have g6 : (t : Int) ≤ (s.size : Int) := by omega
            have q1 : ((kk : Int) != (kk : Int)) = false := by simp
            by_cases h22 : kk = 2
            · subst h22
              rw [if_pos rfl] at hEx
              have q2 : (n.toList != n.toList) = false := by simp
              have q3 : (n.toList == n.toList) = true := by simp
              go_wp2
              go_quiet (fail)
              go_wp2
              go_quiet (fail)
              go_wp2
              exact ⟨⟨i + 1, by omega, by go_num, bel_dr hbx⟩, by simp [intOf]; omega⟩
            · rw [if_neg h22] at hEx
              obtain ⟨W, hW⟩ : ∃ W, s.extract f t = W := ⟨_, rfl⟩
              rw [hW] at hEx
              have q2 : (W.toList != W.toList) = false := by simp
              have q3 : (W.toList == W.toList) = true := by simp
              have q4 : ((kk : Int) == 2) = false := by rw [beq_eq_false_iff_ne]; omega
              have q5 : ((kk : Int) != 2) = true := by rw [bne_iff_ne]; omega
              go_wp2
              go_quiet (fail)
              go_wp2
              go_quiet (fail)
              go_wp2
              exact ⟨⟨i + 1, by omega, by go_num, bel_dr hbx⟩, by simp [intOf]; omega⟩
          · have hlt' : ¬ (i : Int) < (L.length : Int) := by omega
            go_wp2
            go_ret
            exact ⟨rfl, HBX.out⟩
end Go.Proofs.YtmnbakalcpanlaaGreatDoor
