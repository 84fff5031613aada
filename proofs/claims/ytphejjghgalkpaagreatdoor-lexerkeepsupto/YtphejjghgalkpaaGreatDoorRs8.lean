import Derived.Test.YtphejjghgalkpaaGreatDoorRs6
import Derived.Test.YtphejjghgalkpaaGreatDoorScansB
import Derived.BigQuiet
import Derived.Test.YtphejjghgalkpaaGreatDoorSmT
namespace Go.Proofs.YtphejjghgalkpaaGreatDoor
open Go.ChangeShapes Go.WideShapes Go.ChangeAt Go.RowKit Go.Maps Go.WideMaps
set_option linter.unusedVariables false
set_option linter.unusedSimpArgs false

/-- what Rescan answers: the text, the list, the fault and its place -/
structure Rsc where
  tx : ByteArray
  ls : List Tk
  y : Nat
  z : Nat
def rcut (s : ByteArray) : Rsc := match (cut s 0).2 with
  | none => ⟨s, wau s (cut s 0).1, 0, 0⟩
  | some (y, z) => ⟨s, [], y, z⟩
def rsc (s : ByteArray) (xs : List Tk) (ef et : Int) (n : ByteArray) : Rsc :=
  if sdB s xs = false then ⟨.empty, [], 1, 0⟩
  else if ef < 0 ∨ et < ef ∨ (s.size : Int) < et then ⟨.empty, [], 10, 0⟩
  else rcut (edE s n ef.toNat et.toNat)
theorem rescan_all (s : ByteArray) (a : Option Addr) (c : Nat) (xs : List Tk) (ef et : Int) (n : ByteArray) (hs : s.size ≤ 2147483640) (hn : n.size ≤ 2147483640) (hx : xs.length ≤ 281474976710656) (w : World) (hl : LiesA w a xs) (hS : Spl w) (hT : Lt w) (hM : MaxL w) :
    Calls Tryz.prog 7 #[.string s, .slice a xs.length c, .agg #[.int .i64 ef, .int .i64 et, .string n]] w fun e w' => ∃ a' c', e = .returned (.tuple #[.string (rsc s xs ef et n).tx, .slice a' (rsc s xs ef et n).ls.length c', .agg #[.int .i64 ((rsc s xs ef et n).y : Int), .int .i64 0, .int .i64 ((rsc s xs ef et n).z : Int)]]) ∧ w'.ownsRow w.heap.size 39 3 (.slice a' (rsc s xs ef et n).ls.length c') (rsc s xs ef et n).ls.length (flat (rsc s xs ef et n).ls) ∧ Below w.heap.size w w' := by
  unfold rsc
  cases hb : sdB s xs with
  | false =>
    rw [if_pos rfl]
    refine (rescan_arg s a c xs ef et n (by omega) hx hb w hl hS hT hM).mono ?_
    rintro e w' ⟨rfl, hb⟩
    exact ⟨none, 0, rfl, World.ownsRow_nil _ _ _ _, hb⟩
  | true =>
    rw [if_neg (by simp)]
    by_cases hE : ef < 0 ∨ et < ef ∨ (s.size : Int) < et
    · rw [if_pos hE]
      refine (rescan_span s a c xs ef et n (by omega) hx hb hE w hl hS hT hM).mono ?_
      rintro e w' ⟨rfl, hb⟩
      exact ⟨none, 0, rfl, World.ownsRow_nil _ _ _ _, hb⟩
    · rw [if_neg hE]
      obtain ⟨f, hf⟩ : ∃ f : Nat, ef = f := ⟨ef.toNat, by omega⟩
      obtain ⟨t, ht⟩ : ∃ t : Nat, et = t := ⟨et.toNat, by omega⟩
      subst hf
      subst ht
      rw [Int.toNat_natCast, Int.toNat_natCast]
      refine (rescan_in s a c xs f t n hs hn hb (by omega) (by omega) w hl hS hT hM).mono ?_
      intro e w' h
      unfold RcE at h
      unfold rcut
      obtain ⟨h1, h2⟩ := h
      cases hN : (cut (edE s n f t) 0).2 with
      | none =>
        rw [hN] at h2
        obtain ⟨v, rfl, ho⟩ := h2
        obtain ⟨a', c', rfl, -, -⟩ := own_form' ho
        exact ⟨a', c', rfl, ho, h1⟩
      | some yz =>
        obtain ⟨y, z⟩ := yz
        rw [hN] at h2
        exact ⟨none, 0, h2, World.ownsRow_nil _ _ _ _, h1⟩
end Go.Proofs.YtphejjghgalkpaaGreatDoor

namespace Go.Proofs.YtphejjghgalkpaaGreatDoor
open Go.ChangeShapes Go.WideShapes Go.ChangeAt Go.RowKit Go.Maps Go.WideMaps
set_option linter.unusedVariables false
set_option linter.unusedSimpArgs false

set_option maxRecDepth 1000000 in
set_option maxHeartbeats 8000000 in
theorem rSame_any (a1 a2 : Option Addr) (c1 c2 : Nat) (xs ys : List Tk) (w : World) (h1 : LiesA w a1 xs) (h2 : LiesA w a2 ys) (hl : xs.length ≤ 281474976710656) (hl2 : ys.length ≤ 281474976710656) :
    Calls Tryz.prog 51 #[.slice a1 xs.length c1, .slice a2 ys.length c2] w fun e w' => e = .returned (.bool (lsE xs ys)) ∧ Below w.heap.size w w' := by
  by_cases hlen : xs.length = ys.length
  · have hne : ((xs.length : Int) != (ys.length : Int)) = false := by rw [hlen]; simp
    have H1 : Hid (LiesA w a1 xs) := h1
    have H2 : Hid (LiesA w a2 ys) := h2
    have HL : Hid (xs.length = ys.length) := hlen
    obtain ⟨z, hz⟩ : ∃ z, lsE xs ys = z := ⟨_, rfl⟩
    have HZ : Hid (lsE xs ys = z) := hz
    rw [hz]
    clear h1 h2 hz
    obtain ⟨m, hm⟩ : ∃ m, ys.length = m := ⟨_, rfl⟩
    rw [hm] at hne hl2 ⊢
    have HM : Hid (ys.length = m) := hm
    clear hm hlen
    go_enter Tryz.func51, Tryz.ntmps51
    go_wp2
    go_loopw [13] (fun si wr => ∃ i : Nat, i ≤ xs.length ∧ si = .int .i64 (i : Int) ∧ (∀ j, j < i → xs[j]? = ys[j]?) ∧ Below w.heap.size w wr) (fun si _ => xs.length - (intOf si).toNat)
    case atStart => exact ⟨0, Nat.zero_le _, rfl, fun j hj => by omega, Below.refl _ _⟩
    case round =>
      obtain ⟨i, hi, rfl, hall, hbel⟩ := hrel
      have HA : Hid (∀ j, j < i → xs[j]? = ys[j]?) := hall
      have HB : Hid (Below w.heap.size w wr) := hbel
      clear hall hbel
      by_cases hlt : i < xs.length
      · have hlt' : (i : Int) < (xs.length : Int) := by omega
        have hm0 := HM.out
        have hl0 := HL.out
        have hlt2 : (i : Int) < (m : Int) := by omega
        obtain ⟨e, he⟩ : ∃ e, xs[i]? = some e := ⟨_, List.getElem?_eq_getElem hlt⟩
        obtain ⟨d, hd⟩ : ∃ d, ys[i]? = some d := ⟨_, List.getElem?_eq_getElem (by omega)⟩
        obtain ⟨g1, o1, rfl, l1⟩ : ∃ g o, a1 = some ⟨g, o, none⟩ ∧ Lies w g o xs := by
          rcases H1.out with h | ⟨g, o, q1, q2⟩
          · rw [h] at hlt; simp at hlt
          · exact ⟨g, o, q1, q2⟩
        obtain ⟨g2, o2, rfl, l2⟩ : ∃ g o, a2 = some ⟨g, o, none⟩ ∧ Lies w g o ys := by
          rcases H2.out with h | ⟨g, o, q1, q2⟩
          · rw [h] at hl0; rw [hl0] at hlt; simp at hlt
          · exact ⟨g, o, q1, q2⟩
        obtain ⟨x0, x1, x2⟩ := l1.tk HB.out he
        obtain ⟨y0, y1, y2⟩ := l2.tk HB.out hd
        have hg1 : g1 < wr.heap.size := by have := l1.1; have := HB.out.size; omega
        have hg2 : g2 < wr.heap.size := by have := l2.1; have := HB.out.size; omega
        obtain ⟨ek, ef, et⟩ := e
        obtain ⟨dk, df, dt⟩ := d
        simp only at x0 x1 x2 y0 y1 y2
        by_cases heq : ek = dk ∧ ef = df ∧ et = dt
        · obtain ⟨rfl, rfl, rfl⟩ := heq
          have HA2 : Hid (∀ j, j < i + 1 → xs[j]? = ys[j]?) := fun j hj => by
            by_cases h : j = i
            · subst h; rw [he, hd]
            · exact HA.out j (by omega)
          clear he hd hm0 hl0 l1 l2
          go_wp2
          go_quiet (fail)
          go_wp2
          go_roundw
          case rel => exact ⟨i + 1, by omega, by go_num, HA2.out, bel_drewN HB.out⟩
          case measure => simp [intOf]; omega
        · have hzf : Hid (false = z) := by
            unfold Hid
            rw [← HZ.out]
            exact (lsE_no he hd (fun e => heq ⟨congrArg Tk.k e, congrArg Tk.f e, congrArg Tk.t e⟩)).symm
          have hcs : (ek == dk) = false ∨ ((ek == dk) = true ∧ (ef == df) = false) ∨ ((ek == dk) = true ∧ (ef == df) = true ∧ (et == dt) = false) := by
            by_cases c1 : ek = dk
            · by_cases c2 : ef = df
              · right; right
                exact ⟨by rw [beq_iff_eq]; exact c1, by rw [beq_iff_eq]; exact c2, by rw [beq_eq_false_iff_ne]; exact fun h => heq ⟨c1, c2, h⟩⟩
              · right; left
                exact ⟨by rw [beq_iff_eq]; exact c1, by rw [beq_eq_false_iff_ne]; exact c2⟩
            · left; rw [beq_eq_false_iff_ne]; exact c1
          clear he hd hm0 hl0 l1 l2 heq
          rcases hcs with q1 | ⟨q1, q2⟩ | ⟨q1, q2, q3⟩
          all_goals
            go_wp2
            go_quiet (fail)
            go_wp2
            go_ret
            exact ⟨by rw [← hzf.out]; rfl, bel_drewN HB.out⟩
      · have hge : ¬ (i : Int) < (xs.length : Int) := by omega
        have hzt : Hid (true = z) := by
          unfold Hid
          rw [← HZ.out]
          exact (lsE_all HL.out (fun j hj => HA.out j (by omega))).symm
        go_wp2
        go_ret
        exact ⟨by rw [← hzt.out]; rfl, HB.out⟩
  · have hne : ((xs.length : Int) != (ys.length : Int)) = true := by rw [bne_iff_ne]; omega
    rw [lsE_len hlen]
    clear h1 h2 hlen
    go_enter Tryz.func51, Tryz.ntmps51
    go_wp2
    go_ret
    exact ⟨rfl, Below.refl _ _⟩
end Go.Proofs.YtphejjghgalkpaaGreatDoor

namespace Go.Proofs.YtphejjghgalkpaaGreatDoor
open Go.ChangeShapes Go.WideShapes Go.ChangeAt Go.RowKit Go.Maps Go.WideMaps
set_option linter.unusedVariables false
set_option linter.unusedSimpArgs false

set_option maxRecDepth 1000000 in
set_option maxHeartbeats 8000000 in
theorem rSound_any (s : ByteArray) (a : Option Addr) (c : Nat) (xs : List Tk) (hs : s.size ≤ 4294967280) (hx : xs.length ≤ 281474976710656) (w : World) (h : LiesA w a xs) (hT : Lt w) :
    Calls Tryz.prog 28 #[.string s, .slice a xs.length c] w fun e w' => e = .returned (.bool (sdB s xs)) ∧ Below w.heap.size w w' := by
  unfold sdB
  cases hC : (cut s 0).2 with
  | some yz =>
    obtain ⟨y, z⟩ := yz
    obtain ⟨-, -, hy1, hy2, -⟩ := cut_first s s.size 0 y z (by omega) hC
    have HS1 : Hid (Calls Tryz.prog 12 #[.string s] w fun e w' => e = .returned (.tuple #[.slice none 0 0, .int .i64 (y : Int), .int .i64 (z : Int)]) ∧ Below w.heap.size w w') := rscan_no hs hC w hT
    have hy : ((y : Int) == 0) = false := by rw [beq_eq_false_iff_ne]; omega
    clear hC hT h
    go_enter Tryz.func28, Tryz.ntmps28
    go_wp2_with (go_at_call 12; (with_reducible refine HS1.out.mono ?_); rintro e w3 ⟨rfl, hb3⟩; have HB3 : Hid (Below w.heap.size w w3) := hb3; clear hb3)
    go_ret
    exact ⟨rfl, HB3.out⟩
  | none =>
    have hmx := wau_max hs
    obtain ⟨L, hL⟩ : ∃ L, wau s (cut s 0).1 = L := ⟨_, rfl⟩
    have HS1 : Hid (Calls Tryz.prog 12 #[.string s] w fun e w' => ∃ a c, e = .returned (.tuple #[.slice a L.length c, .int .i64 0, .int .i64 0]) ∧ LiesA w' a L ∧ L.length ≤ c ∧ Below w.heap.size w w') := by rw [← hL]; exact rscan_ok hs hC w hT
    rw [hL] at hmx ⊢
    have HH : Hid (LiesA w a xs) := h
    have HE : Hid (∀ a1 c1 a2 c2 v, LiesA v a1 xs → LiesA v a2 L → Calls Tryz.prog 51 #[.slice a1 xs.length c1, .slice a2 L.length c2] v fun e w' => e = .returned (.bool (lsE xs L)) ∧ Below v.heap.size v w') := fun a1 c1 a2 c2 v h1 h2 => rSame_any a1 a2 c1 c2 xs L v h1 h2 hx (by omega)
    simp only
    rw [lsE_symm L xs]
    obtain ⟨z, hz⟩ : ∃ z, lsE xs L = z := ⟨_, rfl⟩
    rw [hz] at HE ⊢
    clear hC hT h hL hz
    go_enter Tryz.func28, Tryz.ntmps28
    go_wp2_with (first
      | (go_at_call 12; (with_reducible refine HS1.out.mono ?_); rintro e w3 ⟨a3, c3, rfl, hl3, hc3, hb3⟩; have HB3 : Hid (Below w.heap.size w w3) := hb3; have HL3 : Hid (LiesA w3 a3 L) := hl3; have HX3 : Hid (LiesA w3 a xs) := HH.out.below hb3; clear hb3 hl3)
      | (go_at_call 51; (with_reducible refine (HE.out a c a3 c3 _ HX3.out HL3.out).mono ?_); rintro e w4 ⟨rfl, hb4⟩; have HB4 : Hid (Below w.heap.size w w4) := HB3.out.trans (hb4.mono HB3.out.size); clear hb4))
    go_ret
    exact ⟨rfl, HB4.out⟩
set_option maxRecDepth 1000000 in
set_option maxHeartbeats 4000000 in
theorem copyTokens_any (a : Option Addr) (c : Nat) (xs : List Tk) (w : World) (h : LiesA w a xs) (hn : a = none → xs.length = 0 ∧ c = 0) (hl : xs.length ≤ 4398046510976) :
    Calls Tryz.prog 21 #[.slice a xs.length c] w fun e w' => ∃ u, e = .returned u ∧ w'.ownsRow w.heap.size 39 3 u xs.length (flat xs) ∧ Below w.heap.size w w' := by
  obtain ⟨i0, hi0, hz0, hz1, hz2⟩ := info_parts infoTk
  have HN : Hid (a = none → xs.length = 0 ∧ c = 0) := hn
  have HW : Hid (LiesA (w.alloc (.cells #[] 39)) a xs) := h.below ((Below.refl _ w).alloc (Nat.le_refl _) _)
  have HL : Hid ((flat xs).length = xs.length * 3) := flat_length xs
  have H1 : Hid (∀ u ∈ flat xs, u.oneCell' = true) := flat_oneCell xs
  have HL0 : Hid ((w.alloc (.cells #[] 39)).ownsRow w.heap.size 39 3 (.slice (some ⟨w.heap.size, 0, none⟩) 0 0) 0 []) := World.ownsRow_lit w #[] 0 (Nat.le_refl _) (by unfold maxLen; omega) rfl
  clear h hn
  go_enter Tryz.func21, Tryz.ntmps21
  go_wp2_with (at_builtin; ((refine wpList_append_at _ rfl _ _ 22 rfl w.heap.size 39 i0 (.agg #[.int .u8 0, .int .i64 0, .int .i64 0]) 3 24 Tryz.underlying22 hi0 hz0 hz1 hz2 rfl (by decide) _ 0 [] rfl HL0.out a xs.length c (flat xs) rfl HL.out HN.out (liesA_news HW.out) H1.out (by unfold maxLen; omega) (by omega) (by simp) ?_); intro v1 w1 hown1 hgrow1 _; have HB1 : Hid (Below w.heap.size w w1) := ((Below.refl _ w).alloc (Nat.le_refl _) _).grown hgrow1 (by simp) (fun g h => (HL0.out.lt g h).1); have HO1 : Hid (w1.ownsRow w.heap.size 39 3 v1 xs.length (flat xs)) := (by unfold Hid; rw [Nat.zero_add, List.nil_append] at hown1; exact hown1); clear hown1 hgrow1))
  go_ret
  exact ⟨_, rfl, HO1.out, HB1.out⟩
/-- three marks -/
def mk3 : List Tk := [⟨0, -1, 0⟩, ⟨0, -2, 0⟩, ⟨0, -3, 0⟩]
set_option maxRecDepth 1000000 in
set_option maxHeartbeats 4000000 in
theorem roomy_any (a : Option Addr) (c : Nat) (xs : List Tk) (w : World) (h : LiesA w a xs) (hn : a = none → xs.length = 0 ∧ c = 0) (hl : xs.length ≤ 1048576) :
    Calls Tryz.prog 6 #[.slice a xs.length c] w fun e w' => ∃ g c', e = .returned (.tuple #[.slice (some ⟨g, 0, none⟩) xs.length c', .slice (some ⟨g, 0, none⟩) (xs.length + 3) c']) ∧ xs.length + 3 ≤ c' ∧ w'.ownsRow w.heap.size 39 3 (.slice (some ⟨g, 0, none⟩) (xs.length + 3) c') (xs.length + 3) (flat (xs ++ mk3)) ∧ Below w.heap.size w w' := by
  obtain ⟨i0, hi0, hz0, hz1, hz2⟩ := info_parts infoTk
  have HCP : Hid (Calls Tryz.prog 21 #[.slice a xs.length c] w fun e w' => ∃ u, e = .returned u ∧ w'.ownsRow w.heap.size 39 3 u xs.length (flat xs) ∧ Below w.heap.size w w') := copyTokens_any a c xs w h hn (by omega)
  have HF : Hid (flat mk3 = [.int .u8 0, .int .i64 (-1), .int .i64 0, .int .u8 0, .int .i64 (-2), .int .i64 0, .int .u8 0, .int .i64 (-3), .int .i64 0]) := rfl
  have H3 : Hid (∀ u ∈ ([.int .u8 0, .int .i64 (-1), .int .i64 0, .int .u8 0, .int .i64 (-2), .int .i64 0, .int .u8 0, .int .i64 (-3), .int .i64 0] : List Value), u.oneCell' = true) := by unfold Hid; rw [← HF.out]; exact flat_oneCell mk3
  clear h hn
  go_enter Tryz.func6, Tryz.ntmps6
  go_wp2_with (first
    | (go_at_call 21; (with_reducible refine HCP.out.mono ?_); rintro e w3 ⟨u3, rfl, ho3, hb3⟩; have HB3 : Hid (Below w.heap.size w w3) := hb3; have HO3 : Hid (w3.ownsRow w.heap.size 39 3 u3 xs.length (flat xs)) := ho3; clear hb3 ho3)
    | (at_builtin; (refine wpList_append_at _ rfl (.tmp 6) (.tmp 10) 22 rfl w.heap.size 39 i0 (.agg #[.int .u8 0, .int .i64 0, .int .i64 0]) 3 24 Tryz.underlying22 hi0 hz0 hz1 hz2 rfl (by decide) _ xs.length (flat xs) rfl (HO3.out.alloc _) (some ⟨_, 0, none⟩) 3 3 [.int .u8 0, .int .i64 (-1), .int .i64 0, .int .u8 0, .int .i64 (-2), .int .i64 0, .int .u8 0, .int .i64 (-3), .int .i64 0] rfl rfl (fun h => by cases h) (fun ad had => by cases had; exact cells_new _ _ _) H3.out (by unfold maxLen; omega) (by omega) (by have := HB3.out.size; simp; omega) ?_); intro v9 w9 ho9 hg9 _; have HB9 : Hid (Below w.heap.size w w9) := (HB3.out.alloc HB3.out.size _).grown hg9 (by have := HB3.out.size; simp; omega) (fun j hj => (HO3.out.lt j hj).1); have HO9 : Hid (w9.ownsRow w.heap.size 39 3 v9 (xs.length + 3) (flat (xs ++ mk3))) := (by unfold Hid; rw [flat_append, HF.out]; exact ho9); obtain ⟨g9, c9, hv9, hc9, hg9'⟩ := own_cap HO9.out (by omega); subst hv9; have hc9' : (xs.length : Int) ≤ (c9 : Int) := (by omega); clear ho9 hg9))
  go_ret2
  exact ⟨g9, c9, rfl, hc9, HO9.out, HB9.out⟩
set_option maxRecDepth 1000000 in
set_option maxHeartbeats 4000000 in
theorem untouched_any (g c : Nat) (a : Option Addr) (c2 : Nat) (xs : List Tk) (w : World) (h1 : Lies w g 0 (xs ++ mk3)) (hc : xs.length + 3 ≤ c) (h2 : LiesA w a xs) (hl : xs.length ≤ 1048576) :
    Calls Tryz.prog 9 #[.slice (some ⟨g, 0, none⟩) (xs.length + 3) c, .slice a xs.length c2] w fun e w' => e = .returned (.bool true) ∧ Below w.heap.size w w' := by
  have HSM : Hid (Calls Tryz.prog 10 #[.slice (some ⟨g, 0, none⟩) xs.length c, .slice a xs.length c2] w fun e w' => e = .returned (.bool true) ∧ Below w.heap.size w w') := same_tokens (some ⟨g, 0, none⟩) a c c2 xs w (.inr ⟨g, 0, rfl, h1.pre⟩) h2 (by unfold maxLen; omega)
  have HC : Hid (∀ v, Below w.heap.size w v → v.cell? ⟨g, xs.length * 3 + 1, none⟩ = some (.int .i64 (-1)) ∧ v.cell? ⟨g, (xs.length + 1) * 3 + 1, none⟩ = some (.int .i64 (-2)) ∧ v.cell? ⟨g, (xs.length + 2) * 3 + 1, none⟩ = some (.int .i64 (-3))) := fun v hv => by
    have e0 := (h1.tk hv (i := xs.length) (e := ⟨0, -1, 0⟩) (by rw [List.getElem?_append_right (Nat.le_refl _), Nat.sub_self]; rfl)).2.1
    have e1 := (h1.tk hv (i := xs.length + 1) (e := ⟨0, -2, 0⟩) (by rw [List.getElem?_append_right (by omega), Nat.add_sub_cancel_left]; rfl)).2.1
    have e2 := (h1.tk hv (i := xs.length + 2) (e := ⟨0, -3, 0⟩) (by rw [List.getElem?_append_right (by omega), Nat.add_sub_cancel_left]; rfl)).2.1
    simp only [Nat.zero_add] at e0 e1 e2
    exact ⟨e0, e1, e2⟩
  have hgl : g < w.heap.size := h1.1
  have hnc : (xs.length : Int) ≤ (c : Int) := by omega
  have hn3 : (xs.length : Int) < (xs.length : Int) + 3 := by omega
  clear h1 h2
  go_enter Tryz.func9, Tryz.ntmps9
  go_wp2_with (go_at_call 10; (with_reducible refine HSM.out.mono ?_); rintro e w3 ⟨rfl, hb3⟩; obtain ⟨d0, d1, d2⟩ := HC.out w3 hb3; have hg3 : g < w3.heap.size := Nat.lt_of_lt_of_le hgl hb3.size; have HB3 : Hid (Below w.heap.size w w3) := hb3; clear hb3)
  go_ret
  exact ⟨rfl, HB3.out⟩
end Go.Proofs.YtphejjghgalkpaaGreatDoor

namespace Go.Proofs.YtphejjghgalkpaaGreatDoor
open Go.ChangeShapes Go.WideShapes Go.ChangeAt Go.RowKit Go.Maps Go.WideMaps
set_option linter.unusedVariables false
set_option linter.unusedSimpArgs false

theorem rscan_cut (s : ByteArray) (hs : s.size ≤ 4294967280) (w : World) (hT : Lt w) :
    Calls Tryz.prog 12 #[.string s] w fun e w' => ∃ a c, e = .returned (.tuple #[.slice a (rcut s).ls.length c, .int .i64 ((rcut s).y : Int), .int .i64 ((rcut s).z : Int)]) ∧ w'.ownsRow w.heap.size 39 3 (.slice a (rcut s).ls.length c) (rcut s).ls.length (flat (rcut s).ls) ∧ Below w.heap.size w w' := by
  unfold rcut
  cases hN : (cut s 0).2 with
  | none =>
    refine (rScan_any s hs w hT).mono fun e w' h => ?_
    unfold RsE at h
    rw [hN] at h
    obtain ⟨hb, v, rfl, ho⟩ := h
    obtain ⟨a, c, rfl, -, -⟩ := own_form' ho
    exact ⟨a, c, rfl, ho, hb⟩
  | some yz =>
    obtain ⟨y, z⟩ := yz
    refine (rscan_no hs hN w hT).mono ?_
    rintro e w' ⟨rfl, h⟩
    exact ⟨none, 0, rfl, World.ownsRow_nil _ _ _ _, h⟩
set_option maxRecDepth 1000000 in
set_option maxHeartbeats 8000000 in
theorem rRescan_any (s : ByteArray) (a : Option Addr) (c : Nat) (xs : List Tk) (ef et : Int) (n : ByteArray) (hs : s.size ≤ 2147483640) (hn : n.size ≤ 2147483640) (hx : xs.length ≤ 281474976710656) (w : World) (hl : LiesA w a xs) (hT : Lt w) :
    Calls Tryz.prog 8 #[.string s, .slice a xs.length c, .agg #[.int .i64 ef, .int .i64 et, .string n]] w fun e w' => ∃ a' c', e = .returned (.tuple #[.string (rsc s xs ef et n).tx, .slice a' (rsc s xs ef et n).ls.length c', .int .i64 ((rsc s xs ef et n).y : Int), .int .i64 ((rsc s xs ef et n).z : Int)]) ∧ w'.ownsRow w.heap.size 39 3 (.slice a' (rsc s xs ef et n).ls.length c') (rsc s xs ef et n).ls.length (flat (rsc s xs ef et n).ls) ∧ Below w.heap.size w w' := by
  obtain ⟨w2, e2, hb2, hs2, B1⟩ := bx1 w #[.int .i64 ef, .int .i64 et, .string n] 24
  have HB2 : Hid (Below w.heap.size w w2) := hb2
  have HE2 : Hid (∀ v, Below w2.heap.size w2 v → Bx v w.heap.size #[.int .i64 ef, .int .i64 et, .string n] 24 ∧ Below w.heap.size w v) := fun v h => ⟨B1.below h B1.lt, hb2.trans (h.mono hb2.size)⟩
  have hsd := rSound_any s a c xs (by omega) hx w2 (hl.below hb2) (hT.below hb2)
  have HT : Hid (∀ v, Below w.heap.size w v → Lt v) := fun v hv => hT.below hv
  unfold rsc
  cases hb : sdB s xs with
  | false =>
    rw [hb] at hsd
    have HSD : Hid (Calls Tryz.prog 28 #[.string s, .slice a xs.length c] w2 fun e w' => e = .returned (.bool false) ∧ Below w2.heap.size w2 w') := hsd
    rw [if_pos rfl]
    clear hb2 hs2 B1 hl hT hb hsd
    go_enter Tryz.func8, Tryz.ntmps8
    go_wp2_with (go_at_call 28; (with_reducible refine HSD.out.mono ?_); rintro e w3 ⟨rfl, hb3⟩; have HB3 : Hid (Below w2.heap.size w2 w3) := hb3; clear hb3)
    refine bodyPost_ret (v := .tuple #[.string .empty, .slice none 0 0, .int .i64 1, .int .i64 0]) (by simp [results, Tryz.results8, go_sem]; rfl) rfl ⟨none, 0, rfl, World.ownsRow_nil _ _ _ _, HB2.out.trans (HB3.out.mono HB2.out.size)⟩
  | true =>
    rw [hb] at hsd
    have HSD : Hid (Calls Tryz.prog 28 #[.string s, .slice a xs.length c] w2 fun e w' => e = .returned (.bool true) ∧ Below w2.heap.size w2 w') := hsd
    rw [if_neg (by simp)]
    by_cases hE : ef < 0 ∨ et < ef ∨ (s.size : Int) < et
    · rw [if_pos hE]
      have hEE : ef < 0 ∨ (¬ ef < 0 ∧ et < ef) ∨ (¬ ef < 0 ∧ ¬ et < ef ∧ et > (s.size : Int)) := by omega
      clear hb2 hs2 B1 hl hT hb hsd hE
      rcases hEE with q1 | ⟨q1, q2⟩ | ⟨q1, q2, q3⟩
      all_goals
        go_enter Tryz.func8, Tryz.ntmps8
        go_wp2_with (go_at_call 28; (with_reducible refine HSD.out.mono ?_); rintro e w3 ⟨rfl, hb3⟩; have HB3 : Hid (Below w2.heap.size w2 w3) := hb3; obtain ⟨X3, -⟩ := HE2.out w3 hb3; have x0 : w3.cell? ⟨w.heap.size, 0, none⟩ = some (.int .i64 ef) := X3.cell 0; have x1 : w3.cell? ⟨w.heap.size, 1, none⟩ = some (.int .i64 et) := X3.cell 1; have x9 := X3.lt; clear hb3 X3)
        refine bodyPost_ret (v := .tuple #[.string .empty, .slice none 0 0, .int .i64 10, .int .i64 0]) (by simp [results, Tryz.results8, go_sem]; rfl) rfl ⟨none, 0, rfl, World.ownsRow_nil _ _ _ _, HB2.out.trans (HB3.out.mono HB2.out.size)⟩
    · rw [if_neg hE]
      obtain ⟨f, hf⟩ : ∃ f : Nat, ef = f := ⟨ef.toNat, by omega⟩
      obtain ⟨t, ht⟩ : ∃ t : Nat, et = t := ⟨et.toNat, by omega⟩
      subst hf
      subst ht
      rw [Int.toNat_natCast, Int.toNat_natCast]
      have hft : f ≤ t := by omega
      have hts : t ≤ s.size := by omega
      have hsz := edE_size s n f t hft hts
      obtain ⟨s', hs'⟩ : ∃ s', edE s n f t = s' := ⟨_, rfl⟩
      have HS' : Hid (s.extract 0 f ++ n ++ s.extract t s.size = s') := hs'
      rw [hs'] at hsz ⊢
      have HSC : Hid (∀ v, Below w.heap.size w v → Calls Tryz.prog 12 #[.string s'] v fun e w' => ∃ a c, e = .returned (.tuple #[.slice a (rcut s').ls.length c, .int .i64 ((rcut s').y : Int), .int .i64 ((rcut s').z : Int)]) ∧ w'.ownsRow v.heap.size 39 3 (.slice a (rcut s').ls.length c) (rcut s').ls.length (flat (rcut s').ls) ∧ Below v.heap.size v w') := fun v hv => rscan_cut s' (by omega) v (HT.out v hv)
      have htx : (rcut s').tx = s' := by unfold rcut; split <;> rfl
      rw [htx]
      generalize (rcut s').ls = L at *
      generalize (rcut s').y = Y at *
      generalize (rcut s').z = Zz at *
      have q1 : ¬ (f : Int) < 0 := by omega
      have q2 : ¬ (t : Int) < (f : Int) := by omega
      have q3 : ¬ (t : Int) > (s.size : Int) := by omega
      have hf' : (f : Int) ≤ (s.size : Int) := by omega
      have ht' : (t : Int) ≤ (s.size : Int) := by omega
      have zm1 : ¬ (9223372036854775807 < min f s.size + n.size) := by omega
      have zm2 : ¬ (9223372036854775807 < min f s.size + n.size + (s.size - t)) := by omega
      have zc1 : ¬ (9223372036854775807 < (s.extract 0 f).size + n.size) := by rw [off_size (by omega)]; omega
      have zc2 : ¬ (9223372036854775807 < (s.extract 0 f ++ n).size + (s.extract t s.size).size) := by rw [ByteArray.size_append, off_size (by omega), ByteArray.size_extract]; omega
      clear hb2 hs2 B1 hl hT hb hsd hE hs' htx hsz
      go_enter Tryz.func8, Tryz.ntmps8
      go_upto_region 5 with (go_at_call 28; (with_reducible refine HSD.out.mono ?_); rintro e w3 ⟨rfl, hb3⟩; have HB3 : Hid (Below w2.heap.size w2 w3) := hb3; obtain ⟨X3, hw3⟩ := HE2.out w3 hb3; have HW3 : Hid (Below w.heap.size w w3) := hw3; have x0 : w3.cell? ⟨w.heap.size, 0, none⟩ = some (.int .i64 (f : Int)) := X3.cell 0; have x1 : w3.cell? ⟨w.heap.size, 1, none⟩ = some (.int .i64 (t : Int)) := X3.cell 1; have x2 : w3.cell? ⟨w.heap.size, 2, none⟩ = some (.string n) := X3.cell 2; have x9 := X3.lt; clear hb3 X3 hw3)
      go_quiet (fail)
      rw [HS'.out]
      go_wp2_with (go_at_call 12; (with_reducible refine (HSC.out _ (bel_drewN HW3.out)).mono ?_); rintro e w5 ⟨a5, c5, rfl, hl5, hb5⟩; have HB5 : Hid (Below w.heap.size w w5) := (bel_drewN HW3.out).trans (hb5.mono HW3.out.size); have HL5 : Hid (w5.ownsRow w.heap.size 39 3 (.slice a5 L.length c5) L.length (flat L)) := own_lower hl5 HW3.out.size; clear hb5 hl5)
      refine bodyPost_ret (v := .tuple #[.string s', .slice a5 L.length c5, .int .i64 (Y : Int), .int .i64 (Zz : Int)]) (by simp [results, Tryz.results8, go_sem]) rfl ⟨a5, c5, rfl, HL5.out, HB5.out⟩
end Go.Proofs.YtphejjghgalkpaaGreatDoor
