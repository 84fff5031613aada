import Derived.Test.YthdfccdkomfikabGreatDoorRlH
import Derived.Test.YthdfccdkomfikabGreatDoorKdA
import Derived.BigQuiet
import Derived.Test.YthdfccdkomfikabGreatDoorCls
namespace Go.Proofs.YthdfccdkomfikabGreatDoor
open Go.ChangeShapes Go.WideShapes Go.ChangeAt Go.RowKit
set_option linter.unusedVariables false
set_option linter.unusedSimpArgs false

/-- the reference's Scan of a text with a fault -/
theorem rscan_no {s : ByteArray} (hs : s.size ≤ 4294967280) {y z : Nat} (hc : (cut s 0).2 = some (y, z)) (w : World) (hT : Lt w) :
    Calls Tryz.prog 28 #[.string s] w fun e w' => e = .returned (.tuple #[.slice none 0 0, .int .i64 (y : Int), .int .i64 (z : Int)]) ∧ Below w.heap.size w w' := by
  refine (rScan_any s hs w hT).mono fun e w' h => ?_
  unfold RsE at h
  rw [hc] at h
  exact ⟨h.2, h.1⟩
/-- .. and of one without -/
theorem rscan_ok {s : ByteArray} (hs : s.size ≤ 4294967280) (hc : (cut s 0).2 = none) (w : World) (hT : Lt w) :
    Calls Tryz.prog 28 #[.string s] w fun e w' => ∃ a c, e = .returned (.tuple #[.slice a (wau s (cut s 0).1).length c, .int .i64 0, .int .i64 0]) ∧ LiesA w' a (wau s (cut s 0).1) ∧ (wau s (cut s 0).1).length ≤ c ∧ Below w.heap.size w w' := by
  refine (rScan_any s hs w hT).mono fun e w' h => ?_
  unfold RsE at h
  rw [hc] at h
  obtain ⟨hb, v, he, ho⟩ := h
  obtain ⟨a, c, rfl, hl, -, hn⟩ := own_form ho
  refine ⟨a, c, he, hl, ?_, hb⟩
  rcases ho.2 with ⟨h1, h2⟩ | ⟨g, cap, cur, hv, hg, hh, hcap, -⟩
  · omega
  · cases hv; exact hcap
end Go.Proofs.YthdfccdkomfikabGreatDoor

namespace Go.Proofs.YthdfccdkomfikabGreatDoor
open Go.ChangeShapes Go.WideShapes Go.ChangeAt Go.RowKit Go.Maps Go.WideMaps
set_option linter.unusedVariables false
set_option linter.unusedSimpArgs false

/-- are two tokens, two lists the same? -/
def tkE (a b : Tk) : Bool := a.k == b.k && (a.f == b.f && a.t == b.t)
def lsE : List Tk → List Tk → Bool
  | [], [] => true
  | a :: x, b :: y => tkE a b && lsE x y
  | _, _ => false
theorem tkE_eq (a b : Tk) : tkE a b = true ↔ a = b := by
  cases a; cases b
  unfold tkE
  simp only [Bool.and_eq_true, beq_iff_eq, Tk.mk.injEq]
theorem lsE_eq : ∀ x y : List Tk, lsE x y = true ↔ x = y
  | [], [] => by simp [lsE]
  | [], b :: y => by simp [lsE]
  | a :: x, [] => by simp [lsE]
  | a :: x, b :: y => by
    rw [lsE, Bool.and_eq_true, tkE_eq, lsE_eq x y, List.cons.injEq]
theorem lsE_symm (x y : List Tk) : lsE x y = lsE y x := by
  cases h : lsE x y with
  | true => exact ((lsE_eq y x).2 ((lsE_eq x y).1 h).symm).symm
  | false =>
    cases h' : lsE y x with
    | true => rw [(lsE_eq x y).2 ((lsE_eq y x).1 h').symm] at h; cases h
    | false => rfl
theorem lsE_len {x y : List Tk} (h : x.length ≠ y.length) : lsE x y = false := by
  cases h' : lsE x y with
  | true => exact absurd (by rw [(lsE_eq x y).1 h']) h
  | false => rfl
theorem lsE_no {x y : List Tk} {i : Nat} {a b : Tk} (hx : x[i]? = some a) (hy : y[i]? = some b) (h : a ≠ b) : lsE x y = false := by
  cases h' : lsE x y with
  | true =>
    have := (lsE_eq x y).1 h'
    subst this
    rw [hx] at hy
    exact absurd (Option.some.inj hy) h
  | false => rfl
theorem lsE_all {x y : List Tk} (hl : x.length = y.length) (h : ∀ i, i < x.length → x[i]? = y[i]?) : lsE x y = true := by
  refine (lsE_eq x y).2 (List.ext_getElem? fun i => ?_)
  by_cases hi : i < x.length
  · exact h i hi
  · rw [List.getElem?_eq_none (by omega), List.getElem?_eq_none (by omega)]

set_option maxRecDepth 1000000 in
set_option maxHeartbeats 8000000 in
theorem equal_any (a1 a2 : Option Addr) (c1 c2 : Nat) (xs ys : List Tk) (w : World) (h1 : LiesA w a1 xs) (h2 : LiesA w a2 ys) (hl : xs.length ≤ 281474976710656) (hl2 : ys.length ≤ 281474976710656) :
    Calls Tryz.prog 27 #[.slice a1 xs.length c1, .slice a2 ys.length c2] w fun e w' => e = .returned (.bool (lsE xs ys)) ∧ Below w.heap.size w w' := by
  by_cases hlen : xs.length = ys.length
  · have hne : ((xs.length : Int) != (ys.length : Int)) = false := by rw [hlen]; simp
    have H1 : Hid (LiesA w a1 xs) := h1
    have H2 : Hid (LiesA w a2 ys) := h2
    have HL : Hid (xs.length = ys.length) := hlen
    obtain ⟨z, hz⟩ : ∃ z, lsE xs ys = z := ⟨_, rfl⟩
    have HZ : Hid (lsE xs ys = z) := hz
    rw [hz]
    clear h1 h2 hz
    obtain ⟨m, hm⟩ : ∃ m, ys.length = m := ⟨_, rfl⟩
    rw [hm] at hne hl2 ⊢
    have HM : Hid (ys.length = m) := hm
    clear hm hlen
    go_enter Tryz.func27, Tryz.ntmps27
    go_wp2
    go_loopw [13] (fun si wr => ∃ i : Nat, i ≤ xs.length ∧ si = .int .i64 (i : Int) ∧ (∀ j, j < i → xs[j]? = ys[j]?) ∧ Below w.heap.size w wr) (fun si _ => xs.length - (intOf si).toNat)
    case atStart => exact ⟨0, Nat.zero_le _, rfl, fun j hj => by omega, Below.refl _ _⟩
    case round =>
      obtain ⟨i, hi, rfl, hall, hbel⟩ := hrel
      have HA : Hid (∀ j, j < i → xs[j]? = ys[j]?) := hall
      have HB : Hid (Below w.heap.size w wr) := hbel
      clear hall hbel
      by_cases hlt : i < xs.length
      · have hlt' : (i : Int) < (xs.length : Int) := by omega
        have hm0 := HM.out
        have hl0 := HL.out
        have hlt2 : (i : Int) < (m : Int) := by omega
        obtain ⟨e, he⟩ : ∃ e, xs[i]? = some e := ⟨_, List.getElem?_eq_getElem hlt⟩
        obtain ⟨d, hd⟩ : ∃ d, ys[i]? = some d := ⟨_, List.getElem?_eq_getElem (by omega)⟩
        obtain ⟨g1, o1, rfl, l1⟩ : ∃ g o, a1 = some ⟨g, o, none⟩ ∧ Lies w g o xs := by
          rcases H1.out with h | ⟨g, o, q1, q2⟩
          · rw [h] at hlt; simp at hlt
          · exact ⟨g, o, q1, q2⟩
        obtain ⟨g2, o2, rfl, l2⟩ : ∃ g o, a2 = some ⟨g, o, none⟩ ∧ Lies w g o ys := by
          rcases H2.out with h | ⟨g, o, q1, q2⟩
          · rw [h] at hl0; rw [hl0] at hlt; simp at hlt
          · exact ⟨g, o, q1, q2⟩
        obtain ⟨x0, x1, x2⟩ := l1.tk HB.out he
        obtain ⟨y0, y1, y2⟩ := l2.tk HB.out hd
        have hg1 : g1 < wr.heap.size := by have := l1.1; have := HB.out.size; omega
        have hg2 : g2 < wr.heap.size := by have := l2.1; have := HB.out.size; omega
        obtain ⟨ek, ef, et⟩ := e
        obtain ⟨dk, df, dt⟩ := d
        simp only at x0 x1 x2 y0 y1 y2
        by_cases heq : ek = dk ∧ ef = df ∧ et = dt
        · obtain ⟨rfl, rfl, rfl⟩ := heq
          have HA2 : Hid (∀ j, j < i + 1 → xs[j]? = ys[j]?) := fun j hj => by
            by_cases h : j = i
            · subst h; rw [he, hd]
            · exact HA.out j (by omega)
          clear he hd hm0 hl0 l1 l2
          go_wp2
          go_quiet (fail)
          go_wp2
          go_roundw
          case rel => exact ⟨i + 1, by omega, by go_num, HA2.out, bel_drewN HB.out⟩
          case measure => simp [intOf]; omega
        · have hzf : Hid (false = z) := by
            unfold Hid
            rw [← HZ.out]
            exact (lsE_no he hd (fun e => heq ⟨congrArg Tk.k e, congrArg Tk.f e, congrArg Tk.t e⟩)).symm
          have hcs : (ek == dk) = false ∨ ((ek == dk) = true ∧ (ef == df) = false) ∨ ((ek == dk) = true ∧ (ef == df) = true ∧ (et == dt) = false) := by
            by_cases c1 : ek = dk
            · by_cases c2 : ef = df
              · right; right
                exact ⟨by rw [beq_iff_eq]; exact c1, by rw [beq_iff_eq]; exact c2, by rw [beq_eq_false_iff_ne]; exact fun h => heq ⟨c1, c2, h⟩⟩
              · right; left
                exact ⟨by rw [beq_iff_eq]; exact c1, by rw [beq_eq_false_iff_ne]; exact c2⟩
            · left; rw [beq_eq_false_iff_ne]; exact c1
          clear he hd hm0 hl0 l1 l2 heq
          rcases hcs with q1 | ⟨q1, q2⟩ | ⟨q1, q2, q3⟩
          all_goals
            go_wp2
            go_quiet (fail)
            go_wp2
            go_ret
            exact ⟨by rw [← hzf.out]; rfl, bel_drewN HB.out⟩
      · have hge : ¬ (i : Int) < (xs.length : Int) := by omega
        have hzt : Hid (true = z) := by
          unfold Hid
          rw [← HZ.out]
          exact (lsE_all HL.out (fun j hj => HA.out j (by omega))).symm
        go_wp2
        go_ret
        exact ⟨by rw [← hzt.out]; rfl, HB.out⟩
  · have hne : ((xs.length : Int) != (ys.length : Int)) = true := by rw [bne_iff_ne]; omega
    rw [lsE_len hlen]
    clear h1 h2 hlen
    go_enter Tryz.func27, Tryz.ntmps27
    go_wp2
    go_ret
    exact ⟨rfl, Below.refl _ _⟩

set_option maxRecDepth 1000000 in
set_option maxHeartbeats 8000000 in
theorem rSame_any (a1 a2 : Option Addr) (c1 c2 : Nat) (xs ys : List Tk) (w : World) (h1 : LiesA w a1 xs) (h2 : LiesA w a2 ys) (hl : xs.length ≤ 281474976710656) (hl2 : ys.length ≤ 281474976710656) :
    Calls Tryz.prog 29 #[.slice a1 xs.length c1, .slice a2 ys.length c2] w fun e w' => e = .returned (.bool (lsE xs ys)) ∧ Below w.heap.size w w' := by
  by_cases hlen : xs.length = ys.length
  · have hne : ((xs.length : Int) != (ys.length : Int)) = false := by rw [hlen]; simp
    have H1 : Hid (LiesA w a1 xs) := h1
    have H2 : Hid (LiesA w a2 ys) := h2
    have HL : Hid (xs.length = ys.length) := hlen
    obtain ⟨z, hz⟩ : ∃ z, lsE xs ys = z := ⟨_, rfl⟩
    have HZ : Hid (lsE xs ys = z) := hz
    rw [hz]
    clear h1 h2 hz
    obtain ⟨m, hm⟩ : ∃ m, ys.length = m := ⟨_, rfl⟩
    rw [hm] at hne hl2 ⊢
    have HM : Hid (ys.length = m) := hm
    clear hm hlen
    go_enter Tryz.func29, Tryz.ntmps29
    go_wp2
    go_loopw [13] (fun si wr => ∃ i : Nat, i ≤ xs.length ∧ si = .int .i64 (i : Int) ∧ (∀ j, j < i → xs[j]? = ys[j]?) ∧ Below w.heap.size w wr) (fun si _ => xs.length - (intOf si).toNat)
    case atStart => exact ⟨0, Nat.zero_le _, rfl, fun j hj => by omega, Below.refl _ _⟩
    case round =>
      obtain ⟨i, hi, rfl, hall, hbel⟩ := hrel
      have HA : Hid (∀ j, j < i → xs[j]? = ys[j]?) := hall
      have HB : Hid (Below w.heap.size w wr) := hbel
      clear hall hbel
      by_cases hlt : i < xs.length
      · have hlt' : (i : Int) < (xs.length : Int) := by omega
        have hm0 := HM.out
        have hl0 := HL.out
        have hlt2 : (i : Int) < (m : Int) := by omega
        obtain ⟨e, he⟩ : ∃ e, xs[i]? = some e := ⟨_, List.getElem?_eq_getElem hlt⟩
        obtain ⟨d, hd⟩ : ∃ d, ys[i]? = some d := ⟨_, List.getElem?_eq_getElem (by omega)⟩
        obtain ⟨g1, o1, rfl, l1⟩ : ∃ g o, a1 = some ⟨g, o, none⟩ ∧ Lies w g o xs := by
          rcases H1.out with h | ⟨g, o, q1, q2⟩
          · rw [h] at hlt; simp at hlt
          · exact ⟨g, o, q1, q2⟩
        obtain ⟨g2, o2, rfl, l2⟩ : ∃ g o, a2 = some ⟨g, o, none⟩ ∧ Lies w g o ys := by
          rcases H2.out with h | ⟨g, o, q1, q2⟩
          · rw [h] at hl0; rw [hl0] at hlt; simp at hlt
          · exact ⟨g, o, q1, q2⟩
        obtain ⟨x0, x1, x2⟩ := l1.tk HB.out he
        obtain ⟨y0, y1, y2⟩ := l2.tk HB.out hd
        have hg1 : g1 < wr.heap.size := by have := l1.1; have := HB.out.size; omega
        have hg2 : g2 < wr.heap.size := by have := l2.1; have := HB.out.size; omega
        obtain ⟨ek, ef, et⟩ := e
        obtain ⟨dk, df, dt⟩ := d
        simp only at x0 x1 x2 y0 y1 y2
        by_cases heq : ek = dk ∧ ef = df ∧ et = dt
        · obtain ⟨rfl, rfl, rfl⟩ := heq
          have HA2 : Hid (∀ j, j < i + 1 → xs[j]? = ys[j]?) := fun j hj => by
            by_cases h : j = i
            · subst h; rw [he, hd]
            · exact HA.out j (by omega)
          clear he hd hm0 hl0 l1 l2
          go_wp2
          go_quiet (fail)
          go_wp2
          go_roundw
          case rel => exact ⟨i + 1, by omega, by go_num, HA2.out, bel_drewN HB.out⟩
          case measure => simp [intOf]; omega
        · have hzf : Hid (false = z) := by
            unfold Hid
            rw [← HZ.out]
            exact (lsE_no he hd (fun e => heq ⟨congrArg Tk.k e, congrArg Tk.f e, congrArg Tk.t e⟩)).symm
          have hcs : (ek == dk) = false ∨ ((ek == dk) = true ∧ (ef == df) = false) ∨ ((ek == dk) = true ∧ (ef == df) = true ∧ (et == dt) = false) := by
            by_cases c1 : ek = dk
            · by_cases c2 : ef = df
              · right; right
                exact ⟨by rw [beq_iff_eq]; exact c1, by rw [beq_iff_eq]; exact c2, by rw [beq_eq_false_iff_ne]; exact fun h => heq ⟨c1, c2, h⟩⟩
              · right; left
                exact ⟨by rw [beq_iff_eq]; exact c1, by rw [beq_eq_false_iff_ne]; exact c2⟩
            · left; rw [beq_eq_false_iff_ne]; exact c1
          clear he hd hm0 hl0 l1 l2 heq
          rcases hcs with q1 | ⟨q1, q2⟩ | ⟨q1, q2, q3⟩
          all_goals
            go_wp2
            go_quiet (fail)
            go_wp2
            go_ret
            exact ⟨by rw [← hzf.out]; rfl, bel_drewN HB.out⟩
      · have hge : ¬ (i : Int) < (xs.length : Int) := by omega
        have hzt : Hid (true = z) := by
          unfold Hid
          rw [← HZ.out]
          exact (lsE_all HL.out (fun j hj => HA.out j (by omega))).symm
        go_wp2
        go_ret
        exact ⟨by rw [← hzt.out]; rfl, HB.out⟩
  · have hne : ((xs.length : Int) != (ys.length : Int)) = true := by rw [bne_iff_ne]; omega
    rw [lsE_len hlen]
    clear h1 h2 hlen
    go_enter Tryz.func29, Tryz.ntmps29
    go_wp2
    go_ret
    exact ⟨rfl, Below.refl _ _⟩
end Go.Proofs.YthdfccdkomfikabGreatDoor

namespace Go.Proofs.YthdfccdkomfikabGreatDoor
open Go.ChangeShapes Go.WideShapes Go.ChangeAt Go.RowKit Go.Maps Go.WideMaps
set_option linter.unusedVariables false
set_option linter.unusedSimpArgs false

theorem infoTk : (Tryz.prog.info? 43).map (fun i => (i.zero, i.size, i.bytes)) = some (some (.agg #[.int .u8 0, .int .i64 0, .int .i64 0]), 3, 24) := by kernel_rfl
theorem liesA_news {w : World} {a : Option Addr} {xs : List Tk} (h : LiesA w a xs) : ∀ ad, a = some ad → ∀ j u, (flat xs)[j]? = some u → w.cell? (ad.add j) = some u := by
  intro ad had j u hj
  rcases h with rfl | ⟨b, o, rfl, hl⟩
  · simp [flat] at hj
  · cases had
    exact hl.flat j u hj
/-- is a list a text's own? -/
def sdB (s : ByteArray) (xs : List Tk) : Bool := match (cut s 0).2 with
  | none => lsE (wau s (cut s 0).1) xs
  | some _ => false
set_option maxRecDepth 1000000 in
set_option maxHeartbeats 8000000 in
theorem Sound_any (s : ByteArray) (a : Option Addr) (c : Nat) (xs : List Tk) (hs : s.size ≤ 4294967280) (hx : xs.length ≤ 281474976710656) (w : World) (h : LiesA w a xs) (hS : Spl w) (hT : Lt w) (hM : MaxL w) :
    Calls Tryz.prog 12 #[.string s, .slice a xs.length c] w fun e w' => e = .returned (.bool (sdB s xs)) ∧ Below w.heap.size w w' := by
  unfold sdB
  cases hC : (cut s 0).2 with
  | some yz =>
    obtain ⟨y, z⟩ := yz
    obtain ⟨-, -, hy1, hy2, -⟩ := cut_first s s.size 0 y z (by omega) hC
    have HS1 : Hid (Calls Tryz.prog 26 #[.string s] w fun e w' => e = .returned (.tuple #[.slice none 0 0, .agg #[.int .i64 (y : Int), .int .i64 0, .int .i64 (z : Int)]]) ∧ Below w.heap.size w w') := scan_no hs hC w hS hT hM
    have hy : ((y : Int) == 0) = false := by rw [beq_eq_false_iff_ne]; omega
    clear hC hS hT hM h
    go_enter Tryz.func12, Tryz.ntmps12
    go_wp2_with (go_at_call 26; (with_reducible refine HS1.out.mono ?_); rintro e w3 ⟨rfl, hb3⟩; have HB3 : Hid (Below w.heap.size w w3) := hb3; clear hb3)
    go_ret
    exact ⟨rfl, HB3.out.alloc HB3.out.size _⟩
  | none =>
    have hmx := wau_max hs
    obtain ⟨L, hL⟩ : ∃ L, wau s (cut s 0).1 = L := ⟨_, rfl⟩
    have HS1 : Hid (Calls Tryz.prog 26 #[.string s] w fun e w' => ∃ a c, e = .returned (.tuple #[.slice a L.length c, .agg #[.int .i64 0, .int .i64 0, .int .i64 0]]) ∧ LiesA w' a L ∧ L.length ≤ c ∧ (a = none → c = 0) ∧ Below w.heap.size w w') := by rw [← hL]; exact scan_ok hs hC w hS hT hM
    rw [hL] at hmx ⊢
    have HH : Hid (LiesA w a xs) := h
    have HE : Hid (∀ a1 c1 a2 c2 v, LiesA v a1 L → LiesA v a2 xs → Calls Tryz.prog 27 #[.slice a1 L.length c1, .slice a2 xs.length c2] v fun e w' => e = .returned (.bool (lsE L xs)) ∧ Below v.heap.size v w') := fun a1 c1 a2 c2 v h1 h2 => equal_any a1 a2 c1 c2 L xs v h1 h2 (by omega) hx
    obtain ⟨z, hz⟩ : ∃ z, lsE L xs = z := ⟨_, rfl⟩
    simp only
    rw [hz] at HE ⊢
    clear hC hS hT hM h hL hz
    go_enter Tryz.func12, Tryz.ntmps12
    go_wp2_with (first
      | (go_at_call 26; (with_reducible refine HS1.out.mono ?_); rintro e w3 ⟨a3, c3, rfl, hl3, hc3, hn3, hb3⟩; have HB3 : Hid (Below w.heap.size w w3) := hb3; have HL3 : Hid (LiesA w3 a3 L) := hl3; have HX3 : Hid (LiesA w3 a xs) := HH.out.below hb3; clear hb3 hl3 hn3)
      | (go_at_call 27; (with_reducible refine (HE.out a3 c3 a c _ (HL3.out.below ((Below.refl _ _).alloc (Nat.le_refl _) _)) (HX3.out.below ((Below.refl _ _).alloc (Nat.le_refl _) _))).mono ?_); rintro e w4 ⟨rfl, hb4⟩; have HB4 : Hid (Below w.heap.size w w4) := (HB3.out.alloc HB3.out.size _).trans (hb4.mono (by have := HB3.out.size; simp; omega)); clear hb4))
    go_ret
    exact ⟨rfl, HB4.out⟩
set_option maxRecDepth 1000000 in
set_option maxHeartbeats 8000000 in
theorem rSound_any (s : ByteArray) (a : Option Addr) (c : Nat) (xs : List Tk) (hs : s.size ≤ 4294967280) (hx : xs.length ≤ 281474976710656) (w : World) (h : LiesA w a xs) (hT : Lt w) :
    Calls Tryz.prog 13 #[.string s, .slice a xs.length c] w fun e w' => e = .returned (.bool (sdB s xs)) ∧ Below w.heap.size w w' := by
  unfold sdB
  cases hC : (cut s 0).2 with
  | some yz =>
    obtain ⟨y, z⟩ := yz
    obtain ⟨-, -, hy1, hy2, -⟩ := cut_first s s.size 0 y z (by omega) hC
    have HS1 : Hid (Calls Tryz.prog 28 #[.string s] w fun e w' => e = .returned (.tuple #[.slice none 0 0, .int .i64 (y : Int), .int .i64 (z : Int)]) ∧ Below w.heap.size w w') := rscan_no hs hC w hT
    have hy : ((y : Int) == 0) = false := by rw [beq_eq_false_iff_ne]; omega
    clear hC hT h
    go_enter Tryz.func13, Tryz.ntmps13
    go_wp2_with (go_at_call 28; (with_reducible refine HS1.out.mono ?_); rintro e w3 ⟨rfl, hb3⟩; have HB3 : Hid (Below w.heap.size w w3) := hb3; clear hb3)
    go_ret
    exact ⟨rfl, HB3.out⟩
  | none =>
    have hmx := wau_max hs
    obtain ⟨L, hL⟩ : ∃ L, wau s (cut s 0).1 = L := ⟨_, rfl⟩
    have HS1 : Hid (Calls Tryz.prog 28 #[.string s] w fun e w' => ∃ a c, e = .returned (.tuple #[.slice a L.length c, .int .i64 0, .int .i64 0]) ∧ LiesA w' a L ∧ L.length ≤ c ∧ Below w.heap.size w w') := by rw [← hL]; exact rscan_ok hs hC w hT
    rw [hL] at hmx ⊢
    have HH : Hid (LiesA w a xs) := h
    have HE : Hid (∀ a1 c1 a2 c2 v, LiesA v a1 xs → LiesA v a2 L → Calls Tryz.prog 29 #[.slice a1 xs.length c1, .slice a2 L.length c2] v fun e w' => e = .returned (.bool (lsE xs L)) ∧ Below v.heap.size v w') := fun a1 c1 a2 c2 v h1 h2 => rSame_any a1 a2 c1 c2 xs L v h1 h2 hx (by omega)
    simp only
    rw [lsE_symm L xs]
    obtain ⟨z, hz⟩ : ∃ z, lsE xs L = z := ⟨_, rfl⟩
    rw [hz] at HE ⊢
    clear hC hT h hL hz
    go_enter Tryz.func13, Tryz.ntmps13
    go_wp2_with (first
      | (go_at_call 28; (with_reducible refine HS1.out.mono ?_); rintro e w3 ⟨a3, c3, rfl, hl3, hc3, hb3⟩; have HB3 : Hid (Below w.heap.size w w3) := hb3; have HL3 : Hid (LiesA w3 a3 L) := hl3; have HX3 : Hid (LiesA w3 a xs) := HH.out.below hb3; clear hb3 hl3)
      | (go_at_call 29; (with_reducible refine (HE.out a c a3 c3 _ HX3.out HL3.out).mono ?_); rintro e w4 ⟨rfl, hb4⟩; have HB4 : Hid (Below w.heap.size w w4) := HB3.out.trans (hb4.mono HB3.out.size); clear hb4))
    go_ret
    exact ⟨rfl, HB4.out⟩
set_option maxRecDepth 1000000 in
set_option maxHeartbeats 4000000 in
theorem copyTokens_any (a : Option Addr) (c : Nat) (xs : List Tk) (w : World) (h : LiesA w a xs) (hn : a = none → xs.length = 0 ∧ c = 0) (hl : xs.length ≤ 4398046510976) :
    Calls Tryz.prog 15 #[.slice a xs.length c] w fun e w' => ∃ u, e = .returned u ∧ w'.ownsRow w.heap.size 43 3 u xs.length (flat xs) ∧ Below w.heap.size w w' := by
  obtain ⟨i0, hi0, hz0, hz1, hz2⟩ := info_parts infoTk
  have HN : Hid (a = none → xs.length = 0 ∧ c = 0) := hn
  have HW : Hid (LiesA (w.alloc (.cells #[] 43)) a xs) := h.below ((Below.refl _ w).alloc (Nat.le_refl _) _)
  have HL : Hid ((flat xs).length = xs.length * 3) := flat_length xs
  have H1 : Hid (∀ u ∈ flat xs, u.oneCell' = true) := flat_oneCell xs
  have HL0 : Hid ((w.alloc (.cells #[] 43)).ownsRow w.heap.size 43 3 (.slice (some ⟨w.heap.size, 0, none⟩) 0 0) 0 []) := World.ownsRow_lit w #[] 0 (Nat.le_refl _) (by unfold maxLen; omega) rfl
  clear h hn
  go_enter Tryz.func15, Tryz.ntmps15
  go_wp2_with (at_builtin; ((refine wpList_append_at _ rfl _ _ 32 rfl w.heap.size 43 i0 (.agg #[.int .u8 0, .int .i64 0, .int .i64 0]) 3 24 Tryz.underlying32 hi0 hz0 hz1 hz2 rfl (by decide) _ 0 [] rfl HL0.out a xs.length c (flat xs) rfl HL.out HN.out (liesA_news HW.out) H1.out (by unfold maxLen; omega) (by omega) (by simp) ?_); intro v1 w1 hown1 hgrow1 _; have HB1 : Hid (Below w.heap.size w w1) := ((Below.refl _ w).alloc (Nat.le_refl _) _).grown hgrow1 (by simp) (fun g h => (HL0.out.lt g h).1); have HO1 : Hid (w1.ownsRow w.heap.size 43 3 v1 xs.length (flat xs)) := (by unfold Hid; rw [Nat.zero_add, List.nil_append] at hown1; exact hown1); clear hown1 hgrow1))
  go_ret
  exact ⟨_, rfl, HO1.out, HB1.out⟩
/-- three marks -/
def mk3 : List Tk := [⟨0, -1, 0⟩, ⟨0, -2, 0⟩, ⟨0, -3, 0⟩]
set_option maxRecDepth 1000000 in
set_option maxHeartbeats 4000000 in
theorem roomy_any (a : Option Addr) (c : Nat) (xs : List Tk) (w : World) (h : LiesA w a xs) (hn : a = none → xs.length = 0 ∧ c = 0) (hl : xs.length ≤ 1048576) :
    Calls Tryz.prog 11 #[.slice a xs.length c] w fun e w' => ∃ g c', e = .returned (.tuple #[.slice (some ⟨g, 0, none⟩) xs.length c', .slice (some ⟨g, 0, none⟩) (xs.length + 3) c']) ∧ xs.length + 3 ≤ c' ∧ w'.ownsRow w.heap.size 43 3 (.slice (some ⟨g, 0, none⟩) (xs.length + 3) c') (xs.length + 3) (flat (xs ++ mk3)) ∧ Below w.heap.size w w' := by
  obtain ⟨i0, hi0, hz0, hz1, hz2⟩ := info_parts infoTk
  have HCP : Hid (Calls Tryz.prog 15 #[.slice a xs.length c] w fun e w' => ∃ u, e = .returned u ∧ w'.ownsRow w.heap.size 43 3 u xs.length (flat xs) ∧ Below w.heap.size w w') := copyTokens_any a c xs w h hn (by omega)
  have HF : Hid (flat mk3 = [.int .u8 0, .int .i64 (-1), .int .i64 0, .int .u8 0, .int .i64 (-2), .int .i64 0, .int .u8 0, .int .i64 (-3), .int .i64 0]) := rfl
  have H3 : Hid (∀ u ∈ ([.int .u8 0, .int .i64 (-1), .int .i64 0, .int .u8 0, .int .i64 (-2), .int .i64 0, .int .u8 0, .int .i64 (-3), .int .i64 0] : List Value), u.oneCell' = true) := by unfold Hid; rw [← HF.out]; exact flat_oneCell mk3
  clear h hn
  go_enter Tryz.func11, Tryz.ntmps11
  go_wp2_with (first
    | (go_at_call 15; (with_reducible refine HCP.out.mono ?_); rintro e w3 ⟨u3, rfl, ho3, hb3⟩; have HB3 : Hid (Below w.heap.size w w3) := hb3; have HO3 : Hid (w3.ownsRow w.heap.size 43 3 u3 xs.length (flat xs)) := ho3; clear hb3 ho3)
    | (at_builtin; (refine wpList_append_at _ rfl (.tmp 6) (.tmp 10) 32 rfl w.heap.size 43 i0 (.agg #[.int .u8 0, .int .i64 0, .int .i64 0]) 3 24 Tryz.underlying32 hi0 hz0 hz1 hz2 rfl (by decide) _ xs.length (flat xs) rfl (HO3.out.alloc _) (some ⟨_, 0, none⟩) 3 3 [.int .u8 0, .int .i64 (-1), .int .i64 0, .int .u8 0, .int .i64 (-2), .int .i64 0, .int .u8 0, .int .i64 (-3), .int .i64 0] rfl rfl (fun h => by cases h) (fun ad had => by cases had; exact cells_new _ _ _) H3.out (by unfold maxLen; omega) (by omega) (by have := HB3.out.size; simp; omega) ?_); intro v9 w9 ho9 hg9 _; have HB9 : Hid (Below w.heap.size w w9) := (HB3.out.alloc HB3.out.size _).grown hg9 (by have := HB3.out.size; simp; omega) (fun j hj => (HO3.out.lt j hj).1); have HO9 : Hid (w9.ownsRow w.heap.size 43 3 v9 (xs.length + 3) (flat (xs ++ mk3))) := (by unfold Hid; rw [flat_append, HF.out]; exact ho9); obtain ⟨g9, c9, hv9, hc9, hg9'⟩ := own_cap HO9.out (by omega); subst hv9; have hc9' : (xs.length : Int) ≤ (c9 : Int) := (by omega); clear ho9 hg9))
  go_ret2
  exact ⟨g9, c9, rfl, hc9, HO9.out, HB9.out⟩
set_option maxRecDepth 1000000 in
set_option maxHeartbeats 4000000 in
theorem untouched_any (g c : Nat) (a : Option Addr) (c2 : Nat) (xs : List Tk) (w : World) (h1 : Lies w g 0 (xs ++ mk3)) (hc : xs.length + 3 ≤ c) (h2 : LiesA w a xs) (hl : xs.length ≤ 1048576) :
    Calls Tryz.prog 14 #[.slice (some ⟨g, 0, none⟩) (xs.length + 3) c, .slice a xs.length c2] w fun e w' => e = .returned (.bool true) ∧ Below w.heap.size w w' := by
  have HSM : Hid (Calls Tryz.prog 30 #[.slice (some ⟨g, 0, none⟩) xs.length c, .slice a xs.length c2] w fun e w' => e = .returned (.bool true) ∧ Below w.heap.size w w') := same_tokens (some ⟨g, 0, none⟩) a c c2 xs w (.inr ⟨g, 0, rfl, h1.pre⟩) h2 (by unfold maxLen; omega)
  have HC : Hid (∀ v, Below w.heap.size w v → v.cell? ⟨g, xs.length * 3 + 1, none⟩ = some (.int .i64 (-1)) ∧ v.cell? ⟨g, (xs.length + 1) * 3 + 1, none⟩ = some (.int .i64 (-2)) ∧ v.cell? ⟨g, (xs.length + 2) * 3 + 1, none⟩ = some (.int .i64 (-3))) := fun v hv => by
    have e0 := (h1.tk hv (i := xs.length) (e := ⟨0, -1, 0⟩) (by rw [List.getElem?_append_right (Nat.le_refl _), Nat.sub_self]; rfl)).2.1
    have e1 := (h1.tk hv (i := xs.length + 1) (e := ⟨0, -2, 0⟩) (by rw [List.getElem?_append_right (by omega), Nat.add_sub_cancel_left]; rfl)).2.1
    have e2 := (h1.tk hv (i := xs.length + 2) (e := ⟨0, -3, 0⟩) (by rw [List.getElem?_append_right (by omega), Nat.add_sub_cancel_left]; rfl)).2.1
    simp only [Nat.zero_add] at e0 e1 e2
    exact ⟨e0, e1, e2⟩
  have hgl : g < w.heap.size := h1.1
  have hnc : (xs.length : Int) ≤ (c : Int) := by omega
  have hn3 : (xs.length : Int) < (xs.length : Int) + 3 := by omega
  clear h1 h2
  go_enter Tryz.func14, Tryz.ntmps14
  go_wp2_with (go_at_call 30; (with_reducible refine HSM.out.mono ?_); rintro e w3 ⟨rfl, hb3⟩; obtain ⟨d0, d1, d2⟩ := HC.out w3 hb3; have hg3 : g < w3.heap.size := Nat.lt_of_lt_of_le hgl hb3.size; have HB3 : Hid (Below w.heap.size w w3) := hb3; clear hb3)
  go_ret
  exact ⟨rfl, HB3.out⟩
end Go.Proofs.YthdfccdkomfikabGreatDoor
