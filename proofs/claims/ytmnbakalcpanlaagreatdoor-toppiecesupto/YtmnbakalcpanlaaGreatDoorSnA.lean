import Derived.Test.YtmnbakalcpanlaaGreatDoorRs2
import Derived.Test.YtmnbakalcpanlaaGreatDoorLc2
import Derived.BigQuiet
namespace Go.Proofs.YtmnbakalcpanlaaGreatDoor
open Go.ChangeShapes Go.WideShapes Go.ChangeAt Go.RowKit Go.Maps Go.WideMaps
set_option linter.unusedVariables false
set_option linter.unusedSimpArgs false

theorem bel_drewA {B n : Nat} {a w : World} (h : Below B a w) : Below B a (w.drewN n) := ⟨h.os, h.tape, h.output, h.size, h.block⟩
/-- are two tokens, two lists the same? -/
def tkE (a b : Tk) : Bool := a.k == b.k && (a.f == b.f && a.t == b.t)
def lsE : List Tk → List Tk → Bool
  | [], [] => true
  | a :: x, b :: y => tkE a b && lsE x y
  | _, _ => false
theorem tkE_eq (a b : Tk) : tkE a b = true ↔ a = b := by
  cases a; cases b
  unfold tkE
  simp only [Bool.and_eq_true, beq_iff_eq, Tk.mk.injEq]
theorem lsE_eq : ∀ x y : List Tk, lsE x y = true ↔ x = y
  | [], [] => by simp [lsE]
  | [], b :: y => by simp [lsE]
  | a :: x, [] => by simp [lsE]
  | a :: x, b :: y => by
    rw [lsE, Bool.and_eq_true, tkE_eq, lsE_eq x y, List.cons.injEq]
theorem lsE_symm (x y : List Tk) : lsE x y = lsE y x := by
  cases h : lsE x y with
  | true => exact ((lsE_eq y x).2 ((lsE_eq x y).1 h).symm).symm
  | false =>
    cases h' : lsE y x with
    | true => rw [(lsE_eq x y).2 ((lsE_eq y x).1 h').symm] at h; cases h
    | false => rfl
theorem lsE_len {x y : List Tk} (h : x.length ≠ y.length) : lsE x y = false := by
  cases h' : lsE x y with
  | true => exact absurd (by rw [(lsE_eq x y).1 h']) h
  | false => rfl
theorem lsE_no {x y : List Tk} {i : Nat} {a b : Tk} (hx : x[i]? = some a) (hy : y[i]? = some b) (h : a ≠ b) : lsE x y = false := by
  cases h' : lsE x y with
  | true =>
    have := (lsE_eq x y).1 h'
    subst this
    rw [hx] at hy
    exact absurd (Option.some.inj hy) h
  | false => rfl
theorem lsE_all {x y : List Tk} (hl : x.length = y.length) (h : ∀ i, i < x.length → x[i]? = y[i]?) : lsE x y = true := by
  refine (lsE_eq x y).2 (List.ext_getElem? fun i => ?_)
  by_cases hi : i < x.length
  · exact h i hi
  · rw [List.getElem?_eq_none (by omega), List.getElem?_eq_none (by omega)]

set_option maxRecDepth 1000000 in
set_option maxHeartbeats 8000000 in
theorem equal_any (a1 a2 : Option Addr) (c1 c2 : Nat) (xs ys : List Tk) (w : World) (h1 : LiesA w a1 xs) (h2 : LiesA w a2 ys) (hl : xs.length ≤ 281474976710656) (hl2 : ys.length ≤ 281474976710656) :
    Calls Tryz.prog 44 #[.slice a1 xs.length c1, .slice a2 ys.length c2] w fun e w' => e = .returned (.bool (lsE xs ys)) ∧ Below w.heap.size w w' := by
  by_cases hlen : xs.length = ys.length
  · have hne : ((xs.length : Int) != (ys.length : Int)) = false := by rw [hlen]; simp
    have H1 : Hid (LiesA w a1 xs) := h1
    have H2 : Hid (LiesA w a2 ys) := h2
    have HL : Hid (xs.length = ys.length) := hlen
    obtain ⟨z, hz⟩ : ∃ z, lsE xs ys = z := ⟨_, rfl⟩
    have HZ : Hid (lsE xs ys = z) := hz
    rw [hz]
    clear h1 h2 hz
    obtain ⟨m, hm⟩ : ∃ m, ys.length = m := ⟨_, rfl⟩
    rw [hm] at hne hl2 ⊢
    have HM : Hid (ys.length = m) := hm
    clear hm hlen
    go_enter Tryz.func44, Tryz.ntmps44
    go_wp2
    go_loopw [13] (fun si wr => ∃ i : Nat, i ≤ xs.length ∧ si = .int .i64 (i : Int) ∧ (∀ j, j < i → xs[j]? = ys[j]?) ∧ Below w.heap.size w wr) (fun si _ => xs.length - (intOf si).toNat)
    case atStart => exact ⟨0, Nat.zero_le _, rfl, fun j hj => by omega, Below.refl _ _⟩
    case round =>
      obtain ⟨i, hi, rfl, hall, hbel⟩ := hrel
      have HA : Hid (∀ j, j < i → xs[j]? = ys[j]?) := hall
      have HB : Hid (Below w.heap.size w wr) := hbel
      clear hall hbel
      by_cases hlt : i < xs.length
      · have hlt' : (i : Int) < (xs.length : Int) := by omega
        have hm0 := HM.out
        have hl0 := HL.out
        have hlt2 : (i : Int) < (m : Int) := by omega
        obtain ⟨e, he⟩ : ∃ e, xs[i]? = some e := ⟨_, List.getElem?_eq_getElem hlt⟩
        obtain ⟨d, hd⟩ : ∃ d, ys[i]? = some d := ⟨_, List.getElem?_eq_getElem (by omega)⟩
        obtain ⟨g1, o1, rfl, l1⟩ : ∃ g o, a1 = some ⟨g, o, none⟩ ∧ Lies w g o xs := by
          rcases H1.out with h | ⟨g, o, q1, q2⟩
          · rw [h] at hlt; simp at hlt
          · exact ⟨g, o, q1, q2⟩
        obtain ⟨g2, o2, rfl, l2⟩ : ∃ g o, a2 = some ⟨g, o, none⟩ ∧ Lies w g o ys := by
          rcases H2.out with h | ⟨g, o, q1, q2⟩
          · rw [h] at hl0; rw [hl0] at hlt; simp at hlt
          · exact ⟨g, o, q1, q2⟩
        obtain ⟨x0, x1, x2⟩ := l1.tk HB.out he
        obtain ⟨y0, y1, y2⟩ := l2.tk HB.out hd
        have hg1 : g1 < wr.heap.size := by have := l1.1; have := HB.out.size; omega
        have hg2 : g2 < wr.heap.size := by have := l2.1; have := HB.out.size; omega
        obtain ⟨ek, ef, et⟩ := e
        obtain ⟨dk, df, dt⟩ := d
        simp only at x0 x1 x2 y0 y1 y2
        by_cases heq : ek = dk ∧ ef = df ∧ et = dt
        · obtain ⟨rfl, rfl, rfl⟩ := heq
          have HA2 : Hid (∀ j, j < i + 1 → xs[j]? = ys[j]?) := fun j hj => by
            by_cases h : j = i
            · subst h; rw [he, hd]
            · exact HA.out j (by omega)
          clear he hd hm0 hl0 l1 l2
          go_wp2
          go_quiet (fail)
          go_wp2
          go_roundw
          case rel => exact ⟨i + 1, by omega, by go_num, HA2.out, bel_drewA HB.out⟩
          case measure => simp [intOf]; omega
        · have hzf : Hid (false = z) := by
            unfold Hid
            rw [← HZ.out]
            exact (lsE_no he hd (fun e => heq ⟨congrArg Tk.k e, congrArg Tk.f e, congrArg Tk.t e⟩)).symm
          have hcs : (ek == dk) = false ∨ ((ek == dk) = true ∧ (ef == df) = false) ∨ ((ek == dk) = true ∧ (ef == df) = true ∧ (et == dt) = false) := by
            by_cases c1 : ek = dk
            · by_cases c2 : ef = df
              · right; right
                exact ⟨by rw [beq_iff_eq]; exact c1, by rw [beq_iff_eq]; exact c2, by rw [beq_eq_false_iff_ne]; exact fun h => heq ⟨c1, c2, h⟩⟩
              · right; left
                exact ⟨by rw [beq_iff_eq]; exact c1, by rw [beq_eq_false_iff_ne]; exact c2⟩
            · left; rw [beq_eq_false_iff_ne]; exact c1
          clear he hd hm0 hl0 l1 l2 heq
          rcases hcs with q1 | ⟨q1, q2⟩ | ⟨q1, q2, q3⟩
          all_goals
            go_wp2
            go_quiet (fail)
            go_wp2
            go_ret
            exact ⟨by rw [← hzf.out]; rfl, bel_drewA HB.out⟩
      · have hge : ¬ (i : Int) < (xs.length : Int) := by omega
        have hzt : Hid (true = z) := by
          unfold Hid
          rw [← HZ.out]
          exact (lsE_all HL.out (fun j hj => HA.out j (by omega))).symm
        go_wp2
        go_ret
        exact ⟨by rw [← hzt.out]; rfl, HB.out⟩
  · have hne : ((xs.length : Int) != (ys.length : Int)) = true := by rw [bne_iff_ne]; omega
    rw [lsE_len hlen]
    clear h1 h2 hlen
    go_enter Tryz.func44, Tryz.ntmps44
    go_wp2
    go_ret
    exact ⟨rfl, Below.refl _ _⟩

theorem infoTk : (Tryz.prog.info? 50).map (fun i => (i.zero, i.size, i.bytes)) = some (some (.agg #[.int .u8 0, .int .i64 0, .int .i64 0]), 3, 24) := by kernel_rfl
theorem liesA_news {w : World} {a : Option Addr} {xs : List Tk} (h : LiesA w a xs) : ∀ ad, a = some ad → ∀ j u, (flat xs)[j]? = some u → w.cell? (ad.add j) = some u := by
  intro ad had j u hj
  rcases h with rfl | ⟨b, o, rfl, hl⟩
  · simp [flat] at hj
  · cases had
    exact hl.flat j u hj
/-- is a list a text's own? -/
def sdB (s : ByteArray) (xs : List Tk) : Bool := match (cut s 0).2 with
  | none => lsE (wau s (cut s 0).1) xs
  | some _ => false
set_option maxRecDepth 1000000 in
set_option maxHeartbeats 8000000 in
theorem Sound_any (s : ByteArray) (a : Option Addr) (c : Nat) (xs : List Tk) (hs : s.size ≤ 4294967280) (hx : xs.length ≤ 281474976710656) (w : World) (h : LiesA w a xs) (hS : Spl w) (hT : Lt w) (hM : MaxL w) :
    Calls Tryz.prog 21 #[.string s, .slice a xs.length c] w fun e w' => e = .returned (.bool (sdB s xs)) ∧ Below w.heap.size w w' := by
  unfold sdB
  cases hC : (cut s 0).2 with
  | some yz =>
    obtain ⟨y, z⟩ := yz
    obtain ⟨-, -, hy1, hy2, -⟩ := cut_first s s.size 0 y z (by omega) hC
    have HS1 : Hid (Calls Tryz.prog 4 #[.string s] w fun e w' => e = .returned (.tuple #[.slice none 0 0, .agg #[.int .i64 (y : Int), .int .i64 0, .int .i64 (z : Int)]]) ∧ Below w.heap.size w w') := scan_no hs hC w hS hT hM
    have hy : ((y : Int) == 0) = false := by rw [beq_eq_false_iff_ne]; omega
    clear hC hS hT hM h
    go_enter Tryz.func21, Tryz.ntmps21
    go_wp2_with (go_at_call 4; (with_reducible refine HS1.out.mono ?_); rintro e w3 ⟨rfl, hb3⟩; have HB3 : Hid (Below w.heap.size w w3) := hb3; clear hb3)
    go_ret
    exact ⟨rfl, HB3.out.alloc HB3.out.size _⟩
  | none =>
    have hmx := wau_max hs
    obtain ⟨L, hL⟩ : ∃ L, wau s (cut s 0).1 = L := ⟨_, rfl⟩
    have HS1 : Hid (Calls Tryz.prog 4 #[.string s] w fun e w' => ∃ a c, e = .returned (.tuple #[.slice a L.length c, .agg #[.int .i64 0, .int .i64 0, .int .i64 0]]) ∧ LiesA w' a L ∧ L.length ≤ c ∧ (a = none → c = 0) ∧ Below w.heap.size w w') := by rw [← hL]; exact scan_ok hs hC w hS hT hM
    rw [hL] at hmx ⊢
    have HH : Hid (LiesA w a xs) := h
    have HE : Hid (∀ a1 c1 a2 c2 v, LiesA v a1 L → LiesA v a2 xs → Calls Tryz.prog 44 #[.slice a1 L.length c1, .slice a2 xs.length c2] v fun e w' => e = .returned (.bool (lsE L xs)) ∧ Below v.heap.size v w') := fun a1 c1 a2 c2 v h1 h2 => equal_any a1 a2 c1 c2 L xs v h1 h2 (by omega) hx
    obtain ⟨z, hz⟩ : ∃ z, lsE L xs = z := ⟨_, rfl⟩
    simp only
    rw [hz] at HE ⊢
    clear hC hS hT hM h hL hz
    go_enter Tryz.func21, Tryz.ntmps21
    go_wp2_with (first
      | (go_at_call 4; (with_reducible refine HS1.out.mono ?_); rintro e w3 ⟨a3, c3, rfl, hl3, hc3, hn3, hb3⟩; have HB3 : Hid (Below w.heap.size w w3) := hb3; have HL3 : Hid (LiesA w3 a3 L) := hl3; have HX3 : Hid (LiesA w3 a xs) := HH.out.below hb3; clear hb3 hl3 hn3)
      | (go_at_call 44; (with_reducible refine (HE.out a3 c3 a c _ (HL3.out.below ((Below.refl _ _).alloc (Nat.le_refl _) _)) (HX3.out.below ((Below.refl _ _).alloc (Nat.le_refl _) _))).mono ?_); rintro e w4 ⟨rfl, hb4⟩; have HB4 : Hid (Below w.heap.size w w4) := (HB3.out.alloc HB3.out.size _).trans (hb4.mono (by have := HB3.out.size; simp; omega)); clear hb4))
    go_ret
    exact ⟨rfl, HB4.out⟩
end Go.Proofs.YtmnbakalcpanlaaGreatDoor
