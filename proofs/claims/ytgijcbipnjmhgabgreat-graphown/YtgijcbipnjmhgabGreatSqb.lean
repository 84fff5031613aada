import Derived.Test.YtgijcbipnjmhgabGreatSrc
import Derived.Lib.SliceRun
import Derived.Test.YtgijcbipnjmhgabGreatSq9
namespace Go.Proofs.YtgijcbipnjmhgabGreat
open Go.ChangeShapes Go.WideShapes Go.ChangeAt Go.RowKit
set_option linter.unusedVariables false
set_option linter.unusedSimpArgs false

theorem insert_nil (w : World) : Calls Tryz.prog 91 #[.slice none 0 0, .int .i64 0, .int .i64 0] w fun e w' => (∃ x, e = .returned x) ∧ w' = w := by
  go_enter Tryz.func91, Tryz.ntmps91
  go_wp2
  refine wp_loop_rounds 1 ?_
  rw [rounds_succ]
  go_wp2
  go_end0
  exact ⟨⟨_, rfl⟩, rfl⟩
theorem pdq_nil (w : World) : Calls Tryz.prog 78 #[.slice none 0 0, .int .i64 0, .int .i64 0, .int .i64 0] w fun e w' => (∃ x, e = .returned x) ∧ w' = w := by
  go_enter Tryz.func78, Tryz.ntmps78
  go_wp2
  refine wp_loop_rounds 1 ?_
  rw [rounds_succ]
  go_wp2_with (go_at_call 91; (with_reducible refine (insert_nil _).mono ?_); rintro e v1 ⟨⟨x, rfl⟩, rfl⟩)
  refine bodyPost_ret (results_none rfl _ _ _) rfl ?_
  exact ⟨⟨_, rfl⟩, rfl⟩
theorem bl_le (n : Nat) (h : n ≤ 70368744177664) : Lib.bitLen n ≤ 1000 := by
  rw [bitLen_eq n (by omega)]
  have := (Sort.bitsLen_le_iff n 50).2 (Nat.lt_of_le_of_lt h (by decide))
  omega
theorem sort32_any (B g n c : Nat) (xs : List Hn) (w : World) (h : Row B 21 g n c w xs) (hn : n ≤ 70368744177664) :
    Calls Tryz.prog 70 #[.slice (some ⟨g, 0, none⟩) n c] w fun e w' => (∃ x, e = .returned x) ∧ ∃ ys, Sp B g n c w xs w' ys := by
  obtain ⟨k, hk⟩ : ∃ k : Nat, Lib.bitLen n = k := ⟨_, rfl⟩
  have hk2 := bl_le n hn
  rw [hk] at hk2
  have HL := fun w => Tryz.bits_Len (n : Int) w (by omega) (by omega)
  rw [Int.toNat_natCast, hk] at HL
  have e10 : IntKind.u64.wrap (n : Int) = (n : Int) := by rw [IntKind.wrap_u64]; omega
  have PQ : Hid (Calls Tryz.prog 78 #[.slice (some ⟨g, 0, none⟩) n c, .int .i64 0, .int .i64 (n : Int), .int .i64 (k : Int)] w fun e w' => (∃ x, e = .returned x) ∧ ∃ ys, Sp B g n c w xs w' ys) := pdq_any n B g n c 0 n k xs w h (by omega) (by omega) (by omega) hk2 hn
  clear hk
  go_enter Tryz.func70, Tryz.ntmps70
  go_wp2_with (first
    | (go_at_call 77; (with_reducible refine (HL _).mono ?_); rintro e w1 ⟨rfl, hw⟩; have hw2 := hw.symm; clear hw; subst hw2)
    | (go_at_call 78; (with_reducible refine PQ.out.mono ?_); rintro e v1 ⟨⟨x, rfl⟩, ys, hs1⟩; have S1 : Hid (Sp B g n c w xs v1 ys) := hs1; clear hs1))
  go_end0
  exact ⟨⟨_, rfl⟩, ys, S1.out⟩
theorem sort32_nil (w : World) : Calls Tryz.prog 70 #[.slice none 0 0] w fun e w' => (∃ x, e = .returned x) ∧ w' = w := by
  have HL := fun w => Tryz.bits_Len 0 w (by omega) (by omega)
  rw [show Lib.bitLen (Int.toNat 0) = 0 by decide] at HL
  go_enter Tryz.func70, Tryz.ntmps70
  go_wp2_with (first
    | (go_at_call 77; (with_reducible refine (HL _).mono ?_); rintro e w1 ⟨rfl, hw⟩; have hw2 := hw.symm; clear hw; subst hw2)
    | (go_at_call 78; (with_reducible refine (pdq_nil _).mono ?_); rintro e v1 ⟨⟨x, rfl⟩, rfl⟩))
  go_end0
  exact ⟨⟨_, rfl⟩, rfl⟩
theorem rising32_any (B g n c : Nat) (xs : List Hn) (w : World) (h : Row B 21 g n c w xs) (hn : n ≤ 70368744177664) :
    Calls Tryz.prog 45 #[.slice (some ⟨g, 0, none⟩) n c] w fun e w' => e = .returned (.slice (some ⟨g, 0, none⟩) n c) ∧ ∃ ys, Sp B g n c w xs w' ys := by
  have HR : Hid (Row B 21 g n c w xs) := h
  clear h
  go_enter Tryz.func45, Tryz.ntmps45
  go_wp2_with (go_at_call 70; (with_reducible refine (sort32_any B g n c xs w HR.out hn).mono ?_); rintro e v1 ⟨⟨x, rfl⟩, ys, hs1⟩; have S1 : Hid (Sp B g n c w xs v1 ys) := hs1; clear hs1)
  go_ret
  exact ⟨rfl, ys, S1.out⟩
theorem rising32_nil (w : World) : Calls Tryz.prog 45 #[.slice none 0 0] w fun e w' => e = .returned (.slice none 0 0) ∧ w' = w := by
  go_enter Tryz.func45, Tryz.ntmps45
  go_wp2_with (go_at_call 70; (with_reducible refine (sort32_nil _).mono ?_); rintro e v1 ⟨⟨x, rfl⟩, rfl⟩)
  go_ret
  exact ⟨rfl, rfl⟩
end Go.Proofs.YtgijcbipnjmhgabGreat

namespace Go.Proofs.YtgijcbipnjmhgabGreat
open Go.ChangeShapes Go.WideShapes Go.ChangeAt Go.RowKit
set_option linter.unusedVariables false
set_option linter.unusedSimpArgs false

theorem Row.front {B e g n c : Nat} {w : World} {xs : List Hn} (h : Row B e g n c w xs) {k : Nat} (hk : k ≤ n) : Row B e g k c w (xs.take k) := by
  have hl := h.len
  obtain ⟨h1, h2⟩ := h
  refine ⟨by rw [flat_length, List.length_take, Nat.min_eq_left (by omega)]; rfl, ?_⟩
  rcases h2 with ⟨h2, _⟩ | ⟨g', cap, cur, hv, hb, hh, hn, hc, hs, ht⟩
  · cases h2
  · simp only [Value.slice.injEq, Option.some.injEq, Addr.mk.injEq] at hv
    obtain ⟨⟨rfl, -, -⟩, -, rfl⟩ := hv
    refine .inr ⟨g, c, cur, rfl, hb, hh, by omega, hc, hs, ?_⟩
    have : cur.toList.take (k * 1) = (cur.toList.take (n * 1)).take (k * 1) := by rw [List.take_take]; congr 1; omega
    rw [this, ht]
    apply List.ext_getElem?
    intro j
    rw [List.getElem?_take, flat_hn, flat_hn, List.getElem?_take]
    by_cases hj : j < k
    · rw [if_pos (by omega), if_pos hj]
    · rw [if_neg (by omega), if_neg hj]; rfl
theorem Row.clear {B e g n c : Nat} : ∀ (m o : Nat) (w : World) (xs : List Hn), Row B e g n c w xs → ∃ ys, Row B e g n c (w.setCells g o (List.replicate m (.int .i32 0))) ys ∧ ys.take o = xs.take o ∧ One g w (w.setCells g o (List.replicate m (.int .i32 0)))
  | 0, o, w, xs, h => ⟨xs, h, rfl, One.refl _ _⟩
  | m + 1, o, w, xs, h => by
    obtain ⟨ys, h1, h2, h3⟩ := Row.clear m (o + 1) _ _ (h.set o ⟨0⟩)
    refine ⟨ys, h1, ?_, (One.set g o w _).trans h3⟩
    have : ys.take o = (ys.take (o + 1)).take o := by rw [List.take_take]; congr 1; omega
    rw [this, h2, List.take_take, Nat.min_eq_left (by omega), List.take_set_of_le (Nat.le_refl _)]

theorem Hn.ext' {x y : Hn} (h : x.v = y.v) : x = y := by cases x; cases y; simp_all
/-- what the second loop of Compact keeps: all things lie ahead of k or from j on; the one ahead of j lies ahead of k -/
def Cmp (xs zs : List Hn) (k j : Nat) : Prop := (∀ y, y ∈ xs ↔ y ∈ zs.take k ∨ y ∈ zs.drop j) ∧ (∀ y, zs[j - 1]? = some y → y ∈ zs.take k)
theorem Cmp.start {xs : List Hn} {k : Nat} {x : Hn} (hk : 1 ≤ k) (h1 : xs[k]? = some x) (h2 : xs[k - 1]? = some x) : Cmp xs xs k (k + 1) := by
  have hx : x ∈ xs.take k := by
    have : (xs.take k)[k - 1]? = some x := by rw [List.getElem?_take, if_pos (by omega)]; exact h2
    exact List.mem_of_getElem? this
  refine ⟨fun y => ⟨fun hy => ?_, fun hy => ?_⟩, fun y hy => ?_⟩
  · obtain ⟨i, hi⟩ := List.getElem?_of_mem hy
    rcases Nat.lt_trichotomy i k with h | h | h
    · exact .inl (List.mem_of_getElem? (i := i) (by rw [List.getElem?_take, if_pos h]; exact hi))
    · subst h; rw [h1] at hi; cases hi; exact .inl hx
    · exact .inr (List.mem_of_getElem? (i := i - (k + 1)) (by rw [List.getElem?_drop]; rw [show k + 1 + (i - (k + 1)) = i by omega]; exact hi))
  · rcases hy with hy | hy
    · exact List.mem_of_mem_take hy
    · exact List.mem_of_mem_drop hy
  · rw [show k + 1 - 1 = k by omega, h1] at hy
    cases hy
    exact hx
theorem Cmp.same {xs zs : List Hn} {k j : Nat} {x : Hn} (h : Cmp xs zs k j) (h1 : zs[j]? = some x) (h2 : zs[j - 1]? = some x) : Cmp xs zs k (j + 1) := by
  have hx := h.2 x h2
  refine ⟨fun y => ⟨fun hy => ?_, fun hy => ?_⟩, fun y hy => ?_⟩
  · rcases (h.1 y).1 hy with hy | hy
    · exact .inl hy
    · rw [List.drop_eq_getElem_cons (List.getElem?_eq_some_iff.1 h1).1] at hy
      rcases List.mem_cons.1 hy with hy | hy
      · rw [(List.getElem?_eq_some_iff.1 h1).2] at hy; subst hy; exact .inl hx
      · exact .inr hy
  · refine (h.1 y).2 (hy.imp id fun hy => ?_)
    rw [List.drop_eq_getElem_cons (List.getElem?_eq_some_iff.1 h1).1]
    exact List.mem_cons_of_mem _ hy
  · rw [show j + 1 - 1 = j by omega, h1] at hy
    cases hy
    exact hx
theorem Cmp.more {xs zs : List Hn} {k j : Nat} {x : Hn} (h : Cmp xs zs k j) (hkj : k < j) (h1 : zs[j]? = some x) : Cmp xs (zs.set k x) (k + 1) (j + 1) := by
  have hjl := (List.getElem?_eq_some_iff.1 h1).1
  have ht : (zs.set k x).take (k + 1) = zs.take k ++ [x] := by
    apply List.ext_getElem?
    intro i
    rw [List.getElem?_take, List.getElem?_set]
    by_cases hi : i < k
    · rw [if_pos (by omega), if_neg (by omega), List.getElem?_append_left (by rw [List.length_take]; omega), List.getElem?_take, if_pos hi]
    · by_cases hik : k = i
      · subst hik
        rw [if_pos (by omega), if_pos rfl, if_pos (by omega), List.getElem?_append_right (by rw [List.length_take]; omega), List.length_take, Nat.min_eq_left (by omega), Nat.sub_self]
        rfl
      · rw [if_neg (by omega), List.getElem?_append_right (by rw [List.length_take]; omega), List.length_take, Nat.min_eq_left (by omega)]
        rw [List.getElem?_eq_none (by simp; omega)]
  have hd : (zs.set k x).drop (j + 1) = zs.drop (j + 1) := by rw [List.drop_set_of_lt (by omega)]
  refine ⟨fun y => ?_, fun y hy => ?_⟩
  · rw [h.1 y, ht, hd, List.drop_eq_getElem_cons hjl, (List.getElem?_eq_some_iff.1 h1).2]
    simp only [List.mem_cons, List.mem_append, List.not_mem_nil, or_false]
    constructor
    · rintro (h | h | h)
      · exact .inl (.inl h)
      · exact .inl (.inr h)
      · exact .inr h
    · rintro ((h | h) | h)
      · exact .inl h
      · exact .inr (.inl h)
      · exact .inr (.inr h)
  · rw [show j + 1 - 1 = j by omega, List.getElem?_set, if_neg (by omega), h1] at hy
    cases hy
    rw [ht]
    simp
/-- what Compact hands back -/
def Cmd (B g n c : Nat) (w : World) (xs : List Hn) (v : Value) (w' : World) : Prop := ∃ (k : Nat) (ys : List Hn), v = .slice (some ⟨g, 0, none⟩) k c ∧ Row B 21 g k c w' ys ∧ One g w w' ∧ (∀ y, y ∈ ys ↔ y ∈ xs) ∧ k ≤ n

set_option maxRecDepth 1000000 in
set_option maxHeartbeats 4000000 in
theorem compact_any (B g n c : Nat) (xs : List Hn) (w : World) (h : Row B 21 g n c w xs) (hn : n ≤ 70368744177664) (hc : n ≤ c) :
    Calls Tryz.prog 44 #[.slice (some ⟨g, 0, none⟩) n c] w fun e w' => ∃ v, e = .returned v ∧ Cmd B g n c w xs v w' := by
  have HS : Hid (Sp B g n c w xs w xs) := Sp.first h
  have HD : Hid (∀ z, Sp B g n c w xs z xs → Cmd B g n c w xs (.slice (some ⟨g, 0, none⟩) n c) z) := fun z hz => ⟨n, xs, rfl, hz.row, hz.one, fun y => Iff.rfl, Nat.le_refl _⟩
  clear h
  by_cases h2 : n < 2
  · have h2' : (n : Int) < 2 := by omega
    go_enter Tryz.func44, Tryz.ntmps44
    go_wp2
    go_ret
    exact ⟨_, rfl, HD.out _ HS.out⟩
  · have h2' : ¬ (n : Int) < 2 := by omega
    go_enter Tryz.func44, Tryz.ntmps44
    go_wp2
    go_loopg [3] (n - 1) (fun gk si wr => ∃ k : Nat, gk = n - k ∧ si = .int .i64 (k : Int) ∧ 1 ≤ k ∧ k ≤ n ∧ Sp B g n c w xs wr xs)
    case atStart => exact ⟨1, rfl, rfl, by omega, by omega, HS.out⟩
    case round =>
      obtain ⟨k, hgk, rfl, hk1, hk2, hS⟩ := hrel
      clear HS
      have HS : Hid (Sp B g n c w xs wr xs) := hS
      clear hS
      by_cases hkn : k < n
      · have hkn' : (k : Int) < (n : Int) := by omega
        obtain ⟨x, hx⟩ := HS.out.at (i := k) (by omega)
        obtain ⟨y, hy⟩ := HS.out.at (i := k - 1) (by omega)
        have HX : Hid (xs[k]? = some x ∧ xs[k - 1]? = some y) := ⟨hx, hy⟩
        obtain ⟨X, F, hX, hF, onto⟩ := class_of (fun v => Below wr.heap.size wr v) (Below.refl _ wr)
        have HF : Hid (∀ y, Below wr.heap.size wr (F y)) := hF
        have HO : Hid (∀ v, Below wr.heap.size wr v → ∃ x, v = F x) := fun v h => by obtain ⟨x, hx⟩ := onto v h; exact ⟨x, hx.symm⟩
        have cx : ∀ q, (F q).cell? ⟨g, k, none⟩ = some (.int .i32 x.v) := fun q => (HS.out.below (hF q)).row.get hx
        have cy : ∀ q, (F q).cell? ⟨g, k - 1, none⟩ = some (.int .i32 y.v) := fun q => (HS.out.below (hF q)).row.get hy
        have m1 : IntKind.i64.wrap ((k : Int) - 1) = ((k - 1 : Nat) : Int) := by rw [IntWalk.i64_in _ ⟨by omega, by omega⟩]; omega
        have t1 : ((k - 1 : Nat) : Int) < (n : Int) := by omega
        clear hx hy
        go_upto_region 6 with fail
        refine region_class F (by kernel_rfl) (by kernel_rfl) (by obtain ⟨x, hx⟩ := HO.out _ (Below.refl _ _).drew; exact ⟨x, hx.symm⟩) ?_
        repeat (go_big_quiet_step (fail))
        refine wpQuiet_nil ?_
        rintro _ ⟨nq, rfl⟩
        obtain ⟨z0, hz0⟩ : ∃ z, F nq = z := ⟨_, rfl⟩
        have SZ : Hid (Sp B g n c w xs z0 xs) := HS.out.below (hz0 ▸ HF.out nq)
        rw [hz0]
        clear hz0 HF HO HS hF onto cx cy
        by_cases hxy : x.v = y.v
        · have hxyb : (x.v == y.v) = true := by simp [hxy]
          have hxe : x = y := Hn.ext' hxy
          subst hxe
          have HC : Hid (Cmp xs xs k (k + 1)) := Cmp.start hk1 HX.out.1 HX.out.2
          have hck : ¬ c = k := by omega
          have hck' : ¬ (c : Int) = (k : Int) := by omega
          obtain ⟨k0, hk0⟩ : ∃ k0 : Nat, k = k0 := ⟨_, rfl⟩
          have HK0 : Hid (k = k0) := hk0
          clear hk0
          rw [hxyb]
          go_wp2
          obtain ⟨d, hd⟩ : ∃ d : Nat, n - k = d := ⟨_, rfl⟩
          rw [hd]
          have HDD : Hid (n - k = d) := hd
          have hdn : k + d ≤ n := by omega
          clear hd hck hck' m1 t1 hxyb HK0
          go_loopg [3, 5] (d - 1) (fun g2 s3 s5 wj => ∃ (k2 j : Nat) (zs : List Hn), g2 = d - j ∧ s3 = .int .i64 (k2 : Int) ∧ s5 = .int .i64 (j : Int) ∧ 1 ≤ j ∧ j ≤ d ∧ k ≤ k2 ∧ k2 + 1 ≤ k + j ∧ Row B 21 g n c wj zs ∧ One g w wj ∧ Cmp xs zs k2 (k + j))
          case atStart => exact ⟨k, 1, xs, rfl, rfl, rfl, Nat.le_refl _, by have := HDD.out; omega, Nat.le_refl _, Nat.le_refl _, SZ.out.row, SZ.out.one, HC.out⟩
          case round =>
            obtain ⟨k2, j, zs, hg2, rfl, rfl, hj1, hj2, hkk, hkj, hR, hO, hC⟩ := hrel
            clear SZ HC
            have HR : Hid (Row B 21 g n c wr zs) := hR
            have HW : Hid (One g w wr) := hO
            have HC : Hid (Cmp xs zs k2 (k + j)) := hC
            have hzl := hR.len
            clear hR hO hC
            by_cases hjd : j < d
            · have hjd' : (j : Int) < (d : Int) := by omega
              obtain ⟨x2, hx2⟩ : ∃ x, zs[k + j]? = some x := ⟨_, List.getElem?_eq_getElem (by have := HDD.out; omega)⟩
              obtain ⟨y2, hy2⟩ : ∃ x, zs[k + (j - 1)]? = some x := ⟨_, List.getElem?_eq_getElem (by have := HDD.out; omega)⟩
              have HX2 : Hid (zs[k + j]? = some x2 ∧ zs[k + j - 1]? = some y2) := ⟨hx2, by rw [← hy2]; congr 1; omega⟩
              obtain ⟨X, F, hX, hF, onto⟩ := class_of (fun v => Below wr.heap.size wr v) (Below.refl _ wr)
              have HF : Hid (∀ y, Below wr.heap.size wr (F y)) := hF
              have HO : Hid (∀ v, Below wr.heap.size wr v → ∃ x, v = F x) := fun v h => by obtain ⟨x, hx⟩ := onto v h; exact ⟨x, hx.symm⟩
              have cx : ∀ q, (F q).cell? ⟨g, k + j, none⟩ = some (.int .i32 x2.v) := fun q => (HR.out.below (hF q)).get hx2
              have cy : ∀ q, (F q).cell? ⟨g, k + (j - 1), none⟩ = some (.int .i32 y2.v) := fun q => (HR.out.below (hF q)).get hy2
              have m2 : IntKind.i64.wrap ((j : Int) - 1) = ((j - 1 : Nat) : Int) := by rw [IntWalk.i64_in _ ⟨by omega, by omega⟩]; omega
              have t2 : ((j - 1 : Nat) : Int) < (d : Int) := by omega
              clear hx2 hy2
              go_upto_region 11 with fail
              refine region_class F (by kernel_rfl) (by kernel_rfl) (by obtain ⟨x, hx⟩ := HO.out _ (Below.refl _ _).drew; exact ⟨x, hx.symm⟩) ?_
              repeat (go_big_quiet_step (fail))
              refine wpQuiet_nil ?_
              rintro _ ⟨nq, rfl⟩
              obtain ⟨z1, hz1⟩ : ∃ z, F nq = z := ⟨_, rfl⟩
              have RZ : Hid (Row B 21 g n c z1 zs) := HR.out.below (hz1 ▸ HF.out nq)
              have OZ : Hid (One g w z1) := HW.out.trans (One.of (hz1 ▸ HF.out nq) (Nat.le_of_lt HR.out.lt))
              rw [hz1]
              clear hz1 HF HO HR HW hF onto cx cy m2 t2
              by_cases hxy2 : x2.v = y2.v
              · have hb1 : (x2.v != y2.v) = false := by simp [hxy2]
                have hxe : x2 = y2 := Hn.ext' hxy2
                subst hxe
                rw [hb1]
                go_wp2
                go_roundg (d - (j + 1))
                case measure => omega
                case rel => exact ⟨k2, j + 1, zs, rfl, rfl, by go_num, by omega, by omega, hkk, by omega, RZ.out, OZ.out, HC.out.same HX2.out.1 HX2.out.2⟩
              · have hb1 : (x2.v != y2.v) = true := by simp [hxy2]
                rw [hb1]
                have c2 := RZ.out.get HX2.out.1
                have f2 := RZ.out.free k2
                obtain ⟨x9, hx9⟩ : ∃ x, zs[k2]? = some x := ⟨_, List.getElem?_eq_getElem (by have := RZ.out.len; omega)⟩
                have c9 := RZ.out.get hx9
                clear hx9
                have t3 : (k2 : Int) < (n : Int) := by have := HDD.out; omega
                have R3 : Hid (Row B 21 g n c (z1.setCell ⟨g, k2, none⟩ (.int .i32 x2.v)) (zs.set k2 x2)) := RZ.out.set k2 x2
                have O3 : Hid (One g w (z1.setCell ⟨g, k2, none⟩ (.int .i32 x2.v))) := OZ.out.trans (One.set g k2 _ _)
                go_wp2
                go_roundg (d - (j + 1))
                case measure => omega
                case rel => exact ⟨k2 + 1, j + 1, _, rfl, by go_num, by go_num, by omega, by omega, by omega, by omega, R3.out, O3.out, HC.out.more (by omega) HX2.out.1⟩
            · have hjd' : ¬ (j : Int) < (d : Int) := by omega
              have hjd2 : j = d := by omega
              have hkn2 : k2 < n := by have := HDD.out; omega
              have hck : ¬ c = k2 := by omega
              have hck' : ¬ (c : Int) = (k2 : Int) := by omega
              have t4 : (k2 : Int) ≤ (n : Int) := by omega
              have hcl : ∀ ty, (Builtin.clear_ #[76] ty #[.slice (some ⟨g, k2, none⟩) (n - k2) (c - k2)]).run Tryz.prog wr = .ok (.tuple #[]) (wr.setCells g k2 (List.replicate (n - k2) (.int .i32 0))) :=
                fun ty => Lib.run_clear_slice wr _ _ ty _ Tryz.underlying76 Tryz.zeroValue21 rfl rfl g k2 _ _ (by omega) (fun i hi => by rw [HR.out.get (i := k2 + i) (List.getElem?_eq_getElem (by omega))]; rfl) (fun i hi => HR.out.free (k2 + i))
              obtain ⟨ys, hr9, ht9, ho9⟩ := Row.clear (n - k2) k2 wr zs HR.out
              have hfin : Hid (Cmd B g n c w xs (.slice (some ⟨g, 0, none⟩) k2 c) (wr.setCells g k2 (List.replicate (n - k2) (.int .i32 0)))) := by
                refine ⟨k2, ys.take k2, rfl, hr9.front (by omega), HW.out.trans ho9, fun y => ?_, by omega⟩
                rw [ht9]
                have hC := (HC.out.1 y)
                rw [List.drop_eq_nil_of_le (by have := HDD.out; omega)] at hC
                simp at hC
                exact hC.symm
              clear hr9 ht9 ho9
              go_wp2
              go_ret
              exact ⟨_, rfl, hfin.out⟩
        · have hxyb : (x.v == y.v) = false := by simp [hxy]
          rw [hxyb]
          go_wp2
          go_roundg (n - (k + 1))
          case measure => omega
          case rel => exact ⟨k + 1, rfl, by go_num, by omega, by omega, SZ.out⟩
      · have hkn' : ¬ (k : Int) < (n : Int) := by omega
        go_wp2
        go_ret
        exact ⟨_, rfl, HD.out _ HS.out⟩
theorem compact_nil (w : World) : Calls Tryz.prog 44 #[.slice none 0 0] w fun e w' => e = .returned (.slice none 0 0) ∧ w' = w := by
  go_enter Tryz.func44, Tryz.ntmps44
  go_wp2
  go_ret
  exact ⟨rfl, rfl⟩
end Go.Proofs.YtgijcbipnjmhgabGreat

namespace Go.Proofs.YtgijcbipnjmhgabGreat
open Go.ChangeShapes Go.WideShapes Go.ChangeAt Go.RowKit
set_option linter.unusedVariables false
set_option linter.unusedSimpArgs false

structure Ry (B g n c a b s X : Nat) (w : World) (xs : List Hn) (z : World) (zs : List Hn) : Prop where
  sp : Si B g n c a b w xs z zs
  box : Bx z s #[.int .u64 (X : Int)] 154
  lt : g < s
  new : w.heap.size ≤ s
theorem Ry.more {B g n c a b s X Y : Nat} {w z : World} {xs zs : List Hn} (h : Ry B g n c a b s X w xs z zs) : Ry B g n c a b s Y w xs (z.setCell ⟨s, 0, none⟩ (.int .u64 (Y : Int))).drew zs :=
  ⟨⟨h.sp.perm, (ownsRow_setCell_other h.sp.row (a := ⟨s, 0, none⟩) (fun e => by have := h.lt; cases e; omega) _), ⟨fun k hk hg => (heap_setCell_other _ _ _ _ (by have := h.new; show k ≠ s; omega)).trans (h.sp.one.keep k hk hg), (h.sp.one.bel.setCell (p := ⟨s, 0, none⟩) (Nat.le_of_lt h.lt) _).drew⟩⟩, h.box.set 0 _, h.lt, h.new⟩
theorem Ry.swap {B g n c a b s X : Nat} {w z : World} {xs zs : List Hn} (h : Ry B g n c a b s X w xs z zs) {i j : Nat} {x y : Hn} (hi : zs[i]? = some x) (hj : zs[j]? = some y) (h1 : a ≤ i ∧ i < b) (h2 : a ≤ j ∧ j < b) (hb : b ≤ n) : Ry B g n c a b s X w xs ((z.setCell ⟨g, i, none⟩ (.int .i32 y.v)).setCell ⟨g, j, none⟩ (.int .i32 x.v)).drew (swp zs i j x y) :=
  ⟨h.sp.swap hi hj h1 h2 hb, (h.box.other ⟨g, i, none⟩ (by have := h.lt; show s ≠ g; omega) _).other ⟨g, j, none⟩ (by have := h.lt; show s ≠ g; omega) _, h.lt, h.new⟩
set_option maxRecDepth 1000000 in
theorem nextS_any (B g n c a b s X : Nat) (w : World) (xs : List Hn) (z : World) (zs : List Hn) (h : Ry B g n c a b s X w xs z zs) (hX : X < 18446744073709551616) : Calls Tryz.prog 102 #[.pointer (some ⟨s, 0, none⟩)] z fun e z' => ∃ Y : Nat, e = .returned (.int .u64 (Y : Int)) ∧ Y < 18446744073709551616 ∧ Ry B g n c a b s Y w xs z' zs := by
  obtain ⟨A, hA, lA⟩ := xor64 (X : Int) (IntKind.u64.wrap ((X : Int) * 8192))
  obtain ⟨A2, hA2, lA2⟩ := xor64 (A : Int) ((A : Int) / 128)
  obtain ⟨A3, hA3, lA3⟩ := xor64 (A2 : Int) (IntKind.u64.wrap ((A2 : Int) * 131072))
  have HR : Hid (Ry B g n c a b s X w xs z zs) := h
  have c1 := h.box.one
  have f1 := h.box.free 0
  clear h
  go_enter Tryz.func102, Tryz.ntmps102
  go_upto_region 1 with fail
  go_big_region
  obtain ⟨z1, hz1⟩ : ∃ z1, (z.setCell ⟨s, 0, none⟩ (.int .u64 (A : Int))).drew = z1 := ⟨_, rfl⟩
  have R1 : Hid (Ry B g n c a b s A w xs z1 zs) := by unfold Hid; rw [← hz1]; exact HR.out.more
  rw [hz1]
  clear hz1 HR c1 f1 hA
  have c1 := R1.out.box.one
  have f1 := R1.out.box.free 0
  go_upto_region 2 with fail
  go_big_region
  obtain ⟨z2, hz2⟩ : ∃ z2, (z1.setCell ⟨s, 0, none⟩ (.int .u64 (A2 : Int))).drew = z2 := ⟨_, rfl⟩
  have R2 : Hid (Ry B g n c a b s A2 w xs z2 zs) := by unfold Hid; rw [← hz2]; exact R1.out.more
  rw [hz2]
  clear hz2 R1 c1 f1 hA2
  have c1 := R2.out.box.one
  have f1 := R2.out.box.free 0
  go_upto_region 3 with fail
  go_big_region
  obtain ⟨z3, hz3⟩ : ∃ z3, (z2.setCell ⟨s, 0, none⟩ (.int .u64 (A3 : Int))).drew = z3 := ⟨_, rfl⟩
  have R3 : Hid (Ry B g n c a b s A3 w xs z3 zs) := by unfold Hid; rw [← hz3]; exact R2.out.more
  rw [hz3]
  clear hz3 R2 c1 f1 hA3
  have c1 := R3.out.box.one
  go_wp2
  go_ret
  exact ⟨A3, rfl, lA3, R3.out⟩

set_option maxRecDepth 1000000 in
set_option maxHeartbeats 4000000 in
theorem brkS_any (B g n c a b : Nat) (xs : List Hn) (w : World) (h : Row B 21 g n c w xs) (hab : a + 12 < b) (hb : b ≤ n) (hn : n ≤ 70368744177664) :
    Calls Tryz.prog 93 #[.slice (some ⟨g, 0, none⟩) n c, .int .i64 (a : Int), .int .i64 (b : Int)] w fun e w' => (∃ x, e = .returned x) ∧ ∃ ys, Si B g n c a b w xs w' ys := by
  obtain ⟨l, hl⟩ : ∃ l : Nat, b - a = l := ⟨_, rfl⟩
  obtain ⟨q, hq⟩ : ∃ q : Nat, l / 4 = q := ⟨_, rfl⟩
  obtain ⟨q2, hq2⟩ : ∃ q2 : Nat, q * 2 = q2 := ⟨_, rfl⟩
  obtain ⟨j0, hj0⟩ : ∃ j0 : Nat, a + q2 = j0 := ⟨_, rfl⟩
  obtain ⟨j1, hj1⟩ : ∃ j1 : Nat, j0 - 1 = j1 := ⟨_, rfl⟩
  obtain ⟨j2, hj2⟩ : ∃ j2 : Nat, j0 + 1 = j2 := ⟨_, rfl⟩
  have e1 : IntKind.i64.wrap ((b : Int) - (a : Int)) = (l : Int) := by rw [IntWalk.i64_in _ ⟨by omega, by omega⟩]; omega
  have e2 : IntKind.i64.wrap ((l : Int).tdiv 4) = (q : Int) := by
    rw [Int.tdiv_eq_ediv_of_nonneg (by omega), IntWalk.i64_in _ ⟨by omega, by omega⟩]; omega
  have e2' : IntKind.i64.wrap ((l : Int) / 4) = (q : Int) := by
    rw [IntWalk.i64_in _ ⟨by omega, by omega⟩]; omega
  have e4 : IntKind.i64.wrap ((q : Int) * 2) = (q2 : Int) := by rw [IntWalk.i64_in _ ⟨by omega, by omega⟩]; omega
  have e7 : IntKind.i64.wrap ((a : Int) + (q2 : Int)) = (j0 : Int) := by rw [IntWalk.i64_in _ ⟨by omega, by omega⟩]; omega
  have e8 : IntKind.i64.wrap ((j0 : Int) - 1) = (j1 : Int) := by rw [IntWalk.i64_in _ ⟨by omega, by omega⟩]; omega
  have e9 : IntKind.i64.wrap ((j0 : Int) + 1) = (j2 : Int) := by rw [IntWalk.i64_in _ ⟨by omega, by omega⟩]; omega
  have e10 : IntKind.u64.wrap (l : Int) = (l : Int) := by rw [IntKind.wrap_u64]; omega
  have h8 : (8 : Int) ≤ (l : Int) := by omega
  have HL : Hid (b - a = l ∧ a ≤ j1 ∧ j1 ≤ j2 ∧ j2 < b) := by unfold Hid; omega
  obtain ⟨w0, e0, hw0, hs0, B0⟩ := bx1 w #[.int .u64 (l : Int)] 154
  obtain ⟨s, hs⟩ : ∃ s, w.heap.size = s := ⟨_, rfl⟩
  have HE0 : Hid (w.alloc (.cells #[.int .u64 (l : Int)] 154) = w0) := e0
  have HR : Hid (Ry B g n c a b s l w xs w0 xs) := ⟨(Si.first h).below hw0, hs ▸ B0, by have := h.lt; omega, by omega⟩
  have NP : Hid (∀ w, Calls Tryz.prog 101 #[.int .i64 (l : Int)] w fun e w' => ∃ M : Nat, e = .returned (.int .u64 (M : Int)) ∧ (l < M ∧ M ≤ 2 * l) ∧ w' = w) := fun w => npo_any l (by omega) (by omega) w
  clear h e0 hw0 hs0 B0 hl hq hq2 hj0 hj1 hj2
  go_enter Tryz.func93, Tryz.ntmps93
  go_upto_region 3 with fail
  rw [HE0.out]
  go_upto_block 0 with (go_at_call 101; (with_reducible refine (NP.out _).mono ?_); rintro e w1 ⟨M, rfl, hM, rfl⟩)
  clear HE0 NP
  go_wp2_with fail
  go_loopg [9] (j2 + 1 - j1) (fun gk si wr => ∃ (i X : Nat) (zs : List Hn), gk = j2 + 1 - i ∧ si = .int .i64 (i : Int) ∧ j1 ≤ i ∧ i ≤ j2 + 1 ∧ X < 18446744073709551616 ∧ Ry B g n c a b s X w xs wr zs)
  case atStart => exact ⟨j1, l, xs, rfl, rfl, Nat.le_refl _, by have := HL.out; omega, by have := HL.out; omega, HR.out⟩
  case round =>
    obtain ⟨i, X, zs, hgk, rfl, hi1, hi2, hX, hR⟩ := hrel
    clear HR
    have HR : Hid (Ry B g n c a b s X w xs wr zs) := hR
    clear hR
    by_cases hij : i ≤ j2
    · have hij' : (i : Int) ≤ (j2 : Int) := by omega
      have em : IntKind.u64.wrap ((M : Int) - 1) = ((M - 1 : Nat) : Int) := by rw [IntKind.wrap_u64]; have := HL.out; omega
      have ea : ∀ Y : Nat, Y < 18446744073709551616 → ∃ O : Nat, bits BinOp.and IntKind.u64 (Y : Int) ((M - 1 : Nat) : Int) = (O : Int) ∧ O < M := by
        intro Y hY
        refine ⟨Y &&& (M - 1), bits_and_u64_nat _ _ hY (by have := HL.out; omega), ?_⟩
        have := @Nat.and_le_right Y (M - 1)
        omega
      have HEA : Hid (∀ Y : Nat, Y < 18446744073709551616 → ∃ O : Nat, bits BinOp.and IntKind.u64 (Y : Int) ((M - 1 : Nat) : Int) = (O : Int) ∧ O < M) := ea
      clear ea
      go_upto_region 8 with (go_at_call 102; (with_reducible refine (nextS_any B g n c a b s X w xs wr zs HR.out hX).mono ?_); rintro e v1 ⟨Y, rfl, hY, hr1⟩; have R1 : Hid (Ry B g n c a b s Y w xs v1 zs) := hr1; clear hr1; obtain ⟨O, hO, lO⟩ := HEA.out Y hY; have ko : IntKind.i64.wrap (O : Int) = (O : Int) := (by rw [IntWalk.i64_in _ ⟨by omega, by have := HL.out; omega⟩]))
      go_upto_if 43 with fail
      go_cut [10] (fun so wc => ∃ o : Nat, so = .int .i64 (o : Int) ∧ o < l ∧ wc = v1)
      case first =>
        by_cases hol : l ≤ O
        · have hol' : (l : Int) ≤ (O : Int) := by omega
          have ks : IntKind.i64.wrap ((O : Int) - (l : Int)) = ((O - l : Nat) : Int) := by rw [IntWalk.i64_in _ ⟨by have := HL.out; omega, by have := HL.out; omega⟩]; omega
          go_wp2_with fail
          go_meet
          exact ⟨O - l, rfl, by omega, rfl⟩
        · have hol' : ¬ (l : Int) ≤ (O : Int) := by omega
          go_wp2_with fail
          go_meet
          exact ⟨O, rfl, by omega, rfl⟩
      case rest =>
        obtain ⟨o, rfl, ho, hwc⟩ := hcut
        have HR1 : Hid (Ry B g n c a b s Y w xs wc zs) := by unfold Hid; rw [hwc]; exact R1.out
        clear hwc R1 HR hO ko HEA em
        obtain ⟨p, hp⟩ : ∃ p : Nat, a + o = p := ⟨_, rfl⟩
        have kp : IntKind.i64.wrap ((a : Int) + (o : Int)) = (p : Int) := by rw [IntWalk.i64_in _ ⟨by omega, by have := HL.out; omega⟩]; omega
        obtain ⟨xi, hxi⟩ := HR1.out.sp.at (i := i) (by have := HL.out; omega)
        obtain ⟨xj, hxj⟩ := HR1.out.sp.at (i := p) (by have := HL.out; omega)
        have HX : Hid (zs[i]? = some xi ∧ zs[p]? = some xj) := ⟨hxi, hxj⟩
        have ti : (i : Int) < (n : Int) := by have := HL.out; omega
        have tj : (p : Int) < (n : Int) := by have := HL.out; omega
        have cx := HR1.out.sp.row.get hxi
        have cy := HR1.out.sp.row.get hxj
        have f1 := HR1.out.sp.row.free i
        have f2 := HR1.out.sp.row.free p
        have HPO : Hid (a + o = p ∧ o < l) := ⟨hp, ho⟩
        clear hxi hxj hp
        by_cases hijq : p = i
        · subst hijq
          have hxx : xi = xj := by have h9 := HX.out; rw [h9.1] at h9; exact Option.some.inj h9.2
          subst hxx
          go_upto_region 10 with fail
          go_big_region
          obtain ⟨z2, hz2⟩ : ∃ z, ((wc.setCell ⟨g, p, none⟩ (.int .i32 xi.v)).setCell ⟨g, p, none⟩ (.int .i32 xi.v)).drew = z := ⟨_, rfl⟩
          have R2 : Hid (Ry B g n c a b s Y w xs z2 (swp zs p p xi xi)) := by unfold Hid; rw [← hz2]; exact HR1.out.swap HX.out.1 HX.out.2 (by have := HL.out; have := HPO.out; omega) (by have := HL.out; have := HPO.out; omega) hb
          rw [hz2]
          clear hz2 cx cy f1 f2
          go_wp2
          go_roundg (j2 + 1 - (p + 1))
          case measure => omega
          case rel => exact ⟨p + 1, Y, _, rfl, by go_num, by omega, by omega, hY, R2.out⟩
        · have hne2 : p ≠ i := hijq
          have hne3 : i ≠ p := fun e => hijq e.symm
          go_upto_region 10 with fail
          go_big_region
          obtain ⟨z2, hz2⟩ : ∃ z, ((wc.setCell ⟨g, i, none⟩ (.int .i32 xj.v)).setCell ⟨g, p, none⟩ (.int .i32 xi.v)).drew = z := ⟨_, rfl⟩
          have R2 : Hid (Ry B g n c a b s Y w xs z2 (swp zs i p xi xj)) := by unfold Hid; rw [← hz2]; exact HR1.out.swap HX.out.1 HX.out.2 (by have := HL.out; have := HPO.out; omega) (by have := HL.out; have := HPO.out; omega) hb
          rw [hz2]
          clear hz2 cx cy f1 f2
          go_wp2
          go_roundg (j2 + 1 - (i + 1))
          case measure => omega
          case rel => exact ⟨i + 1, Y, _, rfl, by go_num, by omega, by omega, hY, R2.out⟩
    · have hij' : ¬ (i : Int) ≤ (j2 : Int) := by omega
      go_wp2
      go_end0
      exact ⟨⟨_, rfl⟩, zs, HR.out.sp⟩
end Go.Proofs.YtgijcbipnjmhgabGreat
