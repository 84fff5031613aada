import Derived.Test.YtgijcbipnjmhgabSqb
import Derived.Lib.SliceRun
namespace Go.Proofs.Ytgijcbipnjmhgab
open Go.ChangeShapes Go.WideShapes Go.ChangeAt Go.RowKit
set_option linter.unusedVariables false
set_option linter.unusedSimpArgs false

theorem Row.front {B e g n c : Nat} {w : World} {xs : List Hn} (h : Row B e g n c w xs) {k : Nat} (hk : k ≤ n) : Row B e g k c w (xs.take k) := by
  have hl := h.len
  obtain ⟨h1, h2⟩ := h
  refine ⟨by rw [flat_length, List.length_take, Nat.min_eq_left (by omega)]; rfl, ?_⟩
  rcases h2 with ⟨h2, _⟩ | ⟨g', cap, cur, hv, hb, hh, hn, hc, hs, ht⟩
  · cases h2
  · simp only [Value.slice.injEq, Option.some.injEq, Addr.mk.injEq] at hv
    obtain ⟨⟨rfl, -, -⟩, -, rfl⟩ := hv
    refine .inr ⟨g, c, cur, rfl, hb, hh, by omega, hc, hs, ?_⟩
    have : cur.toList.take (k * 1) = (cur.toList.take (n * 1)).take (k * 1) := by rw [List.take_take]; congr 1; omega
    rw [this, ht]
    apply List.ext_getElem?
    intro j
    rw [List.getElem?_take, flat_hn, flat_hn, List.getElem?_take]
    by_cases hj : j < k
    · rw [if_pos (by omega), if_pos hj]
    · rw [if_neg (by omega), if_neg hj]; rfl
theorem Row.clear {B e g n c : Nat} : ∀ (m o : Nat) (w : World) (xs : List Hn), Row B e g n c w xs → ∃ ys, Row B e g n c (w.setCells g o (List.replicate m (.int .i32 0))) ys ∧ ys.take o = xs.take o ∧ One g w (w.setCells g o (List.replicate m (.int .i32 0)))
  | 0, o, w, xs, h => ⟨xs, h, rfl, One.refl _ _⟩
  | m + 1, o, w, xs, h => by
    obtain ⟨ys, h1, h2, h3⟩ := Row.clear m (o + 1) _ _ (h.set o ⟨0⟩)
    refine ⟨ys, h1, ?_, (One.set g o w _).trans h3⟩
    have : ys.take o = (ys.take (o + 1)).take o := by rw [List.take_take]; congr 1; omega
    rw [this, h2, List.take_take, Nat.min_eq_left (by omega), List.take_set_of_le (Nat.le_refl _)]

theorem Hn.ext' {x y : Hn} (h : x.v = y.v) : x = y := by cases x; cases y; simp_all
/-- what the second loop of Compact keeps: all things lie ahead of k or from j on; the one ahead of j lies ahead of k -/
def Cmp (xs zs : List Hn) (k j : Nat) : Prop := (∀ y, y ∈ xs ↔ y ∈ zs.take k ∨ y ∈ zs.drop j) ∧ (∀ y, zs[j - 1]? = some y → y ∈ zs.take k)
theorem Cmp.start {xs : List Hn} {k : Nat} {x : Hn} (hk : 1 ≤ k) (h1 : xs[k]? = some x) (h2 : xs[k - 1]? = some x) : Cmp xs xs k (k + 1) := by
  have hx : x ∈ xs.take k := by
    have : (xs.take k)[k - 1]? = some x := by rw [List.getElem?_take, if_pos (by omega)]; exact h2
    exact List.mem_of_getElem? this
  refine ⟨fun y => ⟨fun hy => ?_, fun hy => ?_⟩, fun y hy => ?_⟩
  · obtain ⟨i, hi⟩ := List.getElem?_of_mem hy
    rcases Nat.lt_trichotomy i k with h | h | h
    · exact .inl (List.mem_of_getElem? (i := i) (by rw [List.getElem?_take, if_pos h]; exact hi))
    · subst h; rw [h1] at hi; cases hi; exact .inl hx
    · exact .inr (List.mem_of_getElem? (i := i - (k + 1)) (by rw [List.getElem?_drop]; rw [show k + 1 + (i - (k + 1)) = i by omega]; exact hi))
  · rcases hy with hy | hy
    · exact List.mem_of_mem_take hy
    · exact List.mem_of_mem_drop hy
  · rw [show k + 1 - 1 = k by omega, h1] at hy
    cases hy
    exact hx
theorem Cmp.same {xs zs : List Hn} {k j : Nat} {x : Hn} (h : Cmp xs zs k j) (h1 : zs[j]? = some x) (h2 : zs[j - 1]? = some x) : Cmp xs zs k (j + 1) := by
  have hx := h.2 x h2
  refine ⟨fun y => ⟨fun hy => ?_, fun hy => ?_⟩, fun y hy => ?_⟩
  · rcases (h.1 y).1 hy with hy | hy
    · exact .inl hy
    · rw [List.drop_eq_getElem_cons (List.getElem?_eq_some_iff.1 h1).1] at hy
      rcases List.mem_cons.1 hy with hy | hy
      · rw [(List.getElem?_eq_some_iff.1 h1).2] at hy; subst hy; exact .inl hx
      · exact .inr hy
  · refine (h.1 y).2 (hy.imp id fun hy => ?_)
    rw [List.drop_eq_getElem_cons (List.getElem?_eq_some_iff.1 h1).1]
    exact List.mem_cons_of_mem _ hy
  · rw [show j + 1 - 1 = j by omega, h1] at hy
    cases hy
    exact hx
theorem Cmp.more {xs zs : List Hn} {k j : Nat} {x : Hn} (h : Cmp xs zs k j) (hkj : k < j) (h1 : zs[j]? = some x) : Cmp xs (zs.set k x) (k + 1) (j + 1) := by
  have hjl := (List.getElem?_eq_some_iff.1 h1).1
  have ht : (zs.set k x).take (k + 1) = zs.take k ++ [x] := by
    apply List.ext_getElem?
    intro i
    rw [List.getElem?_take, List.getElem?_set]
    by_cases hi : i < k
    · rw [if_pos (by omega), if_neg (by omega), List.getElem?_append_left (by rw [List.length_take]; omega), List.getElem?_take, if_pos hi]
    · by_cases hik : k = i
      · subst hik
        rw [if_pos (by omega), if_pos rfl, if_pos (by omega), List.getElem?_append_right (by rw [List.length_take]; omega), List.length_take, Nat.min_eq_left (by omega), Nat.sub_self]
        rfl
      · rw [if_neg (by omega), List.getElem?_append_right (by rw [List.length_take]; omega), List.length_take, Nat.min_eq_left (by omega)]
        rw [List.getElem?_eq_none (by simp; omega)]
  have hd : (zs.set k x).drop (j + 1) = zs.drop (j + 1) := by rw [List.drop_set_of_lt (by omega)]
  refine ⟨fun y => ?_, fun y hy => ?_⟩
  · rw [h.1 y, ht, hd, List.drop_eq_getElem_cons hjl, (List.getElem?_eq_some_iff.1 h1).2]
    simp only [List.mem_cons, List.mem_append, List.not_mem_nil, or_false]
    constructor
    · rintro (h | h | h)
      · exact .inl (.inl h)
      · exact .inl (.inr h)
      · exact .inr h
    · rintro ((h | h) | h)
      · exact .inl h
      · exact .inr (.inl h)
      · exact .inr (.inr h)
  · rw [show j + 1 - 1 = j by omega, List.getElem?_set, if_neg (by omega), h1] at hy
    cases hy
    rw [ht]
    simp
/-- what Compact hands back -/
def Cmd (B g n c : Nat) (w : World) (xs : List Hn) (v : Value) (w' : World) : Prop := ∃ (k : Nat) (ys : List Hn), v = .slice (some ⟨g, 0, none⟩) k c ∧ Row B 21 g k c w' ys ∧ One g w w' ∧ (∀ y, y ∈ ys ↔ y ∈ xs) ∧ k ≤ n

set_option maxRecDepth 1000000 in
set_option maxHeartbeats 4000000 in
theorem compact_any (B g n c : Nat) (xs : List Hn) (w : World) (h : Row B 21 g n c w xs) (hn : n ≤ 70368744177664) (hc : n ≤ c) :
    Calls Try.prog 36 #[.slice (some ⟨g, 0, none⟩) n c] w fun e w' => ∃ v, e = .returned v ∧ Cmd B g n c w xs v w' := by
  have HS : Hid (Sp B g n c w xs w xs) := Sp.first h
  have HD : Hid (∀ z, Sp B g n c w xs z xs → Cmd B g n c w xs (.slice (some ⟨g, 0, none⟩) n c) z) := fun z hz => ⟨n, xs, rfl, hz.row, hz.one, fun y => Iff.rfl, Nat.le_refl _⟩
  clear h
  by_cases h2 : n < 2
  · have h2' : (n : Int) < 2 := by omega
    go_enter Try.func36, Try.ntmps36
    go_wp2
    go_ret
    exact ⟨_, rfl, HD.out _ HS.out⟩
  · have h2' : ¬ (n : Int) < 2 := by omega
    go_enter Try.func36, Try.ntmps36
    go_wp2
    go_loopg [3] (n - 1) (fun gk si wr => ∃ k : Nat, gk = n - k ∧ si = .int .i64 (k : Int) ∧ 1 ≤ k ∧ k ≤ n ∧ Sp B g n c w xs wr xs)
    case atStart => exact ⟨1, rfl, rfl, by omega, by omega, HS.out⟩
    case round =>
      obtain ⟨k, hgk, rfl, hk1, hk2, hS⟩ := hrel
      clear HS
      have HS : Hid (Sp B g n c w xs wr xs) := hS
      clear hS
      by_cases hkn : k < n
      · have hkn' : (k : Int) < (n : Int) := by omega
        obtain ⟨x, hx⟩ := HS.out.at (i := k) (by omega)
        obtain ⟨y, hy⟩ := HS.out.at (i := k - 1) (by omega)
        have HX : Hid (xs[k]? = some x ∧ xs[k - 1]? = some y) := ⟨hx, hy⟩
        obtain ⟨X, F, hX, hF, onto⟩ := class_of (fun v => Below wr.heap.size wr v) (Below.refl _ wr)
        have HF : Hid (∀ y, Below wr.heap.size wr (F y)) := hF
        have HO : Hid (∀ v, Below wr.heap.size wr v → ∃ x, v = F x) := fun v h => by obtain ⟨x, hx⟩ := onto v h; exact ⟨x, hx.symm⟩
        have cx : ∀ q, (F q).cell? ⟨g, k, none⟩ = some (.int .i32 x.v) := fun q => (HS.out.below (hF q)).row.get hx
        have cy : ∀ q, (F q).cell? ⟨g, k - 1, none⟩ = some (.int .i32 y.v) := fun q => (HS.out.below (hF q)).row.get hy
        have m1 : IntKind.i64.wrap ((k : Int) - 1) = ((k - 1 : Nat) : Int) := by rw [IntWalk.i64_in _ ⟨by omega, by omega⟩]; omega
        have t1 : ((k - 1 : Nat) : Int) < (n : Int) := by omega
        clear hx hy
        go_upto_region 6 with fail
        refine region_class F (by kernel_rfl) (by kernel_rfl) (by obtain ⟨x, hx⟩ := HO.out _ (Below.refl _ _).drew; exact ⟨x, hx.symm⟩) ?_
        repeat (go_big_quiet_step (fail))
        refine wpQuiet_nil ?_
        rintro _ ⟨nq, rfl⟩
        obtain ⟨z0, hz0⟩ : ∃ z, F nq = z := ⟨_, rfl⟩
        have SZ : Hid (Sp B g n c w xs z0 xs) := HS.out.below (hz0 ▸ HF.out nq)
        rw [hz0]
        clear hz0 HF HO HS hF onto cx cy
        by_cases hxy : x.v = y.v
        · have hxyb : (x.v == y.v) = true := by simp [hxy]
          have hxe : x = y := Hn.ext' hxy
          subst hxe
          have HC : Hid (Cmp xs xs k (k + 1)) := Cmp.start hk1 HX.out.1 HX.out.2
          have hck : ¬ c = k := by omega
          have hck' : ¬ (c : Int) = (k : Int) := by omega
          obtain ⟨k0, hk0⟩ : ∃ k0 : Nat, k = k0 := ⟨_, rfl⟩
          have HK0 : Hid (k = k0) := hk0
          clear hk0
          rw [hxyb]
          go_wp2
          obtain ⟨d, hd⟩ : ∃ d : Nat, n - k = d := ⟨_, rfl⟩
          rw [hd]
          have HDD : Hid (n - k = d) := hd
          have hdn : k + d ≤ n := by omega
          clear hd hck hck' m1 t1 hxyb HK0
          go_loopg [3, 5] (d - 1) (fun g2 s3 s5 wj => ∃ (k2 j : Nat) (zs : List Hn), g2 = d - j ∧ s3 = .int .i64 (k2 : Int) ∧ s5 = .int .i64 (j : Int) ∧ 1 ≤ j ∧ j ≤ d ∧ k ≤ k2 ∧ k2 + 1 ≤ k + j ∧ Row B 21 g n c wj zs ∧ One g w wj ∧ Cmp xs zs k2 (k + j))
          case atStart => exact ⟨k, 1, xs, rfl, rfl, rfl, Nat.le_refl _, by have := HDD.out; omega, Nat.le_refl _, Nat.le_refl _, SZ.out.row, SZ.out.one, HC.out⟩
          case round =>
            obtain ⟨k2, j, zs, hg2, rfl, rfl, hj1, hj2, hkk, hkj, hR, hO, hC⟩ := hrel
            clear SZ HC
            have HR : Hid (Row B 21 g n c wr zs) := hR
            have HW : Hid (One g w wr) := hO
            have HC : Hid (Cmp xs zs k2 (k + j)) := hC
            have hzl := hR.len
            clear hR hO hC
            by_cases hjd : j < d
            · have hjd' : (j : Int) < (d : Int) := by omega
              obtain ⟨x2, hx2⟩ : ∃ x, zs[k + j]? = some x := ⟨_, List.getElem?_eq_getElem (by have := HDD.out; omega)⟩
              obtain ⟨y2, hy2⟩ : ∃ x, zs[k + (j - 1)]? = some x := ⟨_, List.getElem?_eq_getElem (by have := HDD.out; omega)⟩
              have HX2 : Hid (zs[k + j]? = some x2 ∧ zs[k + j - 1]? = some y2) := ⟨hx2, by rw [← hy2]; congr 1; omega⟩
              obtain ⟨X, F, hX, hF, onto⟩ := class_of (fun v => Below wr.heap.size wr v) (Below.refl _ wr)
              have HF : Hid (∀ y, Below wr.heap.size wr (F y)) := hF
              have HO : Hid (∀ v, Below wr.heap.size wr v → ∃ x, v = F x) := fun v h => by obtain ⟨x, hx⟩ := onto v h; exact ⟨x, hx.symm⟩
              have cx : ∀ q, (F q).cell? ⟨g, k + j, none⟩ = some (.int .i32 x2.v) := fun q => (HR.out.below (hF q)).get hx2
              have cy : ∀ q, (F q).cell? ⟨g, k + (j - 1), none⟩ = some (.int .i32 y2.v) := fun q => (HR.out.below (hF q)).get hy2
              have m2 : IntKind.i64.wrap ((j : Int) - 1) = ((j - 1 : Nat) : Int) := by rw [IntWalk.i64_in _ ⟨by omega, by omega⟩]; omega
              have t2 : ((j - 1 : Nat) : Int) < (d : Int) := by omega
              clear hx2 hy2
              go_upto_region 11 with fail
              refine region_class F (by kernel_rfl) (by kernel_rfl) (by obtain ⟨x, hx⟩ := HO.out _ (Below.refl _ _).drew; exact ⟨x, hx.symm⟩) ?_
              repeat (go_big_quiet_step (fail))
              refine wpQuiet_nil ?_
              rintro _ ⟨nq, rfl⟩
              obtain ⟨z1, hz1⟩ : ∃ z, F nq = z := ⟨_, rfl⟩
              have RZ : Hid (Row B 21 g n c z1 zs) := HR.out.below (hz1 ▸ HF.out nq)
              have OZ : Hid (One g w z1) := HW.out.trans (One.of (hz1 ▸ HF.out nq) (Nat.le_of_lt HR.out.lt))
              rw [hz1]
              clear hz1 HF HO HR HW hF onto cx cy m2 t2
              by_cases hxy2 : x2.v = y2.v
              · have hb1 : (x2.v != y2.v) = false := by simp [hxy2]
                have hxe : x2 = y2 := Hn.ext' hxy2
                subst hxe
                rw [hb1]
                go_wp2
                go_roundg (d - (j + 1))
                case measure => omega
                case rel => exact ⟨k2, j + 1, zs, rfl, rfl, by go_num, by omega, by omega, hkk, by omega, RZ.out, OZ.out, HC.out.same HX2.out.1 HX2.out.2⟩
              · have hb1 : (x2.v != y2.v) = true := by simp [hxy2]
                rw [hb1]
                have c2 := RZ.out.get HX2.out.1
                have f2 := RZ.out.free k2
                obtain ⟨x9, hx9⟩ : ∃ x, zs[k2]? = some x := ⟨_, List.getElem?_eq_getElem (by have := RZ.out.len; omega)⟩
                have c9 := RZ.out.get hx9
                clear hx9
                have t3 : (k2 : Int) < (n : Int) := by have := HDD.out; omega
                have R3 : Hid (Row B 21 g n c (z1.setCell ⟨g, k2, none⟩ (.int .i32 x2.v)) (zs.set k2 x2)) := RZ.out.set k2 x2
                have O3 : Hid (One g w (z1.setCell ⟨g, k2, none⟩ (.int .i32 x2.v))) := OZ.out.trans (One.set g k2 _ _)
                go_wp2
                go_roundg (d - (j + 1))
                case measure => omega
                case rel => exact ⟨k2 + 1, j + 1, _, rfl, by go_num, by go_num, by omega, by omega, by omega, by omega, R3.out, O3.out, HC.out.more (by omega) HX2.out.1⟩
            · have hjd' : ¬ (j : Int) < (d : Int) := by omega
              have hjd2 : j = d := by omega
              have hkn2 : k2 < n := by have := HDD.out; omega
              have hck : ¬ c = k2 := by omega
              have hck' : ¬ (c : Int) = (k2 : Int) := by omega
              have t4 : (k2 : Int) ≤ (n : Int) := by omega
              have hcl : ∀ ty, (Builtin.clear_ #[59] ty #[.slice (some ⟨g, k2, none⟩) (n - k2) (c - k2)]).run Try.prog wr = .ok (.tuple #[]) (wr.setCells g k2 (List.replicate (n - k2) (.int .i32 0))) :=
                fun ty => Lib.run_clear_slice wr _ _ ty _ Try.underlying59 Try.zeroValue21 rfl rfl g k2 _ _ (by omega) (fun i hi => by rw [HR.out.get (i := k2 + i) (List.getElem?_eq_getElem (by omega))]; rfl) (fun i hi => HR.out.free (k2 + i))
              obtain ⟨ys, hr9, ht9, ho9⟩ := Row.clear (n - k2) k2 wr zs HR.out
              have hfin : Hid (Cmd B g n c w xs (.slice (some ⟨g, 0, none⟩) k2 c) (wr.setCells g k2 (List.replicate (n - k2) (.int .i32 0)))) := by
                refine ⟨k2, ys.take k2, rfl, hr9.front (by omega), HW.out.trans ho9, fun y => ?_, by omega⟩
                rw [ht9]
                have hC := (HC.out.1 y)
                rw [List.drop_eq_nil_of_le (by have := HDD.out; omega)] at hC
                simp at hC
                exact hC.symm
              clear hr9 ht9 ho9
              go_wp2
              go_ret
              exact ⟨_, rfl, hfin.out⟩
        · have hxyb : (x.v == y.v) = false := by simp [hxy]
          rw [hxyb]
          go_wp2
          go_roundg (n - (k + 1))
          case measure => omega
          case rel => exact ⟨k + 1, rfl, by go_num, by omega, by omega, SZ.out⟩
      · have hkn' : ¬ (k : Int) < (n : Int) := by omega
        go_wp2
        go_ret
        exact ⟨_, rfl, HD.out _ HS.out⟩
theorem compact_nil (w : World) : Calls Try.prog 36 #[.slice none 0 0] w fun e w' => e = .returned (.slice none 0 0) ∧ w' = w := by
  go_enter Try.func36, Try.ntmps36
  go_wp2
  go_ret
  exact ⟨rfl, rfl⟩
end Go.Proofs.Ytgijcbipnjmhgab
