import Derived.Test.YtgijcbipnjmhgabGreatSqb
import Derived.Test.YtgijcbipnjmhgabGreatSqc
namespace Go.Proofs.YtgijcbipnjmhgabGreat
open Go.ChangeShapes Go.WideShapes Go.ChangeAt Go.RowKit
set_option linter.unusedVariables false
set_option linter.unusedSimpArgs false

abbrev Leq (xs : List Hn) : Prop := xs.Pairwise fun a b => a.v ≤ b.v
abbrev Ltl (xs : List Hn) : Prop := xs.Pairwise fun a b => a.v < b.v
theorem leq_of {xs : List Hn} (h : Go.Sort.SortedIn ltI 0 xs.length (arr xs)) : Leq xs := by
  rw [Leq, List.pairwise_iff_getElem]
  intro i j hi hj hij
  have := h i j (Nat.zero_le _) hij hj
  rw [arr_get (List.getElem?_eq_getElem hi), arr_get (List.getElem?_eq_getElem hj)] at this
  have h2 := of_decide_eq_false this
  omega
theorem leq_at {xs : List Hn} (h : Leq xs) {i j : Nat} {x y : Hn} (hx : xs[i]? = some x) (hy : xs[j]? = some y) (hij : i ≤ j) : x.v ≤ y.v := by
  obtain ⟨h1, rfl⟩ := List.getElem?_eq_some_iff.1 hx
  obtain ⟨h2, rfl⟩ := List.getElem?_eq_some_iff.1 hy
  by_cases e : i = j
  · subst e; exact Int.le_refl _
  · exact List.pairwise_iff_getElem.1 h i j h1 h2 (by omega)
theorem ltl_take {xs : List Hn} {k : Nat} {x y : Hn} (h : Ltl (xs.take k)) (hk : 1 ≤ k) (hx : xs[k]? = some x) (hy : xs[k - 1]? = some y) (hl : y.v < x.v) : Ltl (xs.take (k + 1)) := by
  obtain ⟨h1, rfl⟩ := List.getElem?_eq_some_iff.1 hx
  rw [List.take_succ_eq_append_getElem h1]
  rw [Ltl, List.pairwise_append]
  refine ⟨h, by simp, fun a ha b hb => ?_⟩
  simp at hb
  subst hb
  obtain ⟨i, hi, rfl⟩ := List.mem_iff_getElem.1 ha
  rw [List.length_take] at hi
  obtain ⟨h2, rfl⟩ := List.getElem?_eq_some_iff.1 hy
  by_cases e : i = k - 1
  · subst e; rw [List.getElem_take]; exact hl
  · have h3 := List.pairwise_iff_getElem.1 h i (k - 1) (by rw [List.length_take]; omega) (by rw [List.length_take]; omega) (by omega)
    rw [List.getElem_take (i := k - 1)] at h3
    omega
/-- in the midst of Compact of a sorted row -/
structure Cst (xs zs : List Hn) (k j : Nat) : Prop where
  dr : zs.drop (j - 1) = xs.drop (j - 1)
  up : Ltl (zs.take k)
  k1 : 1 ≤ k
  kj : k < j
  last : zs[k - 1]? = xs[j - 1]?
theorem Cst.start {xs : List Hn} {k : Nat} {x : Hn} (h : Ltl (xs.take k)) (hk : 1 ≤ k) (h1 : xs[k]? = some x) (h2 : xs[k - 1]? = some x) : Cst xs xs k (k + 1) := ⟨rfl, h, hk, by omega, by rw [h2, Nat.add_sub_cancel, h1]⟩
theorem Cst.get {xs zs : List Hn} {k j : Nat} (h : Cst xs zs k j) {i : Nat} (hi : j ≤ i + 1) : zs[i]? = xs[i]? := by
  have := congrArg (·[i - (j - 1)]?) h.dr
  simp only [List.getElem?_drop] at this
  rwa [show j - 1 + (i - (j - 1)) = i by omega] at this
theorem Cst.same {xs zs : List Hn} {k j : Nat} {x y : Hn} (h : Cst xs zs k j) (hso : Leq xs) (h1 : zs[j]? = some x) (hl : xs[j - 1]? = some x) : Cst xs zs k (j + 1) :=
  ⟨by have := h.kj; have := h.k1; rw [show j + 1 - 1 = (j - 1) + 1 by omega, ← List.drop_drop, ← List.drop_drop, h.dr], h.up, h.k1, by have := h.kj; omega, by rw [h.last, hl, Nat.add_sub_cancel, ← h.get (by omega), h1]⟩
theorem Cst.more {xs zs : List Hn} {k j : Nat} {x y : Hn} (h : Cst xs zs k j) (h1 : zs[j]? = some x) (hy : xs[j - 1]? = some y) (hl : y.v < x.v) : Cst xs (zs.set k x) (k + 1) (j + 1) := by
  have hjl := (List.getElem?_eq_some_iff.1 h1).1
  have hkj := h.kj
  have hk1 := h.k1
  refine ⟨?_, ?_, by omega, by omega, ?_⟩
  · rw [List.drop_set_of_lt (by omega), show j + 1 - 1 = (j - 1) + 1 by omega, ← List.drop_drop, ← List.drop_drop, h.dr]
  · have e1 : (zs.set k x)[k]? = some x := by rw [List.getElem?_set_self (by omega)]
    have e2 : (zs.set k x)[k - 1]? = some y := by rw [List.getElem?_set_ne (by omega), h.last, hy]
    have e3 : Ltl ((zs.set k x).take k) := by rw [List.take_set_of_le (Nat.le_refl _)]; exact h.up
    exact ltl_take e3 h.k1 e1 e2 hl
  · rw [Nat.add_sub_cancel, Nat.add_sub_cancel, List.getElem?_set_self (by omega), ← h.get (by omega), h1]
def CmdS (B g n c : Nat) (w : World) (xs : List Hn) (v : Value) (w' : World) : Prop := ∃ (k : Nat) (ys : List Hn), v = .slice (some ⟨g, 0, none⟩) k c ∧ Row B 21 g k c w' ys ∧ One g w w' ∧ (∀ y, y ∈ ys ↔ y ∈ xs) ∧ k ≤ n ∧ Ltl ys

set_option maxRecDepth 1000000 in
set_option maxHeartbeats 4000000 in
theorem compactS_any (B g n c : Nat) (xs : List Hn) (w : World) (h : Row B 21 g n c w xs) (hn : n ≤ 70368744177664) (hc : n ≤ c) (hso : Leq xs) :
    Calls Tryz.prog 44 #[.slice (some ⟨g, 0, none⟩) n c] w fun e w' => ∃ v, e = .returned v ∧ CmdS B g n c w xs v w' := by
  have HS : Hid (Sp B g n c w xs w xs) := Sp.first h
  have HLQ : Hid (Leq xs) := hso
  have hxl := h.len
  have HD : Hid (∀ z, Sp B g n c w xs z xs → Ltl xs → CmdS B g n c w xs (.slice (some ⟨g, 0, none⟩) n c) z) := fun z hz hlt => ⟨n, xs, rfl, hz.row, hz.one, fun y => Iff.rfl, Nat.le_refl _, hlt⟩
  clear h hso
  by_cases h2 : n < 2
  · have h2' : (n : Int) < 2 := by omega
    go_enter Tryz.func44, Tryz.ntmps44
    go_wp2
    go_ret
    exact ⟨_, rfl, HD.out _ HS.out (by match xs, hxl with | [], _ => simp | [x], _ => simp | x :: y :: r, hl => simp at hl; omega)⟩
  · have h2' : ¬ (n : Int) < 2 := by omega
    go_enter Tryz.func44, Tryz.ntmps44
    go_wp2
    go_loopg [3] (n - 1) (fun gk si wr => ∃ k : Nat, gk = n - k ∧ si = .int .i64 (k : Int) ∧ 1 ≤ k ∧ k ≤ n ∧ Sp B g n c w xs wr xs ∧ Ltl (xs.take k))
    case atStart => exact ⟨1, rfl, rfl, by omega, by omega, HS.out, by match xs with | [] => simp | x :: r => simp⟩
    case round =>
      obtain ⟨k, hgk, rfl, hk1, hk2, hS, hup⟩ := hrel
      have HUP : Hid (Ltl (xs.take k)) := hup
      clear hup
      clear HS
      have HS : Hid (Sp B g n c w xs wr xs) := hS
      clear hS
      by_cases hkn : k < n
      · have hkn' : (k : Int) < (n : Int) := by omega
        obtain ⟨x, hx⟩ := HS.out.at (i := k) (by omega)
        obtain ⟨y, hy⟩ := HS.out.at (i := k - 1) (by omega)
        have HX : Hid (xs[k]? = some x ∧ xs[k - 1]? = some y) := ⟨hx, hy⟩
        obtain ⟨X, F, hX, hF, onto⟩ := class_of (fun v => Below wr.heap.size wr v) (Below.refl _ wr)
        have HF : Hid (∀ y, Below wr.heap.size wr (F y)) := hF
        have HO : Hid (∀ v, Below wr.heap.size wr v → ∃ x, v = F x) := fun v h => by obtain ⟨x, hx⟩ := onto v h; exact ⟨x, hx.symm⟩
        have cx : ∀ q, (F q).cell? ⟨g, k, none⟩ = some (.int .i32 x.v) := fun q => (HS.out.below (hF q)).row.get hx
        have cy : ∀ q, (F q).cell? ⟨g, k - 1, none⟩ = some (.int .i32 y.v) := fun q => (HS.out.below (hF q)).row.get hy
        have m1 : IntKind.i64.wrap ((k : Int) - 1) = ((k - 1 : Nat) : Int) := by rw [IntWalk.i64_in _ ⟨by omega, by omega⟩]; omega
        have t1 : ((k - 1 : Nat) : Int) < (n : Int) := by omega
        clear hx hy
        go_upto_region 6 with fail
        refine region_class F (by kernel_rfl) (by kernel_rfl) (by obtain ⟨x, hx⟩ := HO.out _ (Below.refl _ _).drew; exact ⟨x, hx.symm⟩) ?_
        repeat (go_big_quiet_step (fail))
        refine wpQuiet_nil ?_
        rintro _ ⟨nq, rfl⟩
        obtain ⟨z0, hz0⟩ : ∃ z, F nq = z := ⟨_, rfl⟩
        have SZ : Hid (Sp B g n c w xs z0 xs) := HS.out.below (hz0 ▸ HF.out nq)
        rw [hz0]
        clear hz0 HF HO HS hF onto cx cy
        by_cases hxy : x.v = y.v
        · have hxyb : (x.v == y.v) = true := by simp [hxy]
          have hxe : x = y := Hn.ext' hxy
          subst hxe
          have HC : Hid (Cmp xs xs k (k + 1) ∧ Cst xs xs k (k + 1)) := ⟨Cmp.start hk1 HX.out.1 HX.out.2, Cst.start HUP.out hk1 HX.out.1 HX.out.2⟩
          have hck : ¬ c = k := by omega
          have hck' : ¬ (c : Int) = (k : Int) := by omega
          obtain ⟨k0, hk0⟩ : ∃ k0 : Nat, k = k0 := ⟨_, rfl⟩
          have HK0 : Hid (k = k0) := hk0
          clear hk0
          rw [hxyb]
          go_wp2
          obtain ⟨d, hd⟩ : ∃ d : Nat, n - k = d := ⟨_, rfl⟩
          rw [hd]
          have HDD : Hid (n - k = d) := hd
          have hdn : k + d ≤ n := by omega
          clear hd hck hck' m1 t1 hxyb HK0
          go_loopg [3, 5] (d - 1) (fun g2 s3 s5 wj => ∃ (k2 j : Nat) (zs : List Hn), g2 = d - j ∧ s3 = .int .i64 (k2 : Int) ∧ s5 = .int .i64 (j : Int) ∧ 1 ≤ j ∧ j ≤ d ∧ k ≤ k2 ∧ k2 + 1 ≤ k + j ∧ Row B 21 g n c wj zs ∧ One g w wj ∧ Cmp xs zs k2 (k + j) ∧ Cst xs zs k2 (k + j))
          case atStart => exact ⟨k, 1, xs, rfl, rfl, rfl, Nat.le_refl _, by have := HDD.out; omega, Nat.le_refl _, Nat.le_refl _, SZ.out.row, SZ.out.one, HC.out.1, HC.out.2⟩
          case round =>
            obtain ⟨k2, j, zs, hg2, rfl, rfl, hj1, hj2, hkk, hkj, hR, hO, hC⟩ := hrel
            clear SZ HC
            have HR : Hid (Row B 21 g n c wr zs) := hR
            have HW : Hid (One g w wr) := hO
            have HC : Hid (Cmp xs zs k2 (k + j) ∧ Cst xs zs k2 (k + j)) := hC
            have hzl := hR.len
            clear hR hO hC
            by_cases hjd : j < d
            · have hjd' : (j : Int) < (d : Int) := by omega
              obtain ⟨x2, hx2⟩ : ∃ x, zs[k + j]? = some x := ⟨_, List.getElem?_eq_getElem (by have := HDD.out; omega)⟩
              obtain ⟨y2, hy2⟩ : ∃ x, zs[k + (j - 1)]? = some x := ⟨_, List.getElem?_eq_getElem (by have := HDD.out; omega)⟩
              have HX2 : Hid (zs[k + j]? = some x2 ∧ zs[k + j - 1]? = some y2) := ⟨hx2, by rw [← hy2]; congr 1; omega⟩
              obtain ⟨X, F, hX, hF, onto⟩ := class_of (fun v => Below wr.heap.size wr v) (Below.refl _ wr)
              have HF : Hid (∀ y, Below wr.heap.size wr (F y)) := hF
              have HO : Hid (∀ v, Below wr.heap.size wr v → ∃ x, v = F x) := fun v h => by obtain ⟨x, hx⟩ := onto v h; exact ⟨x, hx.symm⟩
              have cx : ∀ q, (F q).cell? ⟨g, k + j, none⟩ = some (.int .i32 x2.v) := fun q => (HR.out.below (hF q)).get hx2
              have cy : ∀ q, (F q).cell? ⟨g, k + (j - 1), none⟩ = some (.int .i32 y2.v) := fun q => (HR.out.below (hF q)).get hy2
              have m2 : IntKind.i64.wrap ((j : Int) - 1) = ((j - 1 : Nat) : Int) := by rw [IntWalk.i64_in _ ⟨by omega, by omega⟩]; omega
              have t2 : ((j - 1 : Nat) : Int) < (d : Int) := by omega
              have HXJ : Hid (xs[k + j - 1]? = some y2) := by
                unfold Hid; rw [← HC.out.2.get (by omega)]; exact HX2.out.2
              have HLE : Hid (y2.v ≤ x2.v) := leq_at HLQ.out HXJ.out (by rw [← HC.out.2.get (i := k + j) (by omega)]; exact hx2) (by omega)
              clear hx2 hy2
              go_upto_region 11 with fail
              refine region_class F (by kernel_rfl) (by kernel_rfl) (by obtain ⟨x, hx⟩ := HO.out _ (Below.refl _ _).drew; exact ⟨x, hx.symm⟩) ?_
              repeat (go_big_quiet_step (fail))
              refine wpQuiet_nil ?_
              rintro _ ⟨nq, rfl⟩
              obtain ⟨z1, hz1⟩ : ∃ z, F nq = z := ⟨_, rfl⟩
              have RZ : Hid (Row B 21 g n c z1 zs) := HR.out.below (hz1 ▸ HF.out nq)
              have OZ : Hid (One g w z1) := HW.out.trans (One.of (hz1 ▸ HF.out nq) (Nat.le_of_lt HR.out.lt))
              rw [hz1]
              clear hz1 HF HO HR HW hF onto cx cy m2 t2
              by_cases hxy2 : x2.v = y2.v
              · have hb1 : (x2.v != y2.v) = false := by simp [hxy2]
                have hxe : x2 = y2 := Hn.ext' hxy2
                subst hxe
                rw [hb1]
                go_wp2
                go_roundg (d - (j + 1))
                case measure => omega
                case rel => exact ⟨k2, j + 1, zs, rfl, rfl, by go_num, by omega, by omega, hkk, by omega, RZ.out, OZ.out, HC.out.1.same HX2.out.1 HX2.out.2, HC.out.2.same (y := x2) HLQ.out HX2.out.1 HXJ.out⟩
              · have hb1 : (x2.v != y2.v) = true := by simp [hxy2]
                rw [hb1]
                have c2 := RZ.out.get HX2.out.1
                have f2 := RZ.out.free k2
                obtain ⟨x9, hx9⟩ : ∃ x, zs[k2]? = some x := ⟨_, List.getElem?_eq_getElem (by have := RZ.out.len; omega)⟩
                have c9 := RZ.out.get hx9
                clear hx9
                have t3 : (k2 : Int) < (n : Int) := by have := HDD.out; omega
                have R3 : Hid (Row B 21 g n c (z1.setCell ⟨g, k2, none⟩ (.int .i32 x2.v)) (zs.set k2 x2)) := RZ.out.set k2 x2
                have O3 : Hid (One g w (z1.setCell ⟨g, k2, none⟩ (.int .i32 x2.v))) := OZ.out.trans (One.set g k2 _ _)
                go_wp2
                go_roundg (d - (j + 1))
                case measure => omega
                case rel => exact ⟨k2 + 1, j + 1, _, rfl, by go_num, by go_num, by omega, by omega, by omega, by omega, R3.out, O3.out, HC.out.1.more (by omega) HX2.out.1, HC.out.2.more HX2.out.1 HXJ.out (by have := HLE.out; omega)⟩
            · have hjd' : ¬ (j : Int) < (d : Int) := by omega
              have hjd2 : j = d := by omega
              have hkn2 : k2 < n := by have := HDD.out; omega
              have hck : ¬ c = k2 := by omega
              have hck' : ¬ (c : Int) = (k2 : Int) := by omega
              have t4 : (k2 : Int) ≤ (n : Int) := by omega
              have hcl : ∀ ty, (Builtin.clear_ #[76] ty #[.slice (some ⟨g, k2, none⟩) (n - k2) (c - k2)]).run Tryz.prog wr = .ok (.tuple #[]) (wr.setCells g k2 (List.replicate (n - k2) (.int .i32 0))) :=
                fun ty => Lib.run_clear_slice wr _ _ ty _ Tryz.underlying76 Tryz.zeroValue21 rfl rfl g k2 _ _ (by omega) (fun i hi => by rw [HR.out.get (i := k2 + i) (List.getElem?_eq_getElem (by omega))]; rfl) (fun i hi => HR.out.free (k2 + i))
              obtain ⟨ys, hr9, ht9, ho9⟩ := Row.clear (n - k2) k2 wr zs HR.out
              have hfin : Hid (CmdS B g n c w xs (.slice (some ⟨g, 0, none⟩) k2 c) (wr.setCells g k2 (List.replicate (n - k2) (.int .i32 0)))) := by
                refine ⟨k2, ys.take k2, rfl, hr9.front (by omega), HW.out.trans ho9, fun y => ?_, by omega, by rw [ht9]; exact HC.out.2.up⟩
                rw [ht9]
                have hC := (HC.out.1.1 y)
                rw [List.drop_eq_nil_of_le (by have := HDD.out; omega)] at hC
                simp at hC
                exact hC.symm
              clear hr9 ht9 ho9
              go_wp2
              go_ret
              exact ⟨_, rfl, hfin.out⟩
        · have hxyb : (x.v == y.v) = false := by simp [hxy]
          rw [hxyb]
          go_wp2
          go_roundg (n - (k + 1))
          case measure => omega
          case rel => exact ⟨k + 1, rfl, by go_num, by omega, by omega, SZ.out, ltl_take HUP.out hk1 HX.out.1 HX.out.2 (by have := leq_at HLQ.out HX.out.2 HX.out.1 (by omega); omega)⟩
      · have hkn' : ¬ (k : Int) < (n : Int) := by omega
        go_wp2
        go_ret
        exact ⟨_, rfl, HD.out _ HS.out (by have := HUP.out; rwa [List.take_of_length_le (by omega)] at this)⟩
end Go.Proofs.YtgijcbipnjmhgabGreat

namespace Go.Proofs.YtgijcbipnjmhgabGreat
open Go.ChangeShapes Go.WideShapes Go.ChangeAt Go.RowKit
set_option linter.unusedVariables false
set_option linter.unusedSimpArgs false

/-- what a sort leaves: the same things, rising -/
structure Ris (B g n c : Nat) (w : World) (xs : List Hn) (z : World) (zs : List Hn) : Prop extends Sp B g n c w xs z zs where
  up : Leq zs
theorem ris_of {B g n c : Nat} {w z : World} {xs zs : List Hn} (hx : xs.length = n) (h : Si B g n c 0 n w xs z zs) (hs : Go.Sort.SortedIn ltI 0 n (arr zs)) : Ris B g n c w xs z zs :=
  ⟨⟨arr_perm (by rw [hx]; exact h.perm), h.row, h.one⟩, leq_of (by rw [h.row.len]; exact hs)⟩
theorem sortS_any (B g n c : Nat) (xs : List Hn) (w : World) (h : Row B 21 g n c w xs) (hn : n ≤ 70368744177664) :
    Calls Tryz.prog 70 #[.slice (some ⟨g, 0, none⟩) n c] w fun e w' => (∃ x, e = .returned x) ∧ ∃ ys, Ris B g n c w xs w' ys := by
  obtain ⟨k, hk⟩ : ∃ k : Nat, Lib.bitLen n = k := ⟨_, rfl⟩
  have hk2 := bl_le n hn
  rw [hk] at hk2
  have hxl := h.len
  have HL := fun w => Tryz.bits_Len (n : Int) w (by omega) (by omega)
  rw [Int.toNat_natCast, hk] at HL
  have e10 : IntKind.u64.wrap (n : Int) = (n : Int) := by rw [IntKind.wrap_u64]; omega
  have PQ : Hid (Calls Tryz.prog 78 #[.slice (some ⟨g, 0, none⟩) n c, .int .i64 0, .int .i64 (n : Int), .int .i64 (k : Int)] w fun e w' => (∃ x, e = .returned x) ∧ ∃ ys, Ris B g n c w xs w' ys) := (pdqS_any n B g n c 0 n k xs w h (.inl rfl) (by omega) (by omega) (by omega) hk2 hn).mono (fun e w' ⟨h1, ys, h2, h3⟩ => ⟨h1, ys, ris_of hxl h2 h3⟩)
  clear hk hxl
  go_enter Tryz.func70, Tryz.ntmps70
  go_wp2_with (first
    | (go_at_call 77; (with_reducible refine (HL _).mono ?_); rintro e w1 ⟨rfl, hw⟩; have hw2 := hw.symm; clear hw; subst hw2)
    | (go_at_call 78; (with_reducible refine PQ.out.mono ?_); rintro e v1 ⟨⟨x, rfl⟩, ys, hs1⟩; have S1 : Hid (Ris B g n c w xs v1 ys) := hs1; clear hs1))
  go_end0
  exact ⟨⟨_, rfl⟩, ys, S1.out⟩
theorem risingS_any (B g n c : Nat) (xs : List Hn) (w : World) (h : Row B 21 g n c w xs) (hn : n ≤ 70368744177664) :
    Calls Tryz.prog 45 #[.slice (some ⟨g, 0, none⟩) n c] w fun e w' => e = .returned (.slice (some ⟨g, 0, none⟩) n c) ∧ ∃ ys, Ris B g n c w xs w' ys := by
  have HR : Hid (Row B 21 g n c w xs) := h
  clear h
  go_enter Tryz.func45, Tryz.ntmps45
  go_wp2_with (go_at_call 70; (with_reducible refine (sortS_any B g n c xs w HR.out hn).mono ?_); rintro e v1 ⟨⟨x, rfl⟩, ys, hs1⟩; have S1 : Hid (Ris B g n c w xs v1 ys) := hs1; clear hs1)
  go_ret
  exact ⟨rfl, ys, S1.out⟩
end Go.Proofs.YtgijcbipnjmhgabGreat
