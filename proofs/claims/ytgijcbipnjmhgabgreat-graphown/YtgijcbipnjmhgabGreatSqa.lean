import Derived.Test.YtgijcbipnjmhgabGreatSq9
namespace Go.Proofs.YtgijcbipnjmhgabGreat
open Go.ChangeShapes Go.WideShapes Go.ChangeAt Go.RowKit
set_option linter.unusedVariables false
set_option linter.unusedSimpArgs false

/-- the row at z; nothing else has changed since w -/
structure Sw (B g n c : Nat) (w z : World) (zs : List Hn) : Prop where
  row : Row B 21 g n c z zs
  one : One g w z
theorem Sw.first {B g n c : Nat} {w : World} {xs : List Hn} (h : Row B 21 g n c w xs) : Sw B g n c w w xs := ⟨h, One.refl _ _⟩
theorem Sw.below {B g n c : Nat} {w z z' : World} {zs : List Hn} (h : Sw B g n c w z zs) (hb : Below z.heap.size z z') : Sw B g n c w z' zs := ⟨h.row.below hb, h.one.trans (One.of hb (Nat.le_of_lt h.row.lt))⟩
theorem Sw.at {B g n c : Nat} {w z : World} {zs : List Hn} (h : Sw B g n c w z zs) {i : Nat} (hi : i < n) : ∃ x, zs[i]? = some x := ⟨_, List.getElem?_eq_getElem (by rw [h.row.len]; exact hi)⟩
theorem Sw.swap {B g n c : Nat} {w z : World} {zs : List Hn} (h : Sw B g n c w z zs) (i j : Nat) (x y : Hn) : Sw B g n c w ((z.setCell ⟨g, i, none⟩ (.int .i32 y.v)).setCell ⟨g, j, none⟩ (.int .i32 x.v)).drew (swp zs i j x y) :=
  ⟨((h.row.set i y).set j x).below (Below.refl _ _).drew, ((h.one.trans (One.set g i _ _)).trans (One.set g j _ _)).trans (One.of (Below.refl _ _).drew (by have := h.row.lt; simp; omega))⟩
theorem scan_on {b i : Nat} {zs : List Hn} {x y : Hn} (hi : i < b) (hx : zs[i]? = some x) (hy : zs[i - 1]? = some y) (h : ¬ x.v < y.v) : Go.Sort.scanSorted ltI (arr zs) b i = Go.Sort.scanSorted ltI (arr zs) b (i + 1) := by
  rw [Go.Sort.scanSorted, arr_get hx, arr_get hy, ltI_not h, if_pos (by simp [hi])]
theorem scan_off {b i : Nat} {zs : List Hn} {x y : Hn} (hx : zs[i]? = some x) (hy : zs[i - 1]? = some y) (h : x.v < y.v) : Go.Sort.scanSorted ltI (arr zs) b i = i := by
  rw [Go.Sort.scanSorted, arr_get hx, arr_get hy, ltI_of h, if_neg (by simp)]
theorem scan_end {b i : Nat} {d : Array Int} (hi : ¬ i < b) : Go.Sort.scanSorted ltI d b i = i := by
  rw [Go.Sort.scanSorted, if_neg (by simp [hi])]
theorem pin_open (a b i : Nat) (d : Array Int) (k : Nat) (hk : k < 5) : Go.Sort.partialIns ltI a b (5 - k) i d = (let i := Go.Sort.scanSorted ltI d b i
    if i = b then (d, true) else if b - a < 50 then (d, false) else Go.Sort.partialIns ltI a b (5 - (k + 1)) i (Go.Sort.fixUp ltI b i (Go.Sort.fixDown ltI a i (Go.Sort.swp d i (i - 1))))) := by
  rw [show 5 - k = (5 - (k + 1)) + 1 by omega]
  exact Go.Sort.partialIns_succ a b _ i d
theorem pin_next {a b i k : Nat} {d : Array Int} (hk : k < 5) (h : Go.Sort.scanSorted ltI d b i = Go.Sort.scanSorted ltI d b (i + 1)) : Go.Sort.partialIns ltI a b (5 - k) i d = Go.Sort.partialIns ltI a b (5 - k) (i + 1) d := by
  rw [pin_open a b i d k hk, pin_open a b (i + 1) d k hk, h]
theorem pin_all {a b i k : Nat} {d : Array Int} (hk : k < 5) (h : Go.Sort.scanSorted ltI d b i = i) (hb : i = b) : Go.Sort.partialIns ltI a b (5 - k) i d = (d, true) := by
  rw [pin_open a b i d k hk, h]; simp only; rw [if_pos hb]
theorem pin_short {a b i k : Nat} {d : Array Int} (hk : k < 5) (h : Go.Sort.scanSorted ltI d b i = i) (hb : i ≠ b) (hl : b - a < 50) : Go.Sort.partialIns ltI a b (5 - k) i d = (d, false) := by
  rw [pin_open a b i d k hk, h]; simp only; rw [if_neg hb, if_pos hl]
theorem pin_more {a b i k : Nat} {d : Array Int} (hk : k < 5) (h : Go.Sort.scanSorted ltI d b i = i) (hb : i ≠ b) (hl : ¬ b - a < 50) : Go.Sort.partialIns ltI a b (5 - k) i d = Go.Sort.partialIns ltI a b (5 - (k + 1)) i (Go.Sort.fixUp ltI b i (Go.Sort.fixDown ltI a i (Go.Sort.swp d i (i - 1)))) := by
  rw [pin_open a b i d k hk, h]; simp only; rw [if_neg hb, if_neg hl]
theorem shd_on {j : Nat} {zs : List Hn} {x y : Hn} (hx : zs[j]? = some x) (hy : zs[j - 1]? = some y) (hj : 1 ≤ j) (h : x.v < y.v) : Go.Sort.shiftDown ltI j (arr zs) = Go.Sort.shiftDown ltI (j - 1) (arr (swp zs j (j - 1) x y)) := by
  obtain ⟨j, rfl⟩ : ∃ k, j = k + 1 := ⟨j - 1, by omega⟩
  simp only [Nat.add_sub_cancel] at hy ⊢
  rw [arr_swp hx hy, Go.Sort.shiftDown, arr_get hx, arr_get hy, ltI_of h, if_neg (by decide)]
theorem shd_off {j : Nat} {zs : List Hn} {x y : Hn} (hx : zs[j]? = some x) (hy : zs[j - 1]? = some y) (h : ¬ x.v < y.v) : Go.Sort.shiftDown ltI j (arr zs) = arr zs := by
  cases j with
  | zero => rfl
  | succ j =>
    simp only [Nat.add_sub_cancel] at hy
    rw [Go.Sort.shiftDown, arr_get hx, arr_get hy, ltI_not h, if_pos (by decide)]
theorem shd_end {j : Nat} {d : Array Int} (h : ¬ 1 ≤ j) : Go.Sort.shiftDown ltI j d = d := by
  rw [show j = 0 by omega]; rfl
theorem shu_on {b j : Nat} {zs : List Hn} {x y : Hn} (hx : zs[j]? = some x) (hy : zs[j - 1]? = some y) (hj : j < b) (h : x.v < y.v) : Go.Sort.shiftUp ltI b j (arr zs) = Go.Sort.shiftUp ltI b (j + 1) (arr (swp zs j (j - 1) x y)) := by
  rw [arr_swp hx hy, Go.Sort.shiftUp, if_pos hj, arr_get hx, arr_get hy, ltI_of h, if_neg (by decide)]
theorem shu_off {b j : Nat} {zs : List Hn} {x y : Hn} (hx : zs[j]? = some x) (hy : zs[j - 1]? = some y) (hj : j < b) (h : ¬ x.v < y.v) : Go.Sort.shiftUp ltI b j (arr zs) = arr zs := by
  rw [Go.Sort.shiftUp, if_pos hj, arr_get hx, arr_get hy, ltI_not h, if_pos (by decide)]
theorem shu_end {b j : Nat} {d : Array Int} (h : ¬ j < b) : Go.Sort.shiftUp ltI b j d = d := by rw [Go.Sort.shiftUp, if_neg h]

set_option maxRecDepth 1000000 in
set_option maxHeartbeats 8000000 in
theorem pinsS_any (B g n c a b : Nat) (xs : List Hn) (w : World) (h : Row B 21 g n c w xs) (hab : a + 1 ≤ b) (hb : b ≤ n) (hn : n ≤ 70368744177664) :
    Calls Tryz.prog 96 #[.slice (some ⟨g, 0, none⟩) n c, .int .i64 (a : Int), .int .i64 (b : Int)] w fun e w' => ∃ (t : Bool), e = .returned (.bool t) ∧ ∃ ys, (arr ys, t) = Go.Sort.partialInsertionSort ltI (arr xs) a b ∧ Sw B g n c w w' ys := by
  have HS : Hid (Sw B g n c w w xs) := Sw.first h
  have HQ : Hid (True) := trivial
  obtain ⟨l, hl⟩ : ∃ l : Nat, b - a = l := ⟨_, rfl⟩
  have kl : IntKind.i64.wrap ((b : Int) - (a : Int)) = (l : Int) := by rw [IntWalk.i64_in _ ⟨by omega, by omega⟩]; omega
  clear h
  go_enter Tryz.func96, Tryz.ntmps96
  go_wp2
  go_loopg [7, 8] 5 (fun gk si sk wr => ∃ i k : Nat, gk = 5 - k ∧ si = .int .i64 (i : Int) ∧ sk = .int .i64 (k : Int) ∧ k ≤ 5 ∧ a + 1 ≤ i ∧ i ≤ b ∧ ∃ zs, Sw B g n c w wr zs ∧ Go.Sort.partialIns ltI a b (5 - k) i (arr zs) = Go.Sort.partialInsertionSort ltI (arr xs) a b)
  case atStart => exact ⟨a + 1, 0, rfl, by go_num, rfl, by omega, by omega, by omega, _, HS.out, rfl⟩
  case round =>
    obtain ⟨i0, k, hgk0, rfl, rfl, hk, hai0, hib0, zs, hS, hq⟩ := hrel
    clear HS HQ
    have HS : Hid (Sw B g n c w wr zs) := hS
    have HQ : Hid (Go.Sort.partialIns ltI a b (5 - k) i0 (arr zs) = Go.Sort.partialInsertionSort ltI (arr xs) a b) := hq
    clear hS hq
    by_cases hk5 : k < 5
    · have hk5' : (k : Int) < 5 := by omega
      go_upto_block 2 with fail
      go_cut [7] (fun s wc => ∃ i : Nat, s = .int .i64 (i : Int) ∧ a + 1 ≤ i ∧ i ≤ b ∧ Sw B g n c w wc zs ∧ Go.Sort.partialIns ltI a b (5 - k) i (arr zs) = Go.Sort.partialInsertionSort ltI (arr xs) a b ∧ Go.Sort.scanSorted ltI (arr zs) b i = i)
      case first =>
        go_wp2_with fail
        go_loopg [7] (b - i0) (fun gk s wr => ∃ i : Nat, gk = b - i ∧ s = .int .i64 (i : Int) ∧ a + 1 ≤ i ∧ i ≤ b ∧ Sw B g n c w wr zs ∧ Go.Sort.partialIns ltI a b (5 - k) i (arr zs) = Go.Sort.partialInsertionSort ltI (arr xs) a b)
        case atStart => exact ⟨i0, rfl, rfl, by omega, by omega, HS.out, HQ.out⟩
        case round =>
          obtain ⟨i, hgk, rfl, hai, hib, hS, hq⟩ := hrel
          clear HS HQ
          have HS : Hid (Sw B g n c w wr zs) := hS
          have HQ : Hid (Go.Sort.partialIns ltI a b (5 - k) i (arr zs) = Go.Sort.partialInsertionSort ltI (arr xs) a b) := hq
          clear hS hq
          have m1 : IntKind.i64.wrap ((i : Int) - 1) = ((i - 1 : Nat) : Int) := by rw [IntWalk.i64_in _ ⟨by omega, by omega⟩]; omega
          obtain ⟨X, F, hX, hF, onto⟩ := class_of (fun v => Below wr.heap.size wr v) (Below.refl _ wr)
          have HF : Hid (∀ y, Below wr.heap.size wr (F y)) := hF
          have HO : Hid (∀ v, Below wr.heap.size wr v → ∃ x, v = F x) := fun v h => by obtain ⟨x, hx⟩ := onto v h; exact ⟨x, hx.symm⟩
          by_cases hgd : i < b
          · have hgd' : (i : Int) < (b : Int) := by omega
            obtain ⟨xp, hxp⟩ := HS.out.at (i := i) (by omega)
            obtain ⟨xq, hxq⟩ := HS.out.at (i := (i - 1)) (by omega)
            have cp : ∀ q, (F q).cell? ⟨g, i, none⟩ = some (.int .i32 xp.v) := fun q => (HS.out.below (hF q)).row.get hxp
            have cq : ∀ q, (F q).cell? ⟨g, (i - 1), none⟩ = some (.int .i32 xq.v) := fun q => (HS.out.below (hF q)).row.get hxq
            have tp : ((i : Nat) : Int) < (n : Int) := by omega
            have tq : (((i - 1) : Nat) : Int) < (n : Int) := by omega
            have HXP : Hid (zs[i]? = some xp ∧ zs[(i - 1)]? = some xq) := ⟨hxp, hxq⟩
            clear hxp hxq
            go_upto_region 5 with fail
            refine region_class F (by kernel_rfl) (by kernel_rfl) (by obtain ⟨x, hx⟩ := HO.out _ (Below.refl _ _).drew; exact ⟨x, hx.symm⟩) ?_
            repeat (go_big_quiet_step (first | (go_at_call 97; with_reducible refine (less_any xp.v xq.v _).mono ?_; rintro e z5 ⟨rfl, rfl⟩; exact ⟨rfl, HO.out _ (HF.out _)⟩)))
            clear cp cq
            refine wpQuiet_nil ?_
            rintro _ ⟨nq, rfl⟩
            obtain ⟨z0, hz0⟩ : ∃ z, F nq = z := ⟨_, rfl⟩
            have hzb : Below wr.heap.size wr z0 := hz0 ▸ HF.out nq
            have SZ := hidI' (HS.out.below hzb)
            rw [hz0]
            clear hz0 hzb HF HO HS hF onto
            by_cases hlt : xp.v < xq.v
            · rw [show decide (xp.v < xq.v) = true from decide_eq_true hlt]
              go_wp2_with fail
              go_meet
              exact ⟨i, rfl, hai, hib, SZ.out, HQ.out, scan_off HXP.out.1 HXP.out.2 (by omega)⟩
            · rw [show decide (xp.v < xq.v) = false from decide_eq_false hlt]
              go_wp2
              go_roundg (b - (i + 1))
              case measure => omega
              case rel => exact ⟨i + 1, rfl, by go_num, by omega, by omega, SZ.out, (pin_next (by omega) (scan_on (by omega) HXP.out.1 HXP.out.2 (by omega))).symm.trans HQ.out⟩
          · have hgd' : ¬ (i : Int) < (b : Int) := by omega
            go_upto_region 5 with fail
            refine region_class F (by kernel_rfl) (by kernel_rfl) (by obtain ⟨x, hx⟩ := HO.out _ (Below.refl _ _).drew; exact ⟨x, hx.symm⟩) ?_
            repeat (go_big_quiet_step (fail))
            refine wpQuiet_nil ?_
            rintro _ ⟨nq, rfl⟩
            obtain ⟨z0, hz0⟩ : ∃ z, F nq = z := ⟨_, rfl⟩
            have hzb : Below wr.heap.size wr z0 := hz0 ▸ HF.out nq
            have SZ := hidI' (HS.out.below hzb)
            rw [hz0]
            clear hz0 hzb HF HO HS hF onto
            go_wp2_with fail
            go_meet
            exact ⟨i, rfl, hai, hib, SZ.out, HQ.out, scan_end (by omega)⟩
      case rest =>
        obtain ⟨i, rfl, hai, hib, hS, hq, hsc⟩ := hcut
        clear HS HQ
        have HS : Hid (Sw B g n c w wc zs) := hS
        have HQ : Hid (Go.Sort.partialIns ltI a b (5 - k) i (arr zs) = Go.Sort.partialInsertionSort ltI (arr xs) a b) := hq
        have HC : Hid (Go.Sort.scanSorted ltI (arr zs) b i = i) := hsc
        clear hsc
        clear hS hq
        by_cases hib2 : i = b
        · have hib3 : (i : Int) = (b : Int) := by omega
          have hib4 : ((i : Int) == (b : Int)) = true := by simp; omega
          have HE : Hid ((arr zs, true) = Go.Sort.partialInsertionSort ltI (arr xs) a b) := by unfold Hid; rw [← HQ.out, pin_all (by omega) HC.out hib2]
          go_wp2
          go_ret
          first
            | exact ⟨true, rfl, zs, HE.out, HS.out⟩
            | exact .inl ⟨rfl, zs, HE.out, HS.out⟩
            | exact .inr ⟨rfl, zs, HE.out, HS.out⟩
        · have hib3 : ¬ (i : Int) = (b : Int) := by omega
          have hib4 : ((i : Int) == (b : Int)) = false := by simp; omega
          by_cases h50 : l < 50
          · have h50' : (l : Int) < 50 := by omega
            have HE : Hid ((arr zs, false) = Go.Sort.partialInsertionSort ltI (arr xs) a b) := by unfold Hid; rw [← HQ.out, pin_short (by omega) HC.out hib2 (by omega)]
            go_wp2
            go_ret
            first
              | exact ⟨false, rfl, zs, HE.out, HS.out⟩
              | exact .inl ⟨rfl, zs, HE.out, HS.out⟩
              | exact .inr ⟨rfl, zs, HE.out, HS.out⟩
          · have h50' : ¬ (l : Int) < 50 := by omega
            have HM : Hid (Go.Sort.partialIns ltI a b (5 - (k + 1)) i (Go.Sort.fixUp ltI b i (Go.Sort.fixDown ltI a i (Go.Sort.swp (arr zs) i (i - 1)))) = Go.Sort.partialInsertionSort ltI (arr xs) a b) := by
              unfold Hid; rw [← pin_more (by omega) HC.out hib2 (by omega)]; exact HQ.out
            have m1 : IntKind.i64.wrap ((i : Int) - 1) = ((i - 1 : Nat) : Int) := by rw [IntWalk.i64_in _ ⟨by omega, by omega⟩]; omega
            go_upto_region 11 with fail
            go_cut [] (fun wc => ∃ ys, Sw B g n c w wc ys ∧ Go.Sort.partialIns ltI a b (5 - (k + 1)) i (Go.Sort.fixUp ltI b i (Go.Sort.fixDown ltI a i (arr ys))) = Go.Sort.partialInsertionSort ltI (arr xs) a b)
            case first =>
              obtain ⟨xi, hxi⟩ := HS.out.at (i := i) (by omega)
              obtain ⟨xj, hxj⟩ := HS.out.at (i := (i - 1)) (by omega)
              have HX : Hid (zs[i]? = some xi ∧ zs[(i - 1)]? = some xj) := ⟨hxi, hxj⟩
              have ti : ((i : Nat) : Int) < (n : Int) := by omega
              have tj : (((i - 1) : Nat) : Int) < (n : Int) := by omega
              have cx := HS.out.row.get hxi
              have cy := HS.out.row.get hxj
              have f1 := HS.out.row.free i
              have f2 := HS.out.row.free (i - 1)
              clear hxi hxj
              have hne2 : (i - 1) ≠ i := by omega
              have hne3 : i ≠ (i - 1) := fun e => hne2 e.symm
              go_big_region
              go_wp2_with fail
              go_meet
              exact ⟨_, ⟨HS.out.swap i (i - 1) xi xj, by rw [arr_swp HX.out.1 HX.out.2]; exact HM.out⟩⟩
            case rest =>
              obtain ⟨zl, h8, h9⟩ := hcut
              clear HS HQ HM
              obtain ⟨zs, rfl⟩ : ∃ zs, zs = zl := ⟨_, rfl⟩
              have HS : Hid (Sw B g n c w wc zs) := h8
              have HQ : Hid (Go.Sort.partialIns ltI a b (5 - (k + 1)) i (Go.Sort.fixUp ltI b i (Go.Sort.fixDown ltI a i (arr zs))) = Go.Sort.partialInsertionSort ltI (arr xs) a b) := h9
              clear h8 h9
              clear m1
              obtain ⟨d1, hd1⟩ : ∃ d : Nat, i - a = d := ⟨_, rfl⟩
              have kd1 : IntKind.i64.wrap ((i : Int) - (a : Int)) = (d1 : Int) := by rw [IntWalk.i64_in _ ⟨by omega, by omega⟩]; omega
              have m1 : IntKind.i64.wrap ((i : Int) - 1) = ((i - 1 : Nat) : Int) := by rw [IntWalk.i64_in _ ⟨by omega, by omega⟩]; omega
              go_upto_if 61 with fail
              go_cut [] (fun wc => ∃ zs, Sw B g n c w wc zs ∧ Go.Sort.partialIns ltI a b (5 - (k + 1)) i (Go.Sort.fixUp ltI b i (arr zs)) = Go.Sort.partialInsertionSort ltI (arr xs) a b)
              case first =>
                by_cases h2 : 2 ≤ d1
                · have h2' : (2 : Int) ≤ (d1 : Int) := by omega
                  have HQ1 : Hid (Go.Sort.partialIns ltI a b (5 - (k + 1)) i (Go.Sort.fixUp ltI b i (Go.Sort.shiftDown ltI (i - 1) (arr zs))) = Go.Sort.partialInsertionSort ltI (arr xs) a b) := by
                    have := HQ.out
                    unfold Go.Sort.fixDown at this
                    rw [if_pos (by omega)] at this
                    exact this
                  clear HQ
                  have HQ := hidI' HQ1.out
                  clear HQ1
                  go_wp2_with fail
                  go_loopg [9] ((i - 1)) (fun gk s wr => ∃ j : Nat, gk = j ∧ s = .int .i64 (j : Int) ∧ j + 1 ≤ n ∧ j ≤ n ∧ ∃ zs, Sw B g n c w wr zs ∧ Go.Sort.partialIns ltI a b (5 - (k + 1)) i (Go.Sort.fixUp ltI b i (Go.Sort.shiftDown ltI j (arr zs))) = Go.Sort.partialInsertionSort ltI (arr xs) a b)
                  case atStart => exact ⟨(i - 1), rfl, rfl, by omega, by omega, _, HS.out, HQ.out⟩
                  case round =>
                    obtain ⟨j, hgk, rfl, hj1, hj2, zs, hS, hq⟩ := hrel
                    clear HS HQ
                    have HS : Hid (Sw B g n c w wr zs) := hS
                    have HQ : Hid (Go.Sort.partialIns ltI a b (5 - (k + 1)) i (Go.Sort.fixUp ltI b i (Go.Sort.shiftDown ltI j (arr zs))) = Go.Sort.partialInsertionSort ltI (arr xs) a b) := hq
                    clear hS hq
                    by_cases hgd : 1 ≤ j
                    · have hgd' : (1 : Int) ≤ (j : Int) := by omega
                      have m1 : IntKind.i64.wrap ((j : Int) - 1) = ((j - 1 : Nat) : Int) := by rw [IntWalk.i64_in _ ⟨by omega, by omega⟩]; omega
                      obtain ⟨X, F, hX, hF, onto⟩ := class_of (fun v => Below wr.heap.size wr v) (Below.refl _ wr)
                      have HF : Hid (∀ y, Below wr.heap.size wr (F y)) := hF
                      have HO : Hid (∀ v, Below wr.heap.size wr v → ∃ x, v = F x) := fun v h => by obtain ⟨x, hx⟩ := onto v h; exact ⟨x, hx.symm⟩
                      obtain ⟨xp, hxp⟩ := HS.out.at (i := j) (by omega)
                      obtain ⟨xq, hxq⟩ := HS.out.at (i := (j - 1)) (by omega)
                      have cp : ∀ q, (F q).cell? ⟨g, j, none⟩ = some (.int .i32 xp.v) := fun q => (HS.out.below (hF q)).row.get hxp
                      have cq : ∀ q, (F q).cell? ⟨g, (j - 1), none⟩ = some (.int .i32 xq.v) := fun q => (HS.out.below (hF q)).row.get hxq
                      have tp : ((j : Nat) : Int) < (n : Int) := by omega
                      have tq : (((j - 1) : Nat) : Int) < (n : Int) := by omega
                      have HXP : Hid (zs[j]? = some xp ∧ zs[(j - 1)]? = some xq) := ⟨hxp, hxq⟩
                      clear hxp hxq
                      go_upto_region 16 with fail
                      refine region_class F (by kernel_rfl) (by kernel_rfl) (by obtain ⟨x, hx⟩ := HO.out _ (Below.refl _ _).drew; exact ⟨x, hx.symm⟩) ?_
                      repeat (go_big_quiet_step (first | (go_at_call 97; with_reducible refine (less_any xp.v xq.v _).mono ?_; rintro e z5 ⟨rfl, rfl⟩; exact ⟨rfl, HO.out _ (HF.out _)⟩)))
                      clear cp cq
                      refine wpQuiet_nil ?_
                      rintro _ ⟨nq, rfl⟩
                      obtain ⟨z0, hz0⟩ : ∃ z, F nq = z := ⟨_, rfl⟩
                      have hzb : Below wr.heap.size wr z0 := hz0 ▸ HF.out nq
                      have SZ := hidI' (HS.out.below hzb)
                      rw [hz0]
                      clear hz0 hzb HF HO HS hF onto
                      by_cases hlt : xp.v < xq.v
                      · rw [show decide (xp.v < xq.v) = true from decide_eq_true hlt]
                        have HS : Hid (Sw B g n c w z0 zs) := SZ.out
                        clear SZ
                        obtain ⟨xi, hxi⟩ := HS.out.at (i := j) (by omega)
                        obtain ⟨xj, hxj⟩ := HS.out.at (i := (j - 1)) (by omega)
                        have HX : Hid (zs[j]? = some xi ∧ zs[(j - 1)]? = some xj) := ⟨hxi, hxj⟩
                        have ti : ((j : Nat) : Int) < (n : Int) := by omega
                        have tj : (((j - 1) : Nat) : Int) < (n : Int) := by omega
                        have cx := HS.out.row.get hxi
                        have cy := HS.out.row.get hxj
                        have f1 := HS.out.row.free j
                        have f2 := HS.out.row.free (j - 1)
                        have hne2 : (j - 1) ≠ j := by omega
                        have hne3 : j ≠ (j - 1) := fun e => hne2 e.symm
                        have hxv : xi.v < xj.v := by
                          have h1 := HXP.out.1.symm.trans hxi
                          have h2 := HXP.out.2.symm.trans hxj
                          cases h1; cases h2; exact hlt
                        clear hxi hxj
                        go_upto_region 17 with fail
                        go_big_region
                        obtain ⟨z2, hz2⟩ : ∃ z, ((z0.setCell ⟨g, j, none⟩ (.int .i32 xj.v)).setCell ⟨g, (j - 1), none⟩ (.int .i32 xi.v)).drew = z := ⟨_, rfl⟩
                        have S2 : Hid (Sw B g n c w z2 (swp zs j (j - 1) xi xj)) := by unfold Hid; rw [← hz2]; exact HS.out.swap j (j - 1) xi xj
                        rw [hz2]
                        clear hz2 cx cy f1 f2 hne2 hne3 HS
                        have HS : Hid (Sw B g n c w z2 (swp zs j (j - 1) xi xj)) := S2.out
                        clear S2
                        have HQ2 : Hid (Go.Sort.partialIns ltI a b (5 - (k + 1)) i (Go.Sort.fixUp ltI b i (Go.Sort.shiftDown ltI (j - 1) (arr (swp zs j (j - 1) xi xj)))) = Go.Sort.partialInsertionSort ltI (arr xs) a b) := by unfold Hid; rw [← shd_on HX.out.1 HX.out.2 (by omega) (by omega)]; exact HQ.out
                        go_wp2
                        go_roundg (j - 1)
                        case measure => omega
                        case rel => exact ⟨(j - 1), rfl, by (have : ((j - 1 : Nat) : Int) = (j : Int) - 1 := by omega); first | rfl | rw [this] | go_num, by omega, by omega, _, HS.out, HQ2.out⟩
                      · rw [show decide (xp.v < xq.v) = false from decide_eq_false hlt]
                        have HS : Hid (Sw B g n c w z0 zs) := SZ.out
                        have HQ2 : Hid (Go.Sort.partialIns ltI a b (5 - (k + 1)) i (Go.Sort.fixUp ltI b i (arr zs)) = Go.Sort.partialInsertionSort ltI (arr xs) a b) := by unfold Hid; have := HQ.out; rw [shd_off HXP.out.1 HXP.out.2 (by omega)] at this; exact this
                        go_wp2_with fail
                        go_meet
                        exact ⟨_, HS.out, HQ2.out⟩
                    · have hgd' : ¬ (1 : Int) ≤ (j : Int) := by omega
                      have HQ2 : Hid (Go.Sort.partialIns ltI a b (5 - (k + 1)) i (Go.Sort.fixUp ltI b i (arr zs)) = Go.Sort.partialInsertionSort ltI (arr xs) a b) := by unfold Hid; have := HQ.out; rw [shd_end (by omega)] at this; exact this
                      go_wp2_with fail
                      go_meet
                      exact ⟨_, HS.out, HQ2.out⟩
                · have h2' : ¬ (2 : Int) ≤ (d1 : Int) := by omega
                  have HQ2 : Hid (Go.Sort.partialIns ltI a b (5 - (k + 1)) i (Go.Sort.fixUp ltI b i (arr zs)) = Go.Sort.partialInsertionSort ltI (arr xs) a b) := by
                    have := HQ.out
                    unfold Go.Sort.fixDown at this
                    rw [if_neg (by omega)] at this
                    exact this
                  go_wp2_with fail
                  go_meet
                  exact ⟨_, HS.out, HQ2.out⟩
              case rest =>
                obtain ⟨zs, hS, hq⟩ := hcut
                clear HS HQ
                have HS : Hid (Sw B g n c w wc zs) := hS
                have HQ : Hid (Go.Sort.partialIns ltI a b (5 - (k + 1)) i (Go.Sort.fixUp ltI b i (arr zs)) = Go.Sort.partialInsertionSort ltI (arr xs) a b) := hq
                clear hS hq
                clear kd1 m1
                obtain ⟨d2, hd2⟩ : ∃ d : Nat, b - i = d := ⟨_, rfl⟩
                have kd2 : IntKind.i64.wrap ((b : Int) - (i : Int)) = (d2 : Int) := by rw [IntWalk.i64_in _ ⟨by omega, by omega⟩]; omega
                by_cases h3 : 2 ≤ d2
                · have h3' : (2 : Int) ≤ (d2 : Int) := by omega
                  have HQ1 : Hid (Go.Sort.partialIns ltI a b (5 - (k + 1)) i (Go.Sort.shiftUp ltI b (i + 1) (arr zs)) = Go.Sort.partialInsertionSort ltI (arr xs) a b) := by
                    have := HQ.out
                    unfold Go.Sort.fixUp at this
                    rw [if_pos (by omega)] at this
                    exact this
                  clear HQ
                  have HQ := hidI' HQ1.out
                  clear HQ1
                  go_wp2_with fail
                  go_loopg [10] (b - (i + 1)) (fun gk s wr => ∃ j : Nat, gk = b - j ∧ s = .int .i64 (j : Int) ∧ i + 1 ≤ j ∧ j ≤ b ∧ ∃ zs, Sw B g n c w wr zs ∧ Go.Sort.partialIns ltI a b (5 - (k + 1)) i (Go.Sort.shiftUp ltI b j (arr zs)) = Go.Sort.partialInsertionSort ltI (arr xs) a b)
                  case atStart => exact ⟨(i + 1), rfl, by go_num, by omega, by omega, _, HS.out, HQ.out⟩
                  case round =>
                    obtain ⟨j, hgk, rfl, hj1, hj2, zs, hS, hq⟩ := hrel
                    clear HS HQ
                    have HS : Hid (Sw B g n c w wr zs) := hS
                    have HQ : Hid (Go.Sort.partialIns ltI a b (5 - (k + 1)) i (Go.Sort.shiftUp ltI b j (arr zs)) = Go.Sort.partialInsertionSort ltI (arr xs) a b) := hq
                    clear hS hq
                    by_cases hgd : j < b
                    · have hgd' : (j : Int) < (b : Int) := by omega
                      have m1 : IntKind.i64.wrap ((j : Int) - 1) = ((j - 1 : Nat) : Int) := by rw [IntWalk.i64_in _ ⟨by omega, by omega⟩]; omega
                      obtain ⟨X, F, hX, hF, onto⟩ := class_of (fun v => Below wr.heap.size wr v) (Below.refl _ wr)
                      have HF : Hid (∀ y, Below wr.heap.size wr (F y)) := hF
                      have HO : Hid (∀ v, Below wr.heap.size wr v → ∃ x, v = F x) := fun v h => by obtain ⟨x, hx⟩ := onto v h; exact ⟨x, hx.symm⟩
                      obtain ⟨xp, hxp⟩ := HS.out.at (i := j) (by omega)
                      obtain ⟨xq, hxq⟩ := HS.out.at (i := (j - 1)) (by omega)
                      have cp : ∀ q, (F q).cell? ⟨g, j, none⟩ = some (.int .i32 xp.v) := fun q => (HS.out.below (hF q)).row.get hxp
                      have cq : ∀ q, (F q).cell? ⟨g, (j - 1), none⟩ = some (.int .i32 xq.v) := fun q => (HS.out.below (hF q)).row.get hxq
                      have tp : ((j : Nat) : Int) < (n : Int) := by omega
                      have tq : (((j - 1) : Nat) : Int) < (n : Int) := by omega
                      have HXP : Hid (zs[j]? = some xp ∧ zs[(j - 1)]? = some xq) := ⟨hxp, hxq⟩
                      clear hxp hxq
                      go_upto_region 22 with fail
                      refine region_class F (by kernel_rfl) (by kernel_rfl) (by obtain ⟨x, hx⟩ := HO.out _ (Below.refl _ _).drew; exact ⟨x, hx.symm⟩) ?_
                      repeat (go_big_quiet_step (first | (go_at_call 97; with_reducible refine (less_any xp.v xq.v _).mono ?_; rintro e z5 ⟨rfl, rfl⟩; exact ⟨rfl, HO.out _ (HF.out _)⟩)))
                      clear cp cq
                      refine wpQuiet_nil ?_
                      rintro _ ⟨nq, rfl⟩
                      obtain ⟨z0, hz0⟩ : ∃ z, F nq = z := ⟨_, rfl⟩
                      have hzb : Below wr.heap.size wr z0 := hz0 ▸ HF.out nq
                      have SZ := hidI' (HS.out.below hzb)
                      rw [hz0]
                      clear hz0 hzb HF HO HS hF onto
                      by_cases hlt : xp.v < xq.v
                      · rw [show decide (xp.v < xq.v) = true from decide_eq_true hlt]
                        have HS : Hid (Sw B g n c w z0 zs) := SZ.out
                        clear SZ
                        obtain ⟨xi, hxi⟩ := HS.out.at (i := j) (by omega)
                        obtain ⟨xj, hxj⟩ := HS.out.at (i := (j - 1)) (by omega)
                        have HX : Hid (zs[j]? = some xi ∧ zs[(j - 1)]? = some xj) := ⟨hxi, hxj⟩
                        have ti : ((j : Nat) : Int) < (n : Int) := by omega
                        have tj : (((j - 1) : Nat) : Int) < (n : Int) := by omega
                        have cx := HS.out.row.get hxi
                        have cy := HS.out.row.get hxj
                        have f1 := HS.out.row.free j
                        have f2 := HS.out.row.free (j - 1)
                        have hne2 : (j - 1) ≠ j := by omega
                        have hne3 : j ≠ (j - 1) := fun e => hne2 e.symm
                        have hxv : xi.v < xj.v := by
                          have h1 := HXP.out.1.symm.trans hxi
                          have h2 := HXP.out.2.symm.trans hxj
                          cases h1; cases h2; exact hlt
                        clear hxi hxj
                        go_upto_region 23 with fail
                        go_big_region
                        obtain ⟨z2, hz2⟩ : ∃ z, ((z0.setCell ⟨g, j, none⟩ (.int .i32 xj.v)).setCell ⟨g, (j - 1), none⟩ (.int .i32 xi.v)).drew = z := ⟨_, rfl⟩
                        have S2 : Hid (Sw B g n c w z2 (swp zs j (j - 1) xi xj)) := by unfold Hid; rw [← hz2]; exact HS.out.swap j (j - 1) xi xj
                        rw [hz2]
                        clear hz2 cx cy f1 f2 hne2 hne3 HS
                        have HS : Hid (Sw B g n c w z2 (swp zs j (j - 1) xi xj)) := S2.out
                        clear S2
                        have HQ2 : Hid (Go.Sort.partialIns ltI a b (5 - (k + 1)) i (Go.Sort.shiftUp ltI b (j + 1) (arr (swp zs j (j - 1) xi xj))) = Go.Sort.partialInsertionSort ltI (arr xs) a b) := by unfold Hid; rw [← shu_on HX.out.1 HX.out.2 (by omega) (by omega)]; exact HQ.out
                        go_wp2
                        go_roundg (b - (j + 1))
                        case measure => omega
                        case rel => exact ⟨(j + 1), rfl, by go_num, by omega, by omega, _, HS.out, HQ2.out⟩
                      · rw [show decide (xp.v < xq.v) = false from decide_eq_false hlt]
                        have HS : Hid (Sw B g n c w z0 zs) := SZ.out
                        have HQ2 : Hid (Go.Sort.partialIns ltI a b (5 - (k + 1)) i (arr zs) = Go.Sort.partialInsertionSort ltI (arr xs) a b) := by unfold Hid; have := HQ.out; rw [shu_off HXP.out.1 HXP.out.2 (by omega) (by omega)] at this; exact this
                        go_wp2
                        go_roundg (5 - (k + 1))
                        case measure => omega
                        case rel => exact ⟨i, k + 1, rfl, rfl, by go_num, by omega, by omega, by omega, _, HS.out, HQ2.out⟩
                    · have hgd' : ¬ (j : Int) < (b : Int) := by omega
                      have HQ2 : Hid (Go.Sort.partialIns ltI a b (5 - (k + 1)) i (arr zs) = Go.Sort.partialInsertionSort ltI (arr xs) a b) := by unfold Hid; have := HQ.out; rw [shu_end (by omega)] at this; exact this
                      go_wp2
                      go_roundg (5 - (k + 1))
                      case measure => omega
                      case rel => exact ⟨i, k + 1, rfl, rfl, by go_num, by omega, by omega, by omega, _, HS.out, HQ2.out⟩
                · have h3' : ¬ (2 : Int) ≤ (d2 : Int) := by omega
                  have HQ2 : Hid (Go.Sort.partialIns ltI a b (5 - (k + 1)) i (arr zs) = Go.Sort.partialInsertionSort ltI (arr xs) a b) := by
                    have := HQ.out
                    unfold Go.Sort.fixUp at this
                    rw [if_neg (by omega)] at this
                    exact this
                  go_wp2
                  go_roundg (5 - (k + 1))
                  case measure => omega
                  case rel => exact ⟨i, k + 1, rfl, rfl, by go_num, by omega, by omega, by omega, _, HS.out, HQ2.out⟩
    · have hk5' : ¬ (k : Int) < 5 := by omega
      have HE : Hid ((arr zs, false) = Go.Sort.partialInsertionSort ltI (arr xs) a b) := by unfold Hid; rw [← HQ.out, show 5 - k = 0 by omega]; rfl
      go_wp2
      go_ret
      first
        | exact ⟨false, rfl, zs, HE.out, HS.out⟩
        | exact .inl ⟨rfl, zs, HE.out, HS.out⟩
        | exact .inr ⟨rfl, zs, HE.out, HS.out⟩
end Go.Proofs.YtgijcbipnjmhgabGreat
