import Derived.Test.YtgijcbipnjmhgabGr5c
import Derived.Test.YtgijcbipnjmhgabGr4
import Derived.Sort.OwnSorted
import Derived.Test.YtgijcbipnjmhgabGc1
namespace Go.Proofs.Ytgijcbipnjmhgab
open Go.ChangeShapes Go.WideShapes Go.ChangeAt Go.RowKit Go.Sort
set_option linter.unusedVariables false
set_option linter.unusedSimpArgs false

abbrev ivs (xs : List Int) : List Value := xs.map (Value.int .i64)
abbrev sortI (xs : List Int) : List Int := xs.mergeSort fun x y => decide (x ≤ y)
theorem holds_ints {w : World} {g : Nat} {cur : Array Value} {e : TypeId} {ss : List Int} (hb : w.heap[g]? = some (.cells cur e (0, 0))) (ht : cur.toList.take ss.length = ivs ss) : Holds (Value.int .i64) w g 0 ss.toArray := by
  intro j hj
  have hj' : j < ss.length := by simpa using hj
  refine ⟨?_, by simp [World.frozen?, hb]⟩
  have h1 : (cur.toList.take ss.length)[j]? = (ivs ss)[j]? := by rw [ht]
  rw [List.getElem?_take_of_lt hj'] at h1
  simp only [World.cell?, hb, Nat.zero_add]
  simp only [Option.isSome_none, Bool.false_eq_true, if_false]
  rw [← Array.getElem?_toList, h1]
  simp [ivs, hj']
theorem sorted_heap {w : World} {g n : Nat} {os : Array Obj} {cur : Array Value} {e : TypeId} {fr : Nat × Nat} (d : Array Int) (hb : w.heap[g]? = some (.cells cur e fr)) :
    (grow (putRow (Value.int .i64) (Sort.ahead w n) g 0 d) os).heap[g]? = some (.cells (putCells (Value.int .i64) 0 d cur) e fr) := by
  have hg : g < w.heap.size := (Array.getElem?_eq_some_iff.1 hb).1
  rw [heap_grow_old _ _ (by simpa using hg)]
  simp [putRow, mapBlock, Sort.ahead, Array.getElem?_modify, hb, onCells]
theorem sorted_grown {w : World} {g n : Nat} {os : Array Obj} (d : Array Int) : w.grownBy (grow (putRow (Value.int .i64) (Sort.ahead w n) g 0 d) os) (some g) := by
  refine ⟨rfl, rfl, rfl, by simp, fun k hk hne => ?_⟩
  rw [heap_grow_old _ _ (by simpa using hk)]
  have : g ≠ k := fun e => hne (by rw [e])
  simp [putRow, mapBlock, Sort.ahead, Array.getElem?_modify, this]
theorem sorted_cells (cur : Array Value) (ts : List Int) (h : ts.length ≤ cur.size) : (putCells (Value.int .i64) 0 ts.toArray cur).toList.take ts.length = ivs ts := by
  apply List.ext_getElem?
  intro j
  by_cases hj : j < ts.length
  · rw [List.getElem?_take_of_lt hj, Array.getElem?_toList]
    simp [putCells, hj, show j < cur.size by omega]
  · rw [List.getElem?_take_eq_none (by omega), List.getElem?_eq_none (by simp; omega)]
theorem risingI_any (B : Nat) (v : Value) (xs : List Int) (z : World) (h : z.ownsRow B 3 1 v xs.length (ivs xs)) (hn : xs.length ≤ 70368744177664) :
    Calls Try.prog 49 #[v] z fun e z' => e = .returned v ∧ z'.ownsRow B 3 1 v xs.length (ivs (sortI xs)) ∧ z.grownBy z' v.ownBlock := by
  rcases h.2 with ⟨hv, h0⟩ | ⟨g, cap, cur, rfl, hbase, hb, h1, h2, h3, h4⟩
  · subst hv
    have hx : xs = [] := List.eq_nil_of_length_eq_zero h0
    subst hx
    have HS := Try.slices_Sort_int_none Option.none 0 z
    go_enter Try.func49, Try.ntmps49
    go_wp2_with (go_at_call 61; (with_reducible refine HS.mono ?_); rintro e v1 ⟨rfl, rfl⟩)
    go_ret
    refine ⟨rfl, ?_, World.grownBy.refl _ _⟩
    rw [show sortI [] = [] from List.mergeSort_nil]
    exact World.ownsRow_nil _ _ _ _
  · rw [Nat.mul_one] at h4
    have HS := Try.slices_Sort_int g 0 cap xs z (holds_ints hb h4) (Array.getElem?_eq_some_iff.1 hb).1 (by omega)
    have HF : Hid (∀ n os, (grow (putRow (Value.int .i64) (Sort.ahead z n) g 0 (sortI xs).toArray) os).ownsRow B 3 1 (.slice (some ⟨g, 0, none⟩) xs.length cap) xs.length (ivs (sortI xs)) ∧ z.grownBy (grow (putRow (Value.int .i64) (Sort.ahead z n) g 0 (sortI xs).toArray) os) (some g)) := fun n os => by
      have hl : (sortI xs).length = xs.length := by simp [sortI]
      refine ⟨⟨by simp [ivs, hl], .inr ⟨g, cap, _, rfl, hbase, sorted_heap _ hb, h1, h2, by simp [putCells, h3], ?_⟩⟩, sorted_grown _⟩
      have h9 := sorted_cells cur (sortI xs) (by rw [hl]; omega)
      rw [hl] at h9
      rw [Nat.mul_one]
      exact h9
    have HS2 : Hid (Calls Try.prog 61 #[.slice (some ⟨g, 0, none⟩) xs.length cap] z fun e w' => e = .returned (.tuple #[]) ∧ w'.ownsRow B 3 1 (.slice (some ⟨g, 0, none⟩) xs.length cap) xs.length (ivs (sortI xs)) ∧ z.grownBy w' (some g)) := HS.mono (fun e w' ⟨h1, n, os, h2⟩ => ⟨h1, by rw [h2]; exact (HF.out n os).1, by rw [h2]; exact (HF.out n os).2⟩)
    clear HS HF h h1 h2 h3 h4 hb
    go_enter Try.func49, Try.ntmps49
    go_wp2_with (go_at_call 61; (with_reducible refine HS2.out.mono ?_); rintro e v1 ⟨rfl, ho, hg⟩; have HO : Hid (v1.ownsRow B 3 1 (.slice (some ⟨g, 0, none⟩) xs.length cap) xs.length (ivs (sortI xs)) ∧ z.grownBy v1 (some g)) := ⟨ho, hg⟩; clear ho hg)
    go_ret
    exact ⟨rfl, HO.out.1, HO.out.2⟩
theorem own_lower {w : World} {B B' e s n : Nat} {v : Value} {xs : List Value} (h : w.ownsRow B e s v n xs) (hb : B' ≤ B) : w.ownsRow B' e s v n xs :=
  ⟨h.1, h.2.imp id fun ⟨g, cap, cur, h1, h2, h3⟩ => ⟨g, cap, cur, h1, Nat.le_trans hb h2, h3⟩⟩
theorem Lv.lower {B B' gV n : Nat} {w0 w0' w : World} {rs : List Rr} (h : Lv B gV n w0 w rs) (hb : B' ≤ B) (h0 : Below B' w0' w) : Lv B' gV n w0' w rs :=
  ⟨⟨own_lower h.she.outV hb, own_lower h.she.outU hb, fun r hr => own_lower (h.she.each r hr) hb, h.she.apart, h.she.outs⟩, h.len, h0, Nat.le_trans hb h.base⟩
/-- the list of what can be come to -/
def RL (n : Nat) (ps : List Pr) (x : Nat) (zs : List Int) : Prop := zs.Pairwise (· < ·) ∧ zs.length ≤ n ∧ ∀ y : Int, y ∈ zs ↔ ∃ k : Nat, y = (k : Int) ∧ Rch ps x k

end Go.Proofs.Ytgijcbipnjmhgab

namespace Go.Proofs.Ytgijcbipnjmhgab
open Go.ChangeShapes Go.WideShapes Go.ChangeAt Go.RowKit
set_option linter.unusedVariables false
set_option linter.unusedSimpArgs false

/-- what lineUp answers -/
structure Ln (N : Nat → List Int) (n : Nat) (os : List Int) : Prop where
  gd : Gd N n os
  no : ∀ x, ¬ Rdy N n os x
  nod : os.Nodup
  rng : ∀ y ∈ os, 0 ≤ y ∧ y < (n : Int)
theorem Bth.lenN {N D : Nat → List Int} {n : Nat} (h : Bth N D n) {x : Nat} (hx : x < n) : (N x).length ≤ n := nodup_le (h.nn x hx) (h.nr x hx)
theorem Bth.lenD {N D : Nat → List Int} {n : Nat} (h : Bth N D n) {x : Nat} (hx : x < n) : (D x).length ≤ n := nodup_le (h.dn x hx) (fun y hy => have := (h.iff x hx y).1 hy; ⟨this.1, this.2.1⟩)

set_option maxRecDepth 1000000 in
set_option maxHeartbeats 8000000 in
theorem lineUp_any (gV gD n : Nat) (N D : Nat → List Int) (w : World) (hN : Rl w.heap.size w gV n N) (hD : Rl w.heap.size w gD n D) (hb : Bth N D n) (hn : n ≤ 131072) :
    Calls Try.prog 20 #[.slice (some ⟨gV, 0, none⟩) n n, .slice (some ⟨gD, 0, none⟩) n n] w fun e w' => ∃ O os, e = .returned O ∧ w'.ownsRow w.heap.size 3 1 O os.length (flat os) ∧ Below w.heap.size w w' ∧ Ln N n os := by
  obtain ⟨i0, hi0, hz0, hz1, hz2⟩ := info_parts infoIntH
  have HN : Hid (Rl w.heap.size w gV n N) := hN
  have HD : Hid (Rl w.heap.size w gD n D) := hD
  have HBT : Hid (Bth N D n) := hb
  clear hN hD hb
  go_enter Try.func20, Try.ntmps20
  go_upto_region 2 with (fail)
  obtain ⟨w1, e1, hb1, hs1, X1⟩ := bx1 w #[.slice none 0 0] 61
  rw [e1]
  obtain ⟨B, hB⟩ : ∃ B, w.heap.size = B := ⟨_, rfl⟩
  obtain ⟨gm, hgm⟩ : ∃ gm, w1.heap.size = gm := ⟨_, rfl⟩
  rw [hB] at HN HD hb1 X1 ⊢
  have HB1 : Hid (Below B w w1) := hb1
  have HX1 : Hid (Bx w1 B #[.slice none 0 0] 61) := X1
  have HS1 : Hid (w.heap.size = B ∧ w1.heap.size = gm ∧ gm = B + 1) := ⟨hB, hgm, by omega⟩
  have hBle : B ≤ w1.heap.size := by omega
  clear e1 hb1 hs1 X1 hB
  have MK : Hid (∀ v1, v1.ownsRow B 3 1 (.slice (some ⟨gm, 0, none⟩) n n) n (madeCells (Value.int .i64 0).cells (n * 1)).toList → w1.grownBy v1 none → Lw2 B B gm n v1 (.slice none 0 0) [] (List.replicate n 0) (.slice none 0 0) [] ∧ Below B w v1) := fun v1 h1 h2 => by
    have hs := HS1.out
    refine ⟨⟨⟨HX1.out.grw h2 (by simp), World.ownsRow_nil _ _ _ _, Nat.le_refl _⟩, ?_, World.ownsRow_nil _ _ _ _, by simp [Value.ownBlock], by simp [Value.ownBlock], fun g h => by simp [Value.ownBlock] at h⟩, (HB1.out.grown h2 hBle (fun k h => by cases h))⟩
    rw [show (Value.int .i64 0).cells = #[.int .i64 0] by rfl, rep_made] at h1
    rw [show flat (List.replicate n (0 : Int)) = List.replicate n (Value.int .i64 0) by rw [flat_ints, List.map_replicate]]
    exact h1
  go_wp2_with (at_make; refine wpList_make_full _ rfl _ _ 24 rfl B 3 i0 (.int .i64 0) 1 Try.underlying24 hi0 hz0 hz1 _ _ _ _ n rfl rfl rfl rfl (by rw [hz2]; omega) (by unfold maxLen; omega) hBle ?_; intro v1 hown1 hgr1; rw [hgm] at hown1 ⊢; obtain ⟨h9, h8⟩ := MK.out v1 hown1 hgr1; have L1 := hidH h9; have E1 := hidH h8; clear h9 h8 hown1 hgr1)
  clear MK HX1 HB1
  go_loopg [18] n (fun gk si wr => ∃ (k : Nat) (V : Value) (xs ms : List Int), gk = n - k ∧ si = .int .i64 (k : Int) ∧ k ≤ n ∧ Lw2 B B gm n wr V xs ms (.slice none 0 0) [] ∧ Lf N n k xs ms ∧ Below B w wr)
  case atStart => exact ⟨0, _, _, _, rfl, rfl, Nat.zero_le _, L1.out, Lf.start N n, E1.out⟩
  case round =>
    clear L1 E1
    obtain ⟨k, V, xs, ms, hgk, rfl, hk, hL, hF, hE⟩ := hrel
    have LW := hidH hL
    have LF := hidH hF
    have HE := hidH hE
    clear hL hF hE
    by_cases hkn : k < n
    · have hkn' : (k : Int) < (n : Int) := by omega
      obtain ⟨aR, cR, cN, -⟩ := (HN.out.below HE.out).row k hkn
      obtain ⟨m, hm⟩ : ∃ m, (N k).length = m := ⟨_, rfl⟩
      rw [hm] at cN
      have hmn : m ≤ n := by rw [← hm]; exact HBT.out.lenN hkn
      have HM := hidH hm
      obtain ⟨cM, fM⟩ := LW.out.get hkn
      have LS := hidH (LW.out.set k (m : Int))
      have FS : Hid (∀ ys, (if m = 0 then ys = xs ++ [(k : Int)] else ys = xs) → Lf N n (k + 1) ys (ms.set k (m : Int))) := fun ys hy => by have h9 := LF.out.step hkn (ys := ys) (by rw [HM.out]; exact hy); rw [HM.out] at h9; exact h9
      have ES : Hid (Below B w (wr.setCell ⟨gm, k, none⟩ (.int .i64 (m : Int)))) := HE.out.setCell (p := ⟨gm, k, none⟩) (by have := HS1.out; simp; omega) _
      have kk : IntKind.i64.wrap ((k : Int) + 1) = ((k + 1 : Nat) : Int) := by rw [IntWalk.i64_in _ ⟨by omega, by omega⟩]; omega
      clear hm
      have gmN : n ≠ 0 := by omega
      by_cases hm0 : m = 0
      · subst hm0
        have LS0 : Hid (Lw2 B B gm n (wr.setCell ⟨gm, k, none⟩ (.int .i64 0)) V xs (ms.set k 0) (.slice none 0 0) []) := LS.out
        have ES0 : Hid (Below B w (wr.setCell ⟨gm, k, none⟩ (.int .i64 0))) := ES.out
        have FS0 := hidH (FS.out (xs ++ [(k : Int)]) (by rw [if_pos rfl]))
        clear LS ES FS
        go_upto_region 8 with (fail)
        obtain ⟨w2, hw2⟩ : ∃ w2, wr.setCell ⟨gm, k, none⟩ (.int .i64 0) = w2 := ⟨_, rfl⟩
        rw [hw2] at LS0 ES0 ⊢
        clear hw2
        obtain ⟨a, c, hV, -⟩ := LS0.out.hq.form
        subst hV
        obtain ⟨p, hp⟩ : ∃ p, xs.length = p := ⟨_, rfl⟩
        have hpk : p ≤ k := by rw [← hp]; exact LF.out.few
        have c0 := LS0.out.hq.at0
        have f0 := LS0.out.hq.box.free 0
        have z0 := LS0.out.hq.box.lt
        obtain ⟨zA, eA, hbA, hsA, BA⟩ := bx1 w2 #[.int .i64 (k : Int)] 3
        have LA := hidH (LS0.out.below hbA)
        have EA := hidH (ES0.out.trans (hbA.mono (by have := HS1.out; omega)))
        have NA : Hid (∀ j u, [Value.int .i64 (k : Int)][j]? = some u → zA.cell? ((⟨w2.heap.size, 0, none⟩ : Addr).add j) = some u) := by unfold Hid; rw [← eA]; exact cells_newH w2 [Value.int .i64 (k : Int)] 3
        have HEA := hidH eA
        have HSA := hidH hsA
        have HPP := hidH hp
        rw [hp] at c0 LA
        clear eA hbA hsA BA hp
        go_wp2_with (at_builtin; rw [HEA.out]; refine wpList_append_lies _ rfl _ _ 61 rfl B 3 i0 (.int .i64 0) 1 8 Try.underlying61 hi0 hz0 hz1 hz2 rfl (by decide) (.slice a p c) p (flat xs) rfl (by have h9 := LA.out.hq.row; rw [HPP.out] at h9; exact h9) ⟨w2.heap.size, 0, none⟩ 1 1 [Value.int .i64 (k : Int)] rfl rfl NA.out (by intro u hu; simp at hu; subst hu; rfl) (by decide) (by unfold maxLen; omega) (by omega) (by have := HSA.out; omega) (w2.heap.size + 1) HSA.out ?_; intro gg cp w9 hown9 hgrow9 hat9 hlt9; have L9 := hidH (LA.out.ready (V' := .slice (some ⟨gg, 0, none⟩) (p + 1) cp) (xs' := xs ++ [(k : Int)]) (by rw [flat_append, List.length_append, List.length_singleton, HPP.out]; exact hown9) hgrow9 (by have h7 := HSA.out; rcases hat9 with e | e; exact .inl e.symm; exact .inr ⟨gg, rfl, by omega⟩)); have X9 := LA.out.hq.box.grw hgrow9 (fun e => LA.out.hq.box.neR LA.out.hq.row (by decide) e rfl); have c9 := X9.one; have f9 := X9.free 0; have E9 := hidH ((EA.out.grown hgrow9 (by have := HSA.out; omega) (fun g e => (LA.out.hq.row.lt g e).1)).setCell (p := ⟨B, 0, none⟩) (Nat.le_refl _) (.slice (some ⟨gg, 0, none⟩) (p + 1) cp)); clear X9 hown9 hgrow9 hat9 hlt9)
        go_roundg (n - (k + 1))
        case measure => omega
        case rel => exact ⟨k + 1, _, _, _, rfl, rfl, by omega, L9.out, FS0.out, E9.out⟩
      · have hm1 : ((m : Int) == 0) = false := by rw [beq_eq_false_iff_ne]; omega
        have hm2 : ¬ (m : Int) = 0 := by omega
        go_wp2
        go_roundg (n - (k + 1))
        case measure => omega
        case rel => exact ⟨k + 1, V, xs, _, rfl, rfl, by omega, LS.out, FS.out xs (by rw [if_neg hm0]), ES.out⟩
    · have hkn' : ¬ (k : Int) < (n : Int) := by omega
      have hkn2 : k = n := by omega
      subst hkn2
      have LU := hidH LF.out.lu
      have HP := hidH LF.out.heap
      clear LF hk hkn hgk
      go_wp2
      go_loopg [9] k (fun gk s9 wq => ∃ (V : Value) (xs ms : List Int) (O : Value) (os : List Int), gk = k - os.length ∧ s9 = O ∧ Lw2 B B gm k wq V xs ms O os ∧ Lu N k os xs ms [] ∧ Hpp xs xs.length ∧ Below B w wq)
      case atStart => exact ⟨V, xs, ms, _, [], rfl, rfl, LW.out, LU.out, HP.out, HE.out⟩
      case round =>
        clear LU HP LW HE
        obtain ⟨V, xs, ms, O, os, hgk, hO, hL, hU, hP, hE⟩ := hrel
        subst hO
        have LW := hidH hL
        have LU := hidH hU
        have HP := hidH hP
        have HE := hidH hE
        have hfew := hU.few
        clear hL hU hP hE
        obtain ⟨a, c, hV, -⟩ := LW.out.hq.form
        have c0 := LW.out.hq.at0
        rw [hV] at c0
        have z0 := LW.out.hq.box.lt
        by_cases hx : xs = []
        · subst hx
          have c0' : wr.cell? ⟨B, 0, none⟩ = some (.slice a 0 c) := c0
          clear c0
          go_wp2
          go_ret
          refine ⟨_, os, rfl, ?_, ?_, LU.out.gd, LU.out.stop, LU.out.nos, LU.out.rng⟩
          · rw [HS1.out.1]; exact LW.out.ou
          · rw [HS1.out.1]; exact HE.out
        · obtain ⟨p, hp⟩ : ∃ p, xs.length = p + 1 := ⟨xs.length - 1, by have := List.length_pos_iff.2 hx; omega⟩
          rw [hp] at c0
          have hpk : p + 1 ≤ k := by omega
          have h0p : (0 : Int) < (p : Int) + 1 := by omega
          have HL := hidH hp
          have PP : Hid (Hpp xs (p + 1)) := by have h9 := HP.out; rw [hp] at h9; exact h9
          clear hp hV
          go_upto_region 13 with (first
            | (go_at_call 38; (with_reducible refine (pop_any p HL.out LW.out.hq PP.out (by omega)).mono ?_); rintro e w2 ⟨m, rfl, hmin, V2, ys, hq2, hp2, hl2, hr2, hn2, hm2⟩; have hta := ta_int m; have L2 := hidH (LW.out.heap hq2 (.inl hn2) hm2); have U2 := hidH (LU.out.pop HBT.out hr2 hmin); have P2 : Hid (Hpp ys ys.length) := (by unfold Hid; rw [hl2]; exact hp2); have E2 := hidH (HE.out.trans hm2.bel); have R2 := hidH ((LU.out.is m).1 (hr2.mem_iff.1 List.mem_cons_self)); clear hmin hq2 hp2 hl2 hr2 hn2 hm2))
          have R3 := R2.out
          obtain ⟨x, rfl⟩ : ∃ x : Nat, m = (x : Int) := ⟨m.toNat, by have := R3.1; omega⟩
          have hxk : x < k := by have := R3.2.1; omega
          have U3 : Hid (Lu N k (os ++ [(x : Int)]) ys ms (D x)) := U2.out
          clear R3 R2 U2 LW LU HP HE PP c0 hta
          obtain ⟨a2, c2, hO2, -, -⟩ := own_slice L2.out.ou
          subst hO2
          obtain ⟨q, hq⟩ : ∃ q, os.length = q := ⟨_, rfl⟩
          obtain ⟨zA, eA, hbA, hsA, BA⟩ := bx1 w2 #[.int .i64 (x : Int)] 3
          have LA := hidH (L2.out.below hbA)
          have EA := hidH (E2.out.trans (hbA.mono (by have h8 := L2.out.hq.box.lt; omega)))
          have NA : Hid (∀ j u, [Value.int .i64 (x : Int)][j]? = some u → zA.cell? ((⟨w2.heap.size, 0, none⟩ : Addr).add j) = some u) := by unfold Hid; rw [← eA]; exact cells_newH w2 [Value.int .i64 (x : Int)] 3
          have HEA := hidH eA
          have HSA := hidH hsA
          have HQ := hidH hq
          have hBz : B ≤ zA.heap.size := by have h8 := L2.out.hq.box.lt; omega
          rw [hq] at LA hfew ⊢
          have OA : Hid (zA.ownsRow B 3 1 (.slice a2 q c2) q (flat os)) := by have h9 := LA.out.ou; rw [HQ.out] at h9; exact h9
          clear eA hbA hsA BA hq L2 E2
          go_upto_region 14 with (at_builtin; rw [HEA.out]; refine wpList_append_lies _ rfl _ _ 24 rfl B 3 i0 (.int .i64 0) 1 8 Try.underlying24 hi0 hz0 hz1 hz2 rfl (by decide) (.slice a2 q c2) q (flat os) rfl OA.out ⟨w2.heap.size, 0, none⟩ 1 1 [Value.int .i64 (x : Int)] rfl rfl NA.out (by intro u hu; simp at hu; subst hu; rfl) (by decide) (by unfold maxLen; omega) (by omega) hBz (w2.heap.size + 1) HSA.out ?_; intro gg cp w9 hown9 hgrow9 hat9 hlt9; have L9 := hidH (LA.out.out (O' := .slice (some ⟨gg, 0, none⟩) (q + 1) cp) (os' := os ++ [(x : Int)]) (by rw [flat_append, List.length_append, List.length_singleton, HQ.out]; exact hown9) hgrow9 (by have h7 := HSA.out; rcases hat9 with e | e; exact .inl e.symm; exact .inr ⟨gg, rfl, by omega⟩)); have E9 := hidH (EA.out.grown hgrow9 hBz (fun g e => (OA.out.lt g e).1)); clear hown9 hgrow9 hat9 hlt9)
          obtain ⟨aD, cD, cX0, hrow⟩ := HD.out.row x hxk
          have cX := (E9.out.cell (p := ⟨gD, x, none⟩) HD.out.lt).trans cX0
          clear cX0
          obtain ⟨r, hr⟩ : ∃ r, (D x).length = r := ⟨_, rfl⟩
          have hrk : r ≤ k := by rw [← hr]; exact HBT.out.lenD hxk
          have HR := hidH hr
          have HW := hidH hrow
          rw [hr] at cX
          clear LA EA NA HEA HSA OA hrow hr
          go_wp2
          go_loopg [51] r (fun g3 s51 wq => ∃ (j : Nat) (V : Value) (xs ms : List Int), g3 = r - j ∧ s51 = .int .i64 (j : Int) ∧ j ≤ r ∧ Lw2 B B gm k wq V xs ms (.slice (some ⟨gg, 0, none⟩) (q + 1) cp) (os ++ [(x : Int)]) ∧ Lu N k (os ++ [(x : Int)]) xs ms ((D x).drop j) ∧ Hpp xs xs.length ∧ Below B w wq)
          case atStart => exact ⟨0, _, _, _, rfl, rfl, Nat.zero_le _, L9.out, U3.out, P2.out, E9.out⟩
          case round =>
            clear L9 U3 P2 E9 cX
            obtain ⟨j, V, xs, ms, hg3, rfl, hj, hL, hU, hP, hE⟩ := hrel
            have LW := hidH hL
            have LU := hidH hU
            have HP := hidH hP
            have HE := hidH hE
            clear hL hU hP hE
            by_cases hjr : j < r
            · have hjr' : (j : Int) < (r : Int) := by omega
              obtain ⟨y, hy⟩ : ∃ y, (D x)[j]? = some y := ⟨_, List.getElem?_eq_getElem (by rw [HR.out]; exact hjr)⟩
              have hyr := (HBT.out.iff x hxk y).1 (List.mem_of_getElem? hy)
              obtain ⟨yy, rfl⟩ : ∃ yy : Nat, y = (yy : Int) := ⟨y.toNat, by omega⟩
              have hyk : yy < k := by omega
              have U4 : Hid (Lu N k (os ++ [(x : Int)]) xs ms ((yy : Int) :: (D x).drop (j + 1))) := by
                have h9 := LU.out
                obtain ⟨hj9, e9⟩ := List.getElem?_eq_some_iff.1 hy
                rw [List.drop_eq_getElem_cons hj9, e9] at h9
                exact h9
              obtain ⟨-, hp1, hp2⟩ := U4.out.pos
              have hln := HBT.out.lenN hyk
              obtain ⟨g, hag, hg, hcell⟩ := HW.out (by rw [HR.out]; omega)
              subst hag
              have cY := (HE.out.cell (p := ⟨g, j, none⟩) hg).trans (hcell j _ hy)
              obtain ⟨cM, fM⟩ := LW.out.get hyk
              obtain ⟨v, hv⟩ : ∃ v, ms[yy]! = v := ⟨_, rfl⟩
              obtain ⟨u, hu⟩ : ∃ u, v - 1 = u := ⟨_, rfl⟩
              rw [hv] at cM hp1 hp2
              have kv : IntKind.i64.wrap (v - 1) = u := by rw [IntWalk.i64_in _ ⟨by omega, by omega⟩]; exact hu
              have ky : IntKind.i64.wrap (yy : Int) = (yy : Int) := by rw [IntWalk.i64_in _ ⟨by omega, by omega⟩]
              have kj : IntKind.i64.wrap ((j : Int) + 1) = ((j + 1 : Nat) : Int) := by rw [IntWalk.i64_in _ ⟨by omega, by omega⟩]; omega
              have LS := hidH (LW.out.set yy u)
              obtain ⟨cM2, fM2⟩ := LS.out.get hyk
              rw [get_set ms yy yy u (by rw [LW.out.mlen]; exact hyk), if_pos rfl] at cM2
              have ES : Hid (Below B w (wr.setCell ⟨gm, yy, none⟩ (.int .i64 u))) := HE.out.setCell (p := ⟨gm, yy, none⟩) (by have := HS1.out; simp; omega) _
              have U5 : Hid (∀ zs, (if u = 0 then zs.Perm (xs ++ [(yy : Int)]) else zs = xs) → Lu N k (os ++ [(x : Int)]) zs (ms.set yy u) ((D x).drop (j + 1))) := fun zs hz => by
                have h9 := U4.out.dec (ys := zs) (by rw [hv, hu]; exact hz)
                rw [hv, hu] at h9
                exact h9
              have hf5 := U4.out.few.2.1
              have HF5 := hidH hf5
              clear hy hyr hp1 hp2 hln hcell hv hu U4 LU LW HE hf5
              by_cases hu0 : u = 0
              · subst hu0
                have z5 := LS.out.hq.box.lt
                go_wp2_with (first
                  | (go_at_call 39; (with_reducible refine (push_any (yy : Int) LS.out.hq HP.out (by have := HF5.out; omega)).mono ?_); rintro e w5 ⟨⟨r5, rfl⟩, V5, zs, hq5, hp5, hr5, hn5, hm5⟩; have L5 := hidH (LS.out.heap hq5 hn5 hm5); have P5 := hidH hp5; have R5 := hidH hr5; have E5 := hidH (ES.out.trans hm5.bel); clear hq5 hp5 hr5 hn5 hm5))
                go_roundg (r - (j + 1))
                case measure => omega
                case rel => exact ⟨j + 1, V5, zs, _, rfl, rfl, by omega, L5.out, U5.out zs (by first | (rw [if_pos rfl]; exact R5.out) | (rw [if_pos trivial]; exact R5.out)), P5.out, E5.out⟩
              · have hu1 : (u == 0) = false := by rw [beq_eq_false_iff_ne]; exact hu0
                go_wp2
                go_roundg (r - (j + 1))
                case measure => omega
                case rel => exact ⟨j + 1, V, xs, _, rfl, rfl, by omega, LS.out, U5.out xs (by rw [if_neg hu0]), HP.out, ES.out⟩
            · have hjr' : ¬ (j : Int) < (r : Int) := by omega
              have hjr2 : ((r : Int) ≤ (j : Int)) = True := by simp; omega
              go_wp2
              go_roundg (k - (q + 1))
              case measure => have h7 := HQ.out; have h8 := HL.out; omega
              case rel => exact ⟨V, xs, ms, _, os ++ [(x : Int)], by rw [List.length_append, HQ.out]; rfl, rfl, LW.out, by have h9 := LU.out; rw [List.drop_eq_nil_of_le (by rw [HR.out]; omega)] at h9; exact h9, HP.out, HE.out⟩
end Go.Proofs.Ytgijcbipnjmhgab
