import Derived.Test.YtgijcbipnjmhgabGreatWd1
namespace Go.Proofs.YtgijcbipnjmhgabGreat
open Go.ChangeShapes Go.WideShapes Go.ChangeAt Go.RowKit
set_option linter.unusedVariables false
set_option linter.unusedSimpArgs false

set_option maxRecDepth 1000000 in
set_option maxHeartbeats 4000000 in
theorem walkL2_any (B bm bn bk bt gm gV n bo : Nat) (w0 : World) (N : Nat → List Int) (ps : List Pr) (T : List Nat → World → Prop) (hn : n ≤ 131072) (hA : ∀ x : Nat, x < n → (N x).length ≤ 131072 ∧ ∀ y, y ∈ N x ↔ (⟨(x : Int), y⟩ : Pr) ∈ ps) (hps : ∀ p ∈ ps, 0 ≤ p.b ∧ p.b < (n : Int))
    (hT : ∀ m t z x, Wd B bm bn bk bt gm gV n (.func (.func 55) #[] #[.pointer (some ⟨bo, 0, none⟩)]) w0 N m z → T t z → T t (z.setCell ⟨gm, x, none⟩ (.bool true)))
    (htell : ∀ m t z (x : Nat), x < n → t.length < n → Wd B bm bn bk bt gm gV n (.func (.func 55) #[] #[.pointer (some ⟨bo, 0, none⟩)]) w0 N m z → T t z → Calls Tryz.prog 55 (#[.int .i64 (x : Int), .pointer (some ⟨bo, 0, none⟩)]) z fun e z' => (∃ v, e = .returned v) ∧ Wd B bm bn bk bt gm gV n (.func (.func 55) #[] #[.pointer (some ⟨bo, 0, none⟩)]) w0 N m z' ∧ T (t ++ [x]) z') :
    ∀ (k x : Nat) (m : List Bool) (t : List Nat) (z : World), x < n → unm m ≤ k → t.length + unm m ≤ n → Wd B bm bn bk bt gm gV n (.func (.func 55) #[] #[.pointer (some ⟨bo, 0, none⟩)]) w0 N m z → T t z →
    Calls Tryz.prog 57 #[.int .i64 (x : Int), .pointer (some ⟨bm, 0, none⟩), .pointer (some ⟨bn, 0, none⟩), .pointer (some ⟨bk, 0, none⟩), .pointer (some ⟨bt, 0, none⟩)] z fun e z' => (∃ v, e = .returned v) ∧ ∃ m' t', Wd B bm bn bk bt gm gV n (.func (.func 55) #[] #[.pointer (some ⟨bo, 0, none⟩)]) w0 N m' z' ∧ T t' z' ∧ Dk ps (Rch ps x) m t m' t' ∧ m'[x]? = some true := by
  intro k
  induction k using Nat.strongRecOn with
  | ind k ih =>
  intro x m t z hx hk hcn hW hTt
  have IH : Hid (∀ (y : Nat) (m2 : List Bool) (t2 : List Nat) (z : World), y < n → unm m2 < unm m → t2.length + unm m2 ≤ n → Wd B bm bn bk bt gm gV n (.func (.func 55) #[] #[.pointer (some ⟨bo, 0, none⟩)]) w0 N m2 z → T t2 z → Calls Tryz.prog 57 #[.int .i64 (y : Int), .pointer (some ⟨bm, 0, none⟩), .pointer (some ⟨bn, 0, none⟩), .pointer (some ⟨bk, 0, none⟩), .pointer (some ⟨bt, 0, none⟩)] z fun e z' => (∃ v, e = .returned v) ∧ ∃ m' t', Wd B bm bn bk bt gm gV n (.func (.func 55) #[] #[.pointer (some ⟨bo, 0, none⟩)]) w0 N m' z' ∧ T t' z' ∧ Dk ps (Rch ps y) m2 t2 m' t' ∧ m'[y]? = some true) := fun y m2 t2 z h1 h2 h3 h4 h5 => ih (unm m2) (by omega) y m2 t2 z h1 (Nat.le_refl _) h3 h4 h5
  have HW : Hid (Wd B bm bn bk bt gm gV n (.func (.func 55) #[] #[.pointer (some ⟨bo, 0, none⟩)]) w0 N m z) := hW
  have HT : Hid (T t z) := hTt
  have HA : Hid (∀ x : Nat, x < n → (N x).length ≤ 131072 ∧ ∀ y, y ∈ N x ↔ (⟨(x : Int), y⟩ : Pr) ∈ ps) := hA
  have HPS : Hid (∀ p ∈ ps, 0 ≤ p.b ∧ p.b < (n : Int)) := hps
  have HT1 : Hid (∀ m t z x, Wd B bm bn bk bt gm gV n (.func (.func 55) #[] #[.pointer (some ⟨bo, 0, none⟩)]) w0 N m z → T t z → T t (z.setCell ⟨gm, x, none⟩ (.bool true))) := hT
  have HTL : Hid (∀ m t z (x : Nat), x < n → t.length < n → Wd B bm bn bk bt gm gV n (.func (.func 55) #[] #[.pointer (some ⟨bo, 0, none⟩)]) w0 N m z → T t z → Calls Tryz.prog 55 (#[.int .i64 (x : Int), .pointer (some ⟨bo, 0, none⟩)]) z fun e z' => (∃ v, e = .returned v) ∧ Wd B bm bn bk bt gm gV n (.func (.func 55) #[] #[.pointer (some ⟨bo, 0, none⟩)]) w0 N m z' ∧ T (t ++ [x]) z') := htell
  clear ih hW hTt hA hps hT htell
  obtain ⟨b, hb⟩ : ∃ b, m[x]? = some b := ⟨_, List.getElem?_eq_getElem (by rw [HW.out.mlen]; exact hx)⟩
  have HBB : Hid (m[x]? = some b) := hb
  have c1 := HW.out.xm.one
  obtain ⟨cm, fm⟩ := HW.out.get hb
  have hx0 : (0 : Int) ≤ (x : Int) := by omega
  have hxn : (x : Int) < (n : Int) := by omega
  clear hb
  go_enter Tryz.func57, Tryz.ntmps57
  cases b with
  | true =>
    go_wp2
    refine bodyPost_ret (results_none rfl _ _ _) rfl ?_
    exact ⟨⟨_, rfl⟩, m, t, HW.out, HT.out, Dk.refl _ _ _ _, HBB.out⟩
  | false =>
    go_upto_region 2 with fail
    obtain ⟨z1, hz1⟩ : ∃ z1, z.setCell ⟨gm, x, none⟩ (.bool true) = z1 := ⟨_, rfl⟩
    have W1 : Hid (Wd B bm bn bk bt gm gV n (.func (.func 55) #[] #[.pointer (some ⟨bo, 0, none⟩)]) w0 N (m.set x true) z1) := by unfold Hid; rw [← hz1]; exact HW.out.set x
    have T1 : Hid (T t z1) := by unfold Hid; rw [← hz1]; exact HT1.out m t z x HW.out HT.out
    rw [hz1]
    clear hz1 c1 cm fm
    obtain ⟨a1, ca, cr, hrow⟩ := W1.out.rl.row x hx
    obtain ⟨hyl0, hy4⟩ := HA.out x hx
    obtain ⟨ys, hys⟩ : ∃ ys, N x = ys := ⟨_, rfl⟩
    rw [hys] at cr hrow hyl0 hy4
    have HNX : Hid (N x = ys) := hys
    have HY : Hid (∀ y, y ∈ ys ↔ (⟨(x : Int), y⟩ : Pr) ∈ ps) := hy4
    have HROW : Hid (∀ (m1 : List Bool) (z1' : World), Wd B bm bn bk bt gm gV n (.func (.func 55) #[] #[.pointer (some ⟨bo, 0, none⟩)]) w0 N m1 z1' → Below B w0 z1') := fun _ _ h => h.bel
    have cn := W1.out.xn.one
    have hyl : ys.length ≤ 17592186044416 := by omega
    have HR0 : Hid (∀ v, Below B w0 v → B ≤ v.heap.size → 0 < ys.length → ∃ g, a1 = some ⟨g, 0, none⟩ ∧ ∀ j y, ys[j]? = some y → v.cell? ⟨g, j, none⟩ = some (.int .i32 y)) := fun v hv _ h0 => by
      obtain ⟨g, e, hg, h3⟩ := hrow h0
      refine ⟨g, e, fun j y hj => ?_⟩
      have h4 := h3 j y hj
      have h5 : v.cell? ⟨g, j, none⟩ = z1.cell? ⟨g, j, none⟩ := (hv.cell (p := ⟨g, j, none⟩) hg).trans (W1.out.bel.cell (p := ⟨g, j, none⟩) hg).symm
      exact h5.trans h4
    clear hys hrow hyl0 hy4
    go_wp2
    clear cn cr
    go_loopg [20] ys.length (fun gk si wr => ∃ (j : Nat) (m1 : List Bool) (t1 : List Nat), gk = ys.length - j ∧ si = .int .i64 (j : Int) ∧ j ≤ ys.length ∧ Wd B bm bn bk bt gm gV n (.func (.func 55) #[] #[.pointer (some ⟨bo, 0, none⟩)]) w0 N m1 wr ∧ T t1 wr ∧ Dk ps (Rch ps x) (m.set x true) t m1 t1 ∧ ∀ (i : Nat) (y : Nat), i < j → ys[i]? = some (y : Int) → m1[y]? = some true)
    case atStart => exact ⟨0, _, _, rfl, rfl, Nat.zero_le _, W1.out, T1.out, Dk.refl _ _ _ _, fun i y h => absurd h (Nat.not_lt_zero _)⟩
    case round =>
      obtain ⟨j, m1, t1, hgk, rfl, hj, hW1, hT1, hD1, hd1⟩ := hrel
      clear W1 T1
      have W1 : Hid (Wd B bm bn bk bt gm gV n (.func (.func 55) #[] #[.pointer (some ⟨bo, 0, none⟩)]) w0 N m1 wr) := hW1
      have T1 : Hid (T t1 wr) := hT1
      have D1 : Hid (Dk ps (Rch ps x) (m.set x true) t m1 t1) := hD1
      have E1 : Hid (∀ (i : Nat) (y : Nat), i < j → ys[i]? = some (y : Int) → m1[y]? = some true) := hd1
      clear hW1 hT1 hD1 hd1
      by_cases hjy : j < ys.length
      · have hjy' : (j : Int) < (ys.length : Int) := by omega
        obtain ⟨y, hy⟩ : ∃ y, ys[j]? = some y := ⟨_, List.getElem?_eq_getElem hjy⟩
        have hmem := (HY.out y).1 (List.mem_of_getElem? hy)
        obtain ⟨hy0, hyn⟩ := HPS.out _ hmem
        obtain ⟨yn, rfl⟩ : ∃ yn : Nat, y = (yn : Int) := ⟨y.toNat, by simp only at hy0; omega⟩
        simp only at hy0 hyn
        have HYJ : Hid (ys[j]? = some (yn : Int) ∧ (⟨(x : Int), (yn : Int)⟩ : Pr) ∈ ps) := ⟨hy, hmem⟩
        obtain ⟨g, ha, hcl⟩ := HR0.out wr W1.out.bel W1.out.base (by omega)
        subst ha
        have cy : wr.cell? ⟨g, j, none⟩ = some (.int .i32 (yn : Int)) := hcl j _ hy
        clear hcl
        have ck := W1.out.xk.one
        have kw : IntKind.i64.wrap (yn : Int) = (yn : Int) := IntWalk.i64_in _ ⟨by omega, by omega⟩
        have hlt : unm m1 < unm m := by
          have h8 := D1.out.toDq.unm_le
          have h9 := unm_set m x HBB.out
          omega
        have hc1 : t1.length + unm m1 ≤ n := by
          have h8 := D1.out.cnt
          have h9 := unm_set m x HBB.out
          omega
        clear hy hmem
        go_wp2_with (go_at_call 57; (with_reducible refine (IH.out yn m1 t1 wr (by omega) hlt hc1 W1.out T1.out).mono ?_); rintro e v1 ⟨⟨v, rfl⟩, m2, t2, hW2, hT2, hD2, hm2⟩; have W2 : Hid (Wd B bm bn bk bt gm gV n (.func (.func 55) #[] #[.pointer (some ⟨bo, 0, none⟩)]) w0 N m2 v1) := hW2; have T2 : Hid (T t2 v1) := hT2; have D2 : Hid (Dk ps (Rch ps yn) m1 t1 m2 t2) := hD2; have M2 : Hid (m2[yn]? = some true) := hm2; clear hW2 hT2 hD2 hm2)
        go_roundg (ys.length - (j + 1))
        case measure => omega
        case rel =>
          refine ⟨j + 1, m2, t2, rfl, by go_num, by omega, W2.out, T2.out, D1.out.trans D2.out (fun y h => .step HYJ.out.2 h), fun i y hi hyi => ?_⟩
          rcases Nat.lt_succ_iff_lt_or_eq.1 hi with h | h
          · exact D2.out.mono y (E1.out i y h hyi)
          · subst h
            have h9 := HYJ.out.1
            rw [hyi] at h9
            have h8 : y = yn := by have := Option.some.inj h9; omega
            rw [h8]
            exact M2.out
      · have hjy' : ¬ (j : Int) < (ys.length : Int) := by omega
        have ct := W1.out.xt.one
        have hc1 : t1.length < n := by
          have h8 := D1.out.cnt
          have h9 := unm_set m x HBB.out
          omega
        go_wp2_with (go_at_call 55; (with_reducible refine (HTL.out m1 t1 wr x hx hc1 W1.out T1.out).mono ?_); rintro e v1 ⟨⟨v, rfl⟩, hW2, hT2⟩; have W2 : Hid (Wd B bm bn bk bt gm gV n (.func (.func 55) #[] #[.pointer (some ⟨bo, 0, none⟩)]) w0 N m1 v1) := hW2; have T2 : Hid (T (t1 ++ [x]) v1) := hT2; clear hW2 hT2)
        go_end0
        refine ⟨⟨_, rfl⟩, m1, t1 ++ [x], W2.out, T2.out, Dk.node HBB.out D1.out (fun y' he => ?_), D1.out.mono x (by rw [List.getElem?_set, if_pos rfl, if_pos (by rw [HW.out.mlen]; exact hx)])⟩
        obtain ⟨i, hi⟩ := List.getElem?_of_mem ((HY.out (y' : Int)).2 he)
        exact E1.out i y' (by have := (List.getElem?_eq_some_iff.1 hi).1; omega) hi
set_option maxRecDepth 1000000 in
theorem tellL2 (B bm bn bk bt gm gV n bo x : Nat) (tv : Value) (vs : List (Value × List Int)) (qs : List (Nat × Value × TypeId)) (w0 w9 z : World) (N : Nat → List Int) (m : List Bool) (t : List Nat) (hx : x < 131072) (hW : Wd B bm bn bk bt gm gV n tv w0 N m z) (hT : TL B bo vs qs w9 t z) (ht : t.length < 131072) :
    Calls Tryz.prog 55 #[.int .i64 (x : Int), .pointer (some ⟨bo, 0, none⟩)] z fun e z' => (∃ v, e = .returned v) ∧ Wd B bm bn bk bt gm gV n tv w0 N m z' ∧ TL B bo vs qs w9 (t ++ [x]) z' := by
  obtain ⟨i0, hi, hz0, hz1, hz2⟩ := info_parts infoInt
  obtain ⟨v, hb, ho, hap⟩ := hT.ex
  obtain ⟨a1, c1, hv1, -, -⟩ := own_slice ho
  subst hv1
  have HW : Hid (Wd B bm bn bk bt gm gV n tv w0 N m z) := hW
  have HB : Hid (Bx z bo #[.slice a1 t.length c1] 32) := hb
  have HO : Hid (z.ownsRow B 3 1 (.slice a1 t.length c1) t.length (t.map fun (x : Nat) => Value.int .i64 (x : Int))) := ho
  have HBB : Hid (B ≤ bo) := hT.base
  have HAP : Hid (∀ p ∈ vs, ∀ g, (Value.slice a1 t.length c1).ownBlock = some g → p.1.ownBlock ≠ some g) := hap
  have c0 := hb.one
  have f0 := hb.free 0
  obtain ⟨zA, eA, hbA, hsA, BA⟩ := bx1 z #[.int .i64 (x : Int)] 3
  have WA : Hid (Wd B bm bn bk bt gm gV n tv w0 N m zA) := hW.below hbA
  have OA : Hid (zA.ownsRow B 3 1 (.slice a1 t.length c1) t.length (t.map fun (x : Nat) => Value.int .i64 (x : Int))) := ownsRow_below ho hbA (Nat.le_refl _)
  have TA : Hid (TL B bo vs qs w9 t zA) := hT.below hbA
  have XA : Hid (Bx zA bo #[.slice a1 t.length c1] 32) := hb.below hbA hb.lt
  have NA : Hid (∀ j u, [Value.int .i64 (x : Int)][j]? = some u → zA.cell? ((⟨z.heap.size, 0, none⟩ : Addr).add j) = some u) := by unfold Hid; rw [← eA]; exact cells_newR z [Value.int .i64 (x : Int)] 3
  have HSA : Hid (zA.heap.size = z.heap.size + 1) := hsA
  have HEA : Hid (z.alloc (.cells #[.int .i64 (x : Int)] 3) = zA) := eA
  have hbase : B ≤ zA.heap.size := WA.out.base
  clear hW hb ho hT hap hbA BA hsA eA
  go_enter Tryz.func55, Tryz.ntmps55
  go_wp2_with (at_builtin; rw [HEA.out]; refine wpList_append_lies _ rfl _ _ 32 rfl B 3 i0 (.int .i64 0) 1 8 Tryz.underlying32 hi hz0 hz1 hz2 rfl (by decide) (.slice a1 t.length c1) t.length (t.map fun (x : Nat) => Value.int .i64 (x : Int)) rfl OA.out ⟨z.heap.size, 0, none⟩ 1 1 [Value.int .i64 (x : Int)] rfl rfl NA.out (by intro u hu; simp at hu; subst hu; rfl) (by decide) (by unfold maxLen; omega) (by omega) hbase (z.heap.size + 1) HSA.out ?_; intro gg cp wn hown9 hgrow9 hat9 hlt9; have F9 := hidH (TA.out.tell (x := x) (v' := .slice (some ⟨gg, 0, none⟩) (t.length + 1) cp) XA.out OA.out HAP.out ht hown9 hgrow9 (by have h7 := HSA.out; rcases hat9 with e | e; exact .inl e.symm; exact .inr ⟨gg, rfl, by omega⟩)); have W9 : Hid (Wd B bm bn bk bt gm gV n tv w0 N m wn) := WA.out.grw OA.out hgrow9; have hbo : (Value.slice a1 t.length c1).ownBlock ≠ some bo := fun e => XA.out.neR OA.out (by decide) e rfl; have X9 : Hid (Bx wn bo #[.slice a1 t.length c1] 32) := XA.out.grw hgrow9 hbo; have O9 : Hid (wn.ownsRow B 3 1 (.slice (some ⟨gg, 0, none⟩) (t.length + 1) cp) (t.length + 1) ((t.map fun (x : Nat) => Value.int .i64 (x : Int)) ++ [Value.int .i64 (x : Int)])) := hown9; have c9 := X9.out.one; have f9 := X9.out.free 0; clear hown9 hgrow9 hat9 hlt9 hbo)
  go_end0
  exact ⟨⟨_, rfl⟩, W9.out.box X9.out HBB.out (by decide) (by decide) (by decide) (by decide), F9.out⟩
set_option maxRecDepth 1000000 in
theorem walkerL2_any (B gV n bo : Nat) (w0 w : World) (N : Nat → List Int) (hn : n ≤ 131072) (hL : Rl B w gV n N ∧ Below B w0 w ∧ B ≤ w.heap.size) :
    Calls Tryz.prog 24 #[.slice (some ⟨gV, 0, none⟩) n n, .func (.func 55) #[] #[.pointer (some ⟨bo, 0, none⟩)]] w fun e w' => ∃ bm bn bk bt gm, e = .returned (.func (.func 57) #[] #[.pointer (some ⟨bm, 0, none⟩), .pointer (some ⟨bn, 0, none⟩), .pointer (some ⟨bk, 0, none⟩), .pointer (some ⟨bt, 0, none⟩)]) ∧ Wd B bm bn bk bt gm gV n (.func (.func 55) #[] #[.pointer (some ⟨bo, 0, none⟩)]) w0 N (List.replicate n false) w' ∧ Below w.heap.size w w' := by
  obtain ⟨i0, hi, hz0, hz1, hz2⟩ := info_parts infoBool
  have hmf : ∀ (fn : Fn) (first cap : Array Value) (w : World), (Instr.makeFunc fn first cap).run Tryz.prog w = .ok (.func fn first cap) w := fun _ _ _ _ => rfl
  have HL : Hid (Rl B w gV n N ∧ Below B w0 w ∧ B ≤ w.heap.size) := hL
  obtain ⟨s, hs⟩ : ∃ s, w.heap.size = s := ⟨_, rfl⟩
  obtain ⟨w1, e1, hb1, hs1, B1⟩ := bx1 w #[.slice (some ⟨gV, 0, none⟩) n n] 55
  obtain ⟨w2, e2, hb2, hs2, B2⟩ := bx1 w1 #[.func (.func 55) #[] #[.pointer (some ⟨bo, 0, none⟩)]] 59
  rw [hs] at B1 hs1
  rw [hs1] at B2 hs2
  have L2 : Hid (Rl B w2 gV n N ∧ Below B w0 w2 ∧ B ≤ w2.heap.size) := ⟨(hL.1.below (hb1.mono hL.2.2)).below (hb2.mono (by have := hL.2.2; omega)), (hL.2.1.trans (hb1.mono hL.2.2)).trans (hb2.mono (by have := hL.2.2; omega)), by have := hL.2.2; omega⟩
  have X2 : Hid (Bx w2 s #[.slice (some ⟨gV, 0, none⟩) n n] 55 ∧ Bx w2 (s + 1) #[.func (.func 55) #[] #[.pointer (some ⟨bo, 0, none⟩)]] 59 ∧ w2.heap.size = s + 2) := ⟨B1.below hb2 (by omega), B2, hs2⟩
  have HB2 : Hid (Below w.heap.size w w2) := hb1.trans (hb2.mono (by omega))
  have c1 := X2.out.1.one
  have HE1 : Hid (w.alloc (.cells #[.slice (some ⟨gV, 0, none⟩) n n] 55) = w1) := e1
  have HE2 : Hid (w1.alloc (.cells #[.func (.func 55) #[] #[.pointer (some ⟨bo, 0, none⟩)]] 59) = w2) := e2
  clear hL hb1 hb2 B1 B2 hs1 hs2 e1 e2
  go_enter Tryz.func24, Tryz.ntmps24
  go_upto_region 1 with fail
  rw [HE1.out, HE2.out]
  go_wp2_with (at_make; refine wpList_make_full _ rfl _ _ 70 rfl B 4 i0 (.bool false) 1 Tryz.underlying70 hi hz0 hz1 _ _ _ _ n rfl rfl rfl rfl (by rw [hz2]; omega) (by unfold maxLen; omega) L2.out.2.2 ?_; intro w3 hown3 hgr3; have L3 : Hid (Rl B w3 gV n N ∧ Below B w0 w3 ∧ B ≤ w3.heap.size) := (by have hb9 : Below w2.heap.size w2 w3 := (Below.refl _ _).grown hgr3 (Nat.le_refl _) (fun k h => by cases h); exact ⟨L2.out.1.below (hb9.mono L2.out.2.2), L2.out.2.1.trans (hb9.mono L2.out.2.2), Nat.le_trans L2.out.2.2 hb9.size⟩); have B3 : Hid (Below w2.heap.size w2 w3) := (Below.refl _ _).grown hgr3 (Nat.le_refl _) (fun k h => by cases h); have O3 : Hid (w3.ownsRow B 4 1 (.slice (some ⟨w2.heap.size, 0, none⟩) n n) n (List.replicate n (.bool false))) := (by have h9 := rep_made (.bool false) n; rw [show (Value.bool false).cells = #[.bool false] by rfl] at hown3; rw [h9] at hown3; exact hown3); clear hgr3 hown3)
  go_ret
  obtain ⟨w4, e4, hb4, hs4, B4⟩ := bx1 w3 #[.slice (some ⟨w2.heap.size, 0, none⟩) n n] 70
  obtain ⟨w5, e5, hb5, hs5, B5⟩ := bx1 w4 #[.func (.func 57) #[] #[.pointer (some ⟨w3.heap.size, 0, none⟩), .pointer (some ⟨s, 0, none⟩), .pointer (some ⟨w3.heap.size + 1, 0, none⟩), .pointer (some ⟨s + 1, 0, none⟩)]] 59
  rw [hs4] at B5
  rw [e4, e5]
  have hb45 : Below w3.heap.size w3 w5 := hb4.trans (hb5.mono (by omega))
  have hb25 : Below w2.heap.size w2 w5 := B3.out.trans (hb45.mono B3.out.size)
  have hw2 := X2.out.2.2
  refine ⟨w3.heap.size, s, w3.heap.size + 1, s + 1, w2.heap.size, rfl, ⟨L3.out.1.below (hb45.mono L3.out.2.2), ?_, B4.below hb5 (by omega), X2.out.1.below hb25 (by omega), B5, X2.out.2.1.below hb25 (by omega), L3.out.2.1.trans (hb45.mono L3.out.2.2), Nat.le_trans L3.out.2.2 hb45.size⟩, HB2.out.trans (hb25.mono (by omega))⟩
  have h9 := ownsRow_below O3.out hb45 (Nat.le_refl _)
  rw [List.map_replicate]
  exact h9
end Go.Proofs.YtgijcbipnjmhgabGreat
