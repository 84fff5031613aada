import Derived.Test.YtgijcbipnjmhgabGreatGc5
namespace Go.Proofs.YtgijcbipnjmhgabGreat
open Go.ChangeShapes Go.WideShapes Go.ChangeAt Go.RowKit
set_option linter.unusedVariables false
set_option linter.unusedSimpArgs false

structure Ro2 (D C go n : Nat) (w2 : World) (l : List Int) (z : World) : Prop where
  row : z.ownsRow D 3 1 (.slice (some ⟨go, 0, none⟩) n n) n (ivs l)
  bel : Below D w2 z
  base : D ≤ go ∧ go < C ∧ C ≤ z.heap.size
theorem Ro2.len {D C go n : Nat} {w2 z : World} {l : List Int} (h : Ro2 D C go n w2 l z) : l.length = n := by
  have := h.row.1
  simpa using this
theorem Ro2.get {D C go n : Nat} {w2 z : World} {l : List Int} (h : Ro2 D C go n w2 l z) {x : Nat} {y : Int} (hx : l[x]? = some y) : z.cell? ⟨go, x, none⟩ = some (.int .i64 y) ∧ z.frozen? ⟨go, x, none⟩ = false := by
  have h1 := h.row.cells rfl x (.int .i64 y) (by rw [List.getElem?_map, hx]; rfl)
  rw [addr_add, Nat.zero_add] at h1
  exact ⟨h1, h.row.frozenAt x⟩
theorem Ro2.set {D C go n : Nat} {w2 z : World} {l : List Int} (h : Ro2 D C go n w2 l z) (x : Nat) (y : Int) : Ro2 D C go n w2 (l.set x y) (z.setCell ⟨go, x, none⟩ (.int .i64 y)) := by
  refine ⟨?_, h.bel.setCell (p := ⟨go, x, none⟩) h.base.1 _, h.base.1, h.base.2.1, by simp; exact h.base.2.2⟩
  have h1 := (World.ownsRow.stored h.row x (.int .i64 y)).1
  rw [show ivs (l.set x y) = (ivs l).set x (.int .i64 y) by simp [ivs, List.map_set]]
  exact h1
theorem Ro2.work {D C go n : Nat} {w2 z : World} {l : List Int} (h : Ro2 D C go n w2 l z) (i : Nat) : Rk D C go n w2 (.slice (some ⟨z.heap.size, 0, none⟩) 1 1) l [i] (z.alloc (.cells #[.int .i64 (i : Int)] 3)) := by
  have hb : Below z.heap.size z (z.alloc (.cells #[.int .i64 (i : Int)] 3)) := (Below.refl _ _).alloc (Nat.le_refl _) _
  have hb2 := h.base
  exact ⟨ownsRow_below h.row hb (Nat.le_refl _), Qu.first C z i hb2.2.2, h.bel.trans (hb.mono (by omega)), hb2.1, hb2.2.1, Nat.le_trans hb2.2.2 hb.size⟩
theorem Rk.out {D C go n : Nat} {w2 z : World} {v : Value} {l : List Int} {q : List Nat} (h : Rk D C go n w2 v l q z) : Ro2 D C go n w2 l z := ⟨h.row, h.bel, h.base⟩

set_option maxRecDepth 1000000 in
set_option maxHeartbeats 4000000 in
theorem rclasses_ok (n cap : Nat) (a : Option Addr) (ps : List Pr) (w : World) (hL : LiesA w a ps) (hm : ps.length ≤ 8796093022208) (ht : things (n : Int) ps = true) :
    Calls Tryz.prog 12 #[.int .i64 (n : Int), .slice a ps.length cap] w fun e w' => ∃ v, e = .returned (.tuple #[v, .int .i64 0]) ∧ Below w.heap.size w w' ∧ ∃ l, w'.ownsRow w.heap.size 3 1 v l.length (ivs l) ∧ CL (both ps) n l := by
  obtain ⟨i1, hi1, hy0, hy1, hy2⟩ := info_parts infoInt
  obtain ⟨hn, hps⟩ := things_spec ht
  have HL : Hid (LiesA w a ps) := hL
  have HPS : Hid (∀ p ∈ ps, (0 ≤ p.a ∧ p.a < (n : Int)) ∧ (0 ≤ p.b ∧ p.b < (n : Int))) := hps
  have BD : Hid (Calls Tryz.prog 29 #[.int .i64 (n : Int), .slice a ps.length cap] w fun e w' => e = .returned (.bool false) ∧ w' = w) := by have h9 := rbad_any (n : Int) a cap ps w hL (by omega); rw [ht] at h9; exact h9
  have RW : Hid (Calls Tryz.prog 30 #[.int .i64 (n : Int), .slice a ps.length cap, .int .i64 1] w fun e w' => e = .returned (.slice (some ⟨w.heap.size, 0, none⟩) n n) ∧ ∃ rs, Lw w.heap.size w.heap.size n w w' rs ∧ Ad .i64 ps rs) := rows1_any n cap a ps w hL hn (by omega) hps
  clear hL hps ht
  go_enter Tryz.func12, Tryz.ntmps12
  go_upto_region 7 with (first
    | (go_at_call 29; (with_reducible refine BD.out.mono ?_); rintro e v1 ⟨rfl, hv⟩; have hv2 := hv.symm; clear hv; subst hv2)
    | (go_at_call 30; (with_reducible refine RW.out.mono ?_); rintro e w1 ⟨rfl, rs, hl1, ha1⟩; have L1 : Hid (Lw w.heap.size w.heap.size n w w1 rs) := hl1; have A1 : Hid (Ad .i64 ps rs) := ha1; clear hl1 ha1)
    | (go_at_call 30; (with_reducible refine (rows0_any n cap a ps w1 (HL.out.below L1.out.bel) hn (by omega) HPS.out).mono ?_); rintro e w2 ⟨rfl, rs2, hl2, ha2⟩; have L2 : Hid (Lw w1.heap.size w1.heap.size n w1 w2 rs2) := hl2; have A2 : Hid (Ad .i64 (ps.map swapP) rs2) := ha2; clear hl2 ha2)
    | (at_make; refine wpList_make_full _ rfl _ _ 32 rfl w2.heap.size 3 i1 (.int .i64 0) 1 Tryz.underlying32 hi1 hy0 hy1 _ _ _ _ n rfl rfl rfl rfl (by rw [hy2]; omega) (by unfold maxLen; omega) (Nat.le_refl _) ?_; intro w3 hown3 hgr3; have O3 : Hid (Ro2 w2.heap.size (w2.heap.size + 1) w2.heap.size n w2 (List.replicate n 0) w3) := (by have h8 := (hown3.lt w2.heap.size rfl).2; refine ⟨?_, (Below.refl _ w2).grown hgr3 (Nat.le_refl _) (fun k h => by cases h), Nat.le_refl _, Nat.lt_succ_self _, h8⟩; have h9 := rep_made (.int .i64 0) n; rw [show (Value.int .i64 0).cells = #[.int .i64 0] by rfl] at hown3; rw [h9] at hown3; rw [show ivs (List.replicate n 0) = List.replicate n (.int .i64 0) by simp [ivs]]; exact hown3); clear hown3 hgr3))
  obtain ⟨D, hD⟩ : ∃ D, w2.heap.size = D := ⟨_, rfl⟩
  have HD : Hid (w2.heap.size = D) := hD
  obtain ⟨gA, hgA⟩ : ∃ g, w.heap.size = g := ⟨_, rfl⟩
  obtain ⟨gB, hgB⟩ : ∃ g, w1.heap.size = g := ⟨_, rfl⟩
  have L1' : Hid (Lw gA gA n w w2 rs) := by
    have h1 := L1.out.below L2.out.bel
    rw [hgA] at h1
    exact h1
  have HG : Hid (w.heap.size = gA ∧ gA ≤ D) := ⟨hgA, by rw [← hD]; exact L1'.out.base⟩
  rw [hgB] at L2
  rw [hD] at O3
  rw [hD, hgA, hgB]
  clear hD hgA hgB L1 BD RW
  have CX : Hid (∀ x, x < n → ∃ (a1 : Option Addr) (c1 : Nat) (ya : List Int) (a2 : Option Addr) (c2 : Nat) (yb : List Int), (∀ y, y ∈ ya ++ yb ↔ (⟨(x : Int), y⟩ : Pr) ∈ both ps) ∧ ya.length ≤ 8796093022208 ∧ yb.length ≤ 8796093022208 ∧ ∀ z, Below D w2 z → (z.cell? ⟨gA, x, none⟩ = some (.slice a1 ya.length c1) ∧ z.cell? ⟨gB, x, none⟩ = some (.slice a2 yb.length c2)) ∧ (∀ (j : Nat) (y : Int), ya[j]? = some y → ∃ g, a1 = some ⟨g, 0, none⟩ ∧ z.cell? ⟨g, j, none⟩ = some (.int .i64 y)) ∧ ∀ (j : Nat) (y : Int), yb[j]? = some y → ∃ g, a2 = some ⟨g, 0, none⟩ ∧ z.cell? ⟨g, j, none⟩ = some (.int .i64 y)) := by
    intro x hx
    obtain ⟨a1, c1, ya, h1, h2, h3⟩ := lw_cells L1'.out A1.out HD.out hx
    obtain ⟨a2, c2, yb, k1, k2, k3⟩ := lw_cells L2.out A2.out HD.out hx
    rw [List.length_map] at k2
    refine ⟨a1, c1, ya, a2, c2, yb, fun y => ?_, by omega, by omega, fun z hz => ⟨⟨(h3 z hz).1, (k3 z hz).1⟩, (h3 z hz).2, (k3 z hz).2⟩⟩
    rw [List.mem_append, h1, k1]
    unfold both
    rw [List.mem_append]
  go_loopg [9] n (fun gk si wr => ∃ (k : Nat) (l : List Int), gk = n - k ∧ si = .int .i64 (k : Int) ∧ k ≤ n ∧ Ro2 D (D + 1) D n w2 l wr ∧ ∀ y : Nat, y < k → l[y]? = some (-1))
  case atStart => exact ⟨0, _, rfl, rfl, Nat.zero_le _, O3.out, fun y h => absurd h (Nat.not_lt_zero _)⟩
  case round =>
    obtain ⟨k, l, hgk, rfl, hk, hR, hmin⟩ := hrel
    clear O3
    have RR : Hid (Ro2 D (D + 1) D n w2 l wr) := hR
    have HM : Hid (∀ y : Nat, y < k → l[y]? = some (-1)) := hmin
    clear hR hmin
    by_cases hkn : k < n
    · have hkn' : (k : Int) < (n : Int) := by omega
      obtain ⟨y, hy⟩ : ∃ y, l[k]? = some y := ⟨_, List.getElem?_eq_getElem (by rw [RR.out.len]; exact hkn)⟩
      obtain ⟨c0, f0⟩ := RR.out.get hy
      have R9 : Hid (Ro2 D (D + 1) D n w2 (l.set k (-1)) (wr.setCell ⟨D, k, none⟩ (.int .i64 (-1)))) := RR.out.set k (-1)
      clear hy
      go_wp2
      go_roundg (n - (k + 1))
      case measure => omega
      case rel =>
        refine ⟨k + 1, _, rfl, by go_num, by omega, R9.out, fun y hy => ?_⟩
        rw [set_int]
        by_cases hky : k = y ∧ y < l.length
        · rw [if_pos hky]
        · rw [if_neg hky]
          exact HM.out y (by have := RR.out.len; omega)
    · have hkn' : ¬ (k : Int) < (n : Int) := by omega
      have hke : k = n := by omega
      have S0 : Hid (Cs (both ps) 0 (Mt l) (fun y => l[y]?) ∧ ∀ (y : Nat) v, l[y]? = some v → 0 ≤ v ∨ v = -1) := by
        have hneg : ∀ (y : Nat) v, l[y]? = some v → v = -1 := fun y v hv => by
          have h1 := (List.getElem?_eq_some_iff.1 hv).1
          have h2 := HM.out y (by rw [RR.out.len] at h1; omega)
          rw [h2] at hv
          cases hv
          rfl
        exact ⟨Cs.start _ _ _ (fun y ⟨v, h1, h2⟩ => by have := hneg y v h1; omega), fun y v hv => .inr (hneg y v hv)⟩
      clear HM
      go_wp2
      go_loopg [10] n (fun gk si wr => ∃ (i : Nat) (l : List Int), gk = n - i ∧ si = .int .i64 (i : Int) ∧ i ≤ n ∧ Ro2 D (D + 1) D n w2 l wr ∧ Cs (both ps) i (Mt l) (fun y => l[y]?) ∧ ∀ (y : Nat) v, l[y]? = some v → 0 ≤ v ∨ v = -1)
      case atStart => exact ⟨0, _, rfl, rfl, Nat.zero_le _, RR.out, S0.out.1, S0.out.2⟩
      case round =>
        obtain ⟨i, l, hgi, rfl, hi, hR, hC, hS⟩ := hrel
        clear RR S0
        have RR : Hid (Ro2 D (D + 1) D n w2 l wr) := hR
        have CC : Hid (Cs (both ps) i (Mt l) (fun y => l[y]?)) := hC
        have SS : Hid (∀ (y : Nat) v, l[y]? = some v → 0 ≤ v ∨ v = -1) := hS
        clear hR hC hS
        by_cases hin : i < n
        · have hin' : (i : Int) < (n : Int) := by omega
          obtain ⟨y, hy⟩ : ∃ y, l[i]? = some y := ⟨_, List.getElem?_eq_getElem (by rw [RR.out.len]; exact hin)⟩
          obtain ⟨c0, f0⟩ := RR.out.get hy
          have HY : Hid (l[i]? = some y) := hy
          clear hy
          by_cases hyp : 0 ≤ y
          · go_wp2
            go_roundg (n - (i + 1))
            case measure => omega
            case rel => exact ⟨i + 1, l, rfl, by go_num, by omega, RR.out, CC.out.skip ⟨y, HY.out, hyp⟩, SS.out⟩
          · have hym : y = -1 := by rcases SS.out i y HY.out with h | h; exact absurd h hyp; exact h
            subst hym
            have R1 : Hid (Rk D (D + 1) D n w2 (.slice (some ⟨(wr.setCell ⟨D, i, none⟩ (.int .i64 (i : Int))).heap.size, 0, none⟩) 1 1) (l.set i (i : Int)) [i] ((wr.setCell ⟨D, i, none⟩ (.int .i64 (i : Int))).alloc (.cells #[.int .i64 (i : Int)] 3))) := (RR.out.set i (i : Int)).work i
            have F1 : Hid (Cf ps n i l (fun _ => False) (l.set i (i : Int)) [i]) := Cf.first CC.out RR.out.len SS.out HY.out
            have hsz : (wr.setCell ⟨D, i, none⟩ (.int .i64 (i : Int))).heap.size = wr.heap.size := by simp
            rw [hsz] at R1
            clear hsz
            go_upto_region 16 with fail
            go_loopg [11] (unm (mks (l.set i (i : Int))) + 1) (fun gq s11 wr => ∃ (l1 : List Int) (q : List Nat) (v11 : Value), s11 = v11 ∧ gq = unm (mks l1) + q.length ∧ Rk D (D + 1) D n w2 v11 l1 q wr ∧ Cf ps n i l (fun _ => False) l1 q ∧ unm (mks l1) + q.length ≤ 131073)
            case atStart =>
              refine ⟨_, [i], _, rfl, rfl, R1.out, F1.out, ?_⟩
              have h1 := mks_le (l.set i (i : Int))
              rw [List.length_set, RR.out.len] at h1
              simp only [List.length_cons, List.length_nil]
              omega
            case round =>
              obtain ⟨l1, q, v11, hv11, hgq, hR1, hF1, hsum⟩ := hrel
              have hv' := hv11.symm
              clear hv11
              subst hv'
              clear R1 F1 c0 f0
              have R1 : Hid (Rk D (D + 1) D n w2 v11 l1 q wr) := hR1
              have F1 : Hid (Cf ps n i l (fun _ => False) l1 q) := hF1
              clear hR1 hF1
              rcases split_last q with hq | ⟨p, x, hq⟩
              · subst hq
                obtain ⟨g, off, cap9, cur, hv, -⟩ := R1.out.que
                subst hv
                go_wp2
                go_roundg (n - (i + 1))
                case measure => omega
                case rel => exact ⟨i + 1, l1, rfl, by go_num, by omega, R1.out.out, F1.out.fin CC.out, F1.out.sgn⟩
              · subst hq
                simp only [List.length_append, List.length_cons, List.length_nil] at hgq hsum
                obtain ⟨g, off, cap9, hv, hcap, cx, hq2⟩ := R1.out.que.last
                subst hv
                have R2 : Hid (Rk D (D + 1) D n w2 (.slice (some ⟨g, off, none⟩) p.length cap9) l1 p wr) := ⟨R1.out.row, hq2, R1.out.bel, R1.out.base⟩
                have F2 : Hid (Cf ps n i l (fun y => y = x) l1 p) := F1.out.pop
                have HRX : Hid (Mt l1 x ∧ Rch (both ps) i x) := F1.out.qm x (by simp)
                have hxn : x < n := by
                  obtain ⟨v, h1, _⟩ := HRX.out.1
                  have := (List.getElem?_eq_some_iff.1 h1).1
                  rw [F1.out.len] at this
                  exact this
                have hxn' : (x : Int) < (n : Int) := by omega
                have kp : IntKind.i64.wrap ((p.length : Int) + 1 - 1) = (p.length : Int) := by rw [IntWalk.i64_in _ ⟨by omega, by omega⟩]; omega
                have hl0 : (0 : Int) < (p.length : Int) + 1 := by omega
                have hl1 : (p.length : Int) < (p.length : Int) + 1 := by omega
                have hl2 : (p.length : Int) ≤ (cap9 : Int) := by omega
                obtain ⟨a1, e1, ya, a2, e2, yb, hyy, hya, hyb, hcl⟩ := CX.out x hxn
                have HYY : Hid (∀ y, y ∈ ya ++ yb ↔ (⟨(x : Int), y⟩ : Pr) ∈ both ps) := hyy
                have HCL : Hid (∀ z, Below D w2 z → (z.cell? ⟨gA, x, none⟩ = some (.slice a1 ya.length e1) ∧ z.cell? ⟨gB, x, none⟩ = some (.slice a2 yb.length e2)) ∧ (∀ (j : Nat) (y : Int), ya[j]? = some y → ∃ g, a1 = some ⟨g, 0, none⟩ ∧ z.cell? ⟨g, j, none⟩ = some (.int .i64 y)) ∧ ∀ (j : Nat) (y : Int), yb[j]? = some y → ∃ g, a2 = some ⟨g, 0, none⟩ ∧ z.cell? ⟨g, j, none⟩ = some (.int .i64 y)) := hcl
                clear hyy hcl hq2 R1 F1
                go_upto_region 20 with fail
                have H0 : Hid (unm (mks l1) + p.length = unm (mks l1) + p.length) := rfl
                obtain ⟨N, hN⟩ : ∃ N : Nat, ya.length + yb.length = N := ⟨_, rfl⟩
                have kN : IntKind.i64.wrap ((ya.length : Int) + (yb.length : Int)) = (N : Int) := by rw [IntWalk.i64_in _ ⟨by omega, by omega⟩]; omega
                have HNN : Hid (ya.length + yb.length = N) := hN
                have hN2 : N ≤ 17592186044416 := by omega
                obtain ⟨sm, hsm⟩ : ∃ sm : Nat, unm (mks l1) + p.length = sm := ⟨_, rfl⟩
                have HSM : Hid (unm (mks l1) + p.length = sm) := hsm
                have hsm2 : sm + 1 ≤ 131073 := by omega
                clear hN hsm cx kp hl0 hl1 hl2 H0
                go_loopg [11, 13] N (fun g4 s11 s13 wr => ∃ (k : Nat) (l2 : List Int) (q2 : List Nat) (v2 : Value), s11 = v2 ∧ s13 = .int .i64 (k : Int) ∧ g4 = N - k ∧ k ≤ N ∧ Rk D (D + 1) D n w2 v2 l2 q2 wr ∧ Cf ps n i l (fun y => y = x) l2 q2 ∧ unm (mks l2) + q2.length = sm ∧ ∀ (j y : Nat), j < k → (ya ++ yb)[j]? = some (y : Int) → Mt l2 y)
                case atStart => exact ⟨0, l1, p, _, rfl, rfl, rfl, Nat.zero_le _, R2.out, F2.out, HSM.out, fun j y h => absurd h (Nat.not_lt_zero _)⟩
                case round =>
                  obtain ⟨k, l2, q2, v2, hv2, rfl, hg4, hk, hR3, hF3, hs3, hd3⟩ := hrel
                  have hv' := hv2.symm
                  clear hv2
                  subst hv'
                  clear R2 F2
                  have R3 : Hid (Rk D (D + 1) D n w2 v2 l2 q2 wr) := hR3
                  have F3 : Hid (Cf ps n i l (fun y => y = x) l2 q2) := hF3
                  have S3 : Hid (unm (mks l2) + q2.length = sm) := hs3
                  have E3 : Hid (∀ (j y : Nat), j < k → (ya ++ yb)[j]? = some (y : Int) → Mt l2 y) := hd3
                  have hql : q2.length ≤ 131072 + 1 := by omega
                  clear hR3 hF3 hs3 hd3
                  obtain ⟨X, F, hX, hF, onto⟩ := class_of (fun v => Below wr.heap.size wr v) (Below.refl _ wr)
                  have HF : Hid (∀ y, Below wr.heap.size wr (F y)) := hF
                  have HO : Hid (∀ v, Below wr.heap.size wr v → ∃ x, v = F x) := fun v h => by obtain ⟨x, hx⟩ := onto v h; exact ⟨x, hx.symm⟩
                  have ca : ∀ q, (F q).cell? ⟨gA, x, none⟩ = some (.slice a1 ya.length e1) := fun q => (HCL.out _ (R3.out.below (hF q)).bel).1.1
                  have cb : ∀ q, (F q).cell? ⟨gB, x, none⟩ = some (.slice a2 yb.length e2) := fun q => (HCL.out _ (R3.out.below (hF q)).bel).1.2
                  go_upto_region 20 with fail
                  refine region_class F (by kernel_rfl) (by kernel_rfl) (by obtain ⟨x, hx⟩ := HO.out _ (Below.refl _ _).drew; exact ⟨x, hx.symm⟩) ?_
                  repeat (go_big_quiet_step (fail))
                  refine wpQuiet_nil ?_
                  rintro _ ⟨nq, rfl⟩
                  obtain ⟨z0, hz0⟩ : ∃ z, F nq = z := ⟨_, rfl⟩
                  have R4 : Hid (Rk D (D + 1) D n w2 v2 l2 q2 z0) := R3.out.below (hz0 ▸ HF.out nq)
                  rw [hz0]
                  clear hz0 HF HO hF onto ca cb R3
                  by_cases hkN : k < N
                  · have hkN' : (k : Int) < (N : Int) := by omega
                    obtain ⟨y, hy⟩ : ∃ y, (ya ++ yb)[k]? = some y := ⟨_, List.getElem?_eq_getElem (by rw [List.length_append]; have := HNN.out; omega)⟩
                    have hmem := (HYY.out y).1 (List.mem_of_getElem? hy)
                    obtain ⟨hy0', hyn⟩ := (both_range HPS.out _ hmem).2
                    obtain ⟨yn, rfl⟩ : ∃ yn : Nat, y = (yn : Int) := ⟨y.toNat, by simp only at hy0'; omega⟩
                    simp only at hy0' hyn
                    have HYK : Hid ((ya ++ yb)[k]? = some (yn : Int) ∧ (⟨(x : Int), (yn : Int)⟩ : Pr) ∈ both ps) := ⟨hy, hmem⟩
                    obtain ⟨⟨ca, cb⟩, ea, eb⟩ := HCL.out z0 R4.out.bel
                    clear hy hmem
                    go_upto_if 85 with fail
                    go_cut [14] (fun s wc => s = .int .i64 (yn : Int) ∧ Below z0.heap.size z0 wc)
                    case first =>
                      by_cases hka : k < ya.length
                      · have hka' : (k : Int) < (ya.length : Int) := by omega
                        have hyk : ya[k]? = some (yn : Int) := by have h9 := HYK.out.1; rw [List.getElem?_append_left hka] at h9; exact h9
                        obtain ⟨ge, hga, cy⟩ := ea k _ hyk
                        subst hga
                        clear hyk ea eb
                        go_wp2_with fail
                        go_meet
                        exact ⟨rfl, Below.refl _ _⟩
                      · have hka' : ¬ (k : Int) < (ya.length : Int) := by omega
                        obtain ⟨j, hj⟩ : ∃ j : Nat, k - ya.length = j := ⟨_, rfl⟩
                        have kj : IntKind.i64.wrap ((k : Int) - (ya.length : Int)) = (j : Int) := by rw [IntWalk.i64_in _ ⟨by omega, by omega⟩]; omega
                        have hjb : (j : Int) < (yb.length : Int) := by have := HNN.out; omega
                        have hyk : yb[j]? = some (yn : Int) := by have h9 := HYK.out.1; rw [List.getElem?_append_right (by omega), hj] at h9; exact h9
                        obtain ⟨X, F, hX, hF, onto⟩ := class_of (fun v => Below z0.heap.size z0 v) (Below.refl _ z0)
                        have HF : Hid (∀ y, Below z0.heap.size z0 (F y)) := hF
                        have HO : Hid (∀ v, Below z0.heap.size z0 v → ∃ x, v = F x) := fun v h => by obtain ⟨x, hx⟩ := onto v h; exact ⟨x, hx.symm⟩
                        obtain ⟨ge, hga, -⟩ := eb j _ hyk
                        subst hga
                        have ca2 : ∀ q, (F q).cell? ⟨gA, x, none⟩ = some (.slice a1 ya.length e1) := fun q => (HCL.out _ (R4.out.below (hF q)).bel).1.1
                        have cb2 : ∀ q, (F q).cell? ⟨gB, x, none⟩ = some (.slice (some ⟨ge, 0, none⟩) yb.length e2) := fun q => (HCL.out _ (R4.out.below (hF q)).bel).1.2
                        have cy2 : ∀ q, (F q).cell? ⟨ge, j, none⟩ = some (.int .i64 (yn : Int)) := fun q => by
                          obtain ⟨g9, h9, h8⟩ := (HCL.out _ (R4.out.below (hF q)).bel).2.2 j _ hyk
                          simp only [Option.some.injEq, Addr.mk.injEq] at h9
                          obtain ⟨rfl, -, -⟩ := h9
                          exact h8
                        clear hyk ea eb hj ca cb
                        go_upto_region 25 with fail
                        refine region_class F (by kernel_rfl) (by kernel_rfl) (by obtain ⟨x, hx⟩ := HO.out _ (Below.refl _ _).drew; exact ⟨x, hx.symm⟩) ?_
                        repeat (go_big_quiet_step (fail))
                        refine wpQuiet_nil ?_
                        rintro _ ⟨nq2, rfl⟩
                        go_wp2_with fail
                        go_meet
                        exact ⟨rfl, HF.out nq2⟩
                    case rest =>
                      obtain ⟨rfl, hwc⟩ := hcut
                      have R5 : Hid (Rk D (D + 1) D n w2 v2 l2 q2 wc) := R4.out.below hwc
                      clear R4 hwc ca cb ea eb
                      obtain ⟨v, hv⟩ : ∃ v, l2[yn]? = some v := ⟨_, List.getElem?_eq_getElem (by rw [F3.out.len]; omega)⟩
                      have HV : Hid (l2[yn]? = some v) := hv
                      obtain ⟨c5, f5⟩ := R5.out.get hv
                      clear hv
                      by_cases hv0 : 0 ≤ v
                      · have hv1 : ¬ v < 0 := by omega
                        go_wp2
                        go_roundg (N - (k + 1))
                        case measure => omega
                        case rel =>
                          refine ⟨k + 1, l2, q2, _, rfl, by go_num, rfl, by omega, R5.out, F3.out, S3.out, fun j y hj hyj => ?_⟩
                          rcases Nat.lt_succ_iff_lt_or_eq.1 hj with h | h
                          · exact E3.out j y h hyj
                          · subst h
                            have h9 := HYK.out.1
                            rw [hyj] at h9
                            have h8 : y = yn := by have := Option.some.inj h9; omega
                            rw [h8]
                            exact ⟨v, HV.out, hv0⟩
                      · have hvm : v = -1 := by rcases F3.out.sgn yn v HV.out with h | h; exact absurd h hv0; exact h
                        subst hvm
                        go_upto_region 28 with fail
                        obtain ⟨z1, hz1⟩ : ∃ z1, wc.setCell ⟨D, yn, none⟩ (.int .i64 (i : Int)) = z1 := ⟨_, rfl⟩
                        have R6 : Hid (Rk D (D + 1) D n w2 v2 (l2.set yn (i : Int)) q2 z1) := by unfold Hid; rw [← hz1]; exact R5.out.set yn (i : Int)
                        rw [hz1]
                        clear hz1 c5 f5
                        obtain ⟨zA, eA, hbA, hsA, BA⟩ := bx1 z1 #[.int .i64 (yn : Int)] 3
                        have R7 : Hid (Rk D (D + 1) D n w2 v2 (l2.set yn (i : Int)) q2 zA) := R6.out.below hbA
                        have HEA : Hid (z1.alloc (.cells #[.int .i64 (yn : Int)] 3) = zA) := eA
                        have cA : zA.cell? ⟨z1.heap.size, 0, none⟩ = some (.int .i64 (yn : Int)) := BA.one
                        have hq7 : q2.length ≤ 131072 := by
                          have h1 := mks_set (i := i) HV.out
                          have h2 := S3.out
                          omega
                        clear eA hbA hsA BA
                        go_wp2_with (at_builtin; rw [HEA.out]; refine wpList_que _ rfl _ _ 32 rfl i1 (.int .i64 0) Tryz.underlying32 hi1 hy0 hy1 hy2 rfl (D + 1) v2 q2 yn rfl R7.out.que R7.out.base.2.2 ⟨z1.heap.size, 0, none⟩ rfl cA hq7 ?_; intro v9 w9 hq9 hg9; have R9 : Hid (Rk D (D + 1) D n w2 v9 (l2.set yn (i : Int)) (q2 ++ [yn]) w9) := R7.out.grw hq9 hg9; clear hq9 hg9)
                        go_roundg (N - (k + 1))
                        case measure => omega
                        case rel =>
                          refine ⟨k + 1, _, _, _, rfl, by go_num, rfl, by omega, R9.out, F3.out.push HRX.out.2 HV.out HYK.out.2, ?_, fun j y hj hyj => ?_⟩
                          · have h1 := mks_set (i := i) HV.out
                            have h2 := S3.out
                            simp only [List.length_append, List.length_cons, List.length_nil]
                            omega
                          · rcases Nat.lt_succ_iff_lt_or_eq.1 hj with h | h
                            · exact (E3.out j y h hyj).set
                            · subst h
                              have h9 := HYK.out.1
                              rw [hyj] at h9
                              have h8 : y = yn := by have := Option.some.inj h9; omega
                              rw [h8]
                              exact Mt.here (List.getElem?_eq_some_iff.1 HV.out).1
                  · have hkN' : ¬ (k : Int) < (N : Int) := by omega
                    go_wp2
                    go_roundg (unm (mks l2) + q2.length)
                    case measure => have h9 := S3.out; have h8 := HSM.out; omega
                    case rel =>
                      refine ⟨l2, q2, _, rfl, rfl, R4.out, F3.out.done (fun y' he => ?_), by have h9 := S3.out; omega⟩
                      obtain ⟨j, hj⟩ := List.getElem?_of_mem ((HYY.out (y' : Int)).2 he)
                      exact E3.out j y' (by have h1 := (List.getElem?_eq_some_iff.1 hj).1; rw [List.length_append] at h1; have := HNN.out; omega) hj
        · have hin' : ¬ (i : Int) < (n : Int) := by omega
          have hie : i = n := by omega
          have FIN : Hid (CL (both ps) n l) := by
            have h1 := CC.out
            rw [hie] at h1
            exact h1.fin RR.out.len
          go_wp2
          go_ret2
          have hb : Below gA w w2 := L1'.out.bel
          refine ⟨_, rfl, ?_, l, ?_, FIN.out⟩
          · rw [HG.out.1]; exact hb.trans (RR.out.bel.mono HG.out.2)
          · have h9 := own_lower RR.out.row HG.out.2
            rw [FIN.out.1, HG.out.1]
            exact h9
end Go.Proofs.YtgijcbipnjmhgabGreat
