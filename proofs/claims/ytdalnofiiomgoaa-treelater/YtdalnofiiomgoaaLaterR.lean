import Derived.Test.YtdalnofiiomgoaaWn
import Derived.Test.YtdalnofiiomgoaaWs
import Derived.Test.YtdalnofiiomgoaaWalksW
import Derived.Laws.EntriesVeiled
namespace Go.Proofs.Ytdalnofiiomgoaa
open Go.ChangeShapes Go.WideShapes Go.ChangeAt Go.RowKit
attribute [local go_sem] Oper.semAt_some
set_option linter.unusedVariables false

theorem But.set (B n0 i : Nat) (W : World) (u : Value) : But B n0 W (W.setCell ⟨B, i, none⟩ u) :=
  ⟨(Below.refl 0 W).setCell (p := ⟨B, i, none⟩) (Nat.zero_le _) _, fun k _ hne => Below.heap_setCell W ⟨B, i, none⟩ u k hne⟩
theorem rwalk_l (a : Option Addr) (cap l : Nat) (ns : List Nd) (G : List Int) (n u : Int) (w : World) (hll : l = ns.length) (hG : wkT ns (chB u) n (-1) = G) (h : LiesA w a ns) (hl : ns.length * 32 ≤ 140737488351232) (hn0 : -9223372036854775808 ≤ n) (hn1 : n ≤ 9223372036854775807) (hu0 : 0 ≤ u) (hu1 : u < 18446744073709551616) :
    Calls Try.prog 12 #[.agg #[.slice a l cap], .int .i64 n, .int .u64 u, .int .i64 (-1)] w fun e w' => ∃ v, e = .returned v ∧
      w'.ownsRow w.heap.size 3 1 v G.length (flat G) ∧ Below w.heap.size w w' := by
  subst hll; subst hG; exact rwalk_any a cap ns n u (-1) w h hl hn0 hn1 hu0 hu1 (by decide)
/-- what stands behind TreeLater's first three statements -/
noncomputable def laterRest : Code := match Try.f4.body with | some (.seq _ (.seq _ (.seq _ c))) => c | _ => .skip

set_option maxRecDepth 1000000 in
set_option maxHeartbeats 4000000 in
theorem later_rest (s : ByteArray) (a1 a2 : Option Addr) (c1 c2 g1 g2 bc bw bt bu : Nat) (ts : List Tk) (ns : List Nd) (n u : Int) (w v : World)
    (hl2 : ns.length * 32 ≤ 140737488351232) (bn0 : -9223372036854775808 ≤ n) (bn1 : n ≤ 9223372036854775807) (bu0 : 0 ≤ u) (hbu : u < 18446744073709551616)
    (hbel : Below w.heap.size w v) (hres : Boxed v (w.heap.size + 1) 4 (.bool false)) (o1 : w.heap.size + 2 ≤ g2) (o2 : g2 < bc) (o3 : bc < bu) (o4 : bc < bt) (o5 : bc < bw) (o6 : bu < v.heap.size) (o7 : bt + 2 < v.heap.size) (o8 : bw < v.heap.size)
    (hC : v.cell? ⟨bc, 2, none⟩ = some (.slice (some ⟨g2, 0, none⟩) ns.length (ns.length + 2))) (hL : Lies v g2 0 ns) (hZ : ∀ i, v.frozen? ⟨g2, i, none⟩ = false)
    (hBw : Bx v bw #[.func (.func 23) #[] #[.pointer (some ⟨bt, 0, none⟩), .pointer (some ⟨bt + 1, 0, none⟩), .pointer (some ⟨bt + 2, 0, none⟩)]] 33)
    (hB1 : Bx v bt #[.slice (some ⟨g2, 0, none⟩) ns.length (ns.length + 2)] 25) (hB2 : Bx v (bt + 1) #[.int .i64 n] 3) (hB3 : Bx v (bt + 2) #[.func (.func 22) #[] #[.pointer (some ⟨bu, 0, none⟩)]] 30) (hBu : Bx v bu #[.int .u64 u] 28) :
    Code.wp Try.prog laterRest (bodyPostM Fence.wide 9 Try.prog Try.f4 fun e w' => e = .returned (.bool true) ∧ Below w.heap.size w w')
      { tmps := #[.agg #[.string s, .slice a1 ts.length c1, .slice a2 ns.length c2], .int .i64 n, .int .u64 u, .pointer (some ⟨w.heap.size, 0, none⟩), undef, undef, .pointer (some ⟨w.heap.size + 1, 0, none⟩), .pointer (some ⟨bc, 0, none⟩), .pointer (some ⟨bw, 0, none⟩), undef, undef, undef, undef, undef, undef,
        .agg #[.string s, .slice a1 ts.length c1, .slice a2 ns.length c2], .agg #[.string s, .slice (some ⟨g1, 0, none⟩) ts.length (ts.length + 2), .slice (some ⟨g2, 0, none⟩) ns.length (ns.length + 2)], .pointer (some ⟨bc, 2, none⟩), .agg #[.slice (some ⟨g2, 0, none⟩) ns.length (ns.length + 2)], .int .i64 n, .int .u64 u, .func (.func 22) #[] #[.pointer (some ⟨bu, 0, none⟩)], .func (.func 23) #[] #[.pointer (some ⟨bt, 0, none⟩), .pointer (some ⟨bt + 1, 0, none⟩), .pointer (some ⟨bt + 2, 0, none⟩)], undef, undef, undef, undef, undef, undef, undef, undef, undef, undef, undef, undef, undef, undef, undef, undef, undef, undef, undef, undef, undef, undef, undef, undef, undef, undef, undef, undef, undef, undef, undef, undef, undef, undef, undef, undef, undef, undef, undef, undef, undef, undef, undef, undef, undef, undef, undef, undef, undef, undef, undef, undef, undef, undef, undef, undef, undef, undef, undef, undef, undef, undef, undef, undef, undef, undef, undef, undef, undef], defers := [] } v := by
  have HL0 : Hid (Lies v g2 0 ns) := hL
  have HZ : Hid (∀ i, v.frozen? ⟨g2, i, none⟩ = false) := hZ
  have HBEL : Hid (Below w.heap.size w v) := hbel
  have HRES : Hid (Boxed v (w.heap.size + 1) 4 (.bool false)) := hres
  have HBW : Hid (Bx v bw #[.func (.func 23) #[] #[.pointer (some ⟨bt, 0, none⟩), .pointer (some ⟨bt + 1, 0, none⟩), .pointer (some ⟨bt + 2, 0, none⟩)]] 33) := hBw
  have HB1 : Hid (Bx v bt #[.slice (some ⟨g2, 0, none⟩) ns.length (ns.length + 2)] 25) := hB1
  have HB2 : Hid (Bx v (bt + 1) #[.int .i64 n] 3) := hB2
  have HB3 : Hid (Bx v (bt + 2) #[.func (.func 22) #[] #[.pointer (some ⟨bu, 0, none⟩)]] 30) := hB3
  have HBU : Hid (Bx v bu #[.int .u64 u] 28) := hBu
  have cw := hBw.one
  have HCC : Hid (v.cell? ⟨bc, 2, none⟩ = some (.slice (some ⟨g2, 0, none⟩) ns.length (ns.length + 2))) := hC
  have hef := eql_fun
  clear hL hZ hbel hres hBw hB1 hB2 hB3 hBu
  dsimp only [laterRest, Try.f4]
  go_wp2
  clear hef cw hC
  go_loopw [29] (fun i wr => ∃ k : Nat, k ≤ ns.length ∧ i = .int .i64 (k : Int) ∧ But g2 v.heap.size v wr ∧ Lies wr g2 0 (stk ns k) ∧ ∀ i, wr.frozen? ⟨g2, i, none⟩ = false) (fun i _ => ns.length - (intOf i).toNat)
  case atStart => exact ⟨0, by omega, rfl, But.refl _ _ _, by rw [stk_zero]; exact HL0.out, HZ.out⟩
  case round =>
    obtain ⟨k, hk, rfl, hbut, hlies, hfz⟩ := hrel
    have HBT : Hid (But g2 v.heap.size v wr) := hbut
    have HLK : Hid (Lies wr g2 0 (stk ns k)) := hlies
    have HFZ : Hid (∀ i, wr.frozen? ⟨g2, i, none⟩ = false) := hfz
    have cc : wr.cell? ⟨bc, 2, none⟩ = some (.slice (some ⟨g2, 0, none⟩) ns.length (ns.length + 2)) := (hbut.cell (p := ⟨bc, 2, none⟩) (by show bc < v.heap.size; omega) (by show bc ≠ g2; omega)).trans HCC.out
    clear hbut hlies hfz
    by_cases hkl : k < ns.length
    · obtain ⟨x, hx⟩ : ∃ e, ns[k]? = some e := ⟨_, List.getElem?_eq_getElem hkl⟩
      have HX : Hid (ns[k]? = some x) := hx
      have hk1 : (k : Int) < (ns.length : Int) := by omega
      clear hx
      by_cases h5 : k % 5 = 3
      · have d3 : wr.cell? ⟨g2, k * 4 + 3, none⟩ = some (.int .i64 x.s) := by simpa using (HLK.out.nd (Below.refl _ _) (stk_at HX.out)).2.2.2
        have f3 := HFZ.out (k * 4 + 3)
        have m1 : ((k : Int) % 5 == 3) = true := by simp; omega
        have m2 : ((k : Int).tmod 5 == 3) = true := by rw [Int.tmod_eq_emod_of_nonneg (by omega)]; exact m1
        go_wp2
        go_roundw
        case rel =>
          refine ⟨k + 1, by omega, by simp, HBT.out.trans (But.set g2 _ _ _ _), ?_, fun i => (World.frozen?_setCell _ _ _ _).trans (HFZ.out i)⟩
          rw [stk_step HX.out, if_pos h5]
          simpa using HLK.out.setS (stk_at HX.out) 1
        case measure => simp [intOf]; omega
      · have m1 : ((k : Int) % 5 == 3) = false := beq_eq_false_iff_ne.2 (by omega)
        have m2 : ((k : Int).tmod 5 == 3) = false := by rw [Int.tmod_eq_emod_of_nonneg (by omega)]; exact m1
        go_wp2
        go_roundw
        case rel => exact ⟨k + 1, by omega, by simp, HBT.out, by rw [stk_same HX.out h5]; exact HLK.out, HFZ.out⟩
        case measure => simp [intOf]; omega
    · have hke : k = ns.length := by omega
      have hk1 : ¬ (k : Int) < (ns.length : Int) := by omega
      have HLE : Hid (Lies wr g2 0 (stp ns)) := by have h := HLK.out; rw [hke, stk_end] at h; exact h
      clear HLK hke
      have HLA : Hid (LiesA wr (some ⟨g2, 0, none⟩) (stp ns)) := .inr ⟨g2, 0, rfl, HLE.out⟩
      have hls : (stp ns).length * 32 ≤ 140737488351232 := by rw [stp_len]; exact hl2
      obtain ⟨G, hG⟩ : ∃ G, wk (stp ns) (chB u) n = G := ⟨_, rfl⟩
      have HG : Hid (wk (stp ns) (chB u) n = G) := hG
      have hgl : G.length ≤ ns.length := by rw [← hG]; exact Nat.le_trans (wk_len _ _ _) (Nat.le_of_eq (stp_len ns))
      have HT : Hid (wkT (stp ns) (chB u) n (-1) = G) := by unfold Hid wkT; rw [if_pos (by decide)]; exact hG
      clear hG
      have cw : wr.cell? ⟨bw, 0, none⟩ = some (.func (.func 23) #[] #[.pointer (some ⟨bt, 0, none⟩), .pointer (some ⟨bt + 1, 0, none⟩), .pointer (some ⟨bt + 2, 0, none⟩)]) := (HBT.out.bx HBW.out o8 (by omega)).one
      have hvr := HBT.out.size
      go_wp2_with (go_at_call 12; refine (rwalk_l (some ⟨g2, 0, none⟩) (ns.length + 2) ns.length (stp ns) G n u wr (stp_len ns).symm HT.out HLA.out hls bn0 bn1 bu0 hbu).mono ?_; rintro e wa ⟨va, rfl, oa, hba⟩; obtain ⟨ga, ca, rfl, qa, -, -⟩ := own_form oa; have HBA : Hid (Below wr.heap.size wr wa) := hba; have HQA : Hid (LiesA wa ga G) := qa; have cwb : ((wa.alloc (.cells #[.slice ga G.length ca] 29)).alloc (.cells #[.int .i64 0] 3)).cell? ⟨bw, 0, none⟩ = some (.func (.func 23) #[] #[.pointer (some ⟨bt, 0, none⟩), .pointer (some ⟨bt + 1, 0, none⟩), .pointer (some ⟨bt + 2, 0, none⟩)]) := ((((Below.refl wa.heap.size wa).alloc (Nat.le_refl _) _).alloc (by simp) _).cell (p := ⟨bw, 0, none⟩) (by have := hba.size; show bw < wa.heap.size; omega)).trans ((hba.cell (p := ⟨bw, 0, none⟩) (by show bw < wr.heap.size; omega)).trans cw); clear hba qa oa)
      clear cw cwb cc
      obtain ⟨vb0, e0, b0, s0, B10⟩ := bx1 wa #[.slice ga G.length ca] 29
      obtain ⟨vb, e1, b1, s1, B11⟩ := bx1 vb0 #[.int .i64 0] 3
      rw [e0, e1]
      have hwa := HBA.out.size
      have HAV : Hid (Below wr.heap.size wr vb0) := HBA.out.trans (b0.mono hwa)
      have X1 : Bx vb0 bt #[.slice (some ⟨g2, 0, none⟩) ns.length (ns.length + 2)] 25 := (HBT.out.bx HB1.out (by omega) (by omega)).below HAV.out (by omega)
      have X2 : Bx vb0 (bt + 1) #[.int .i64 n] 3 := (HBT.out.bx HB2.out (by omega) (by omega)).below HAV.out (by omega)
      have X3 : Bx vb0 (bt + 2) #[.func (.func 22) #[] #[.pointer (some ⟨bu, 0, none⟩)]] 30 := (HBT.out.bx HB3.out (by omega) (by omega)).below HAV.out (by omega)
      have X4 : Bx vb0 bu #[.int .u64 u] 28 := (HBT.out.bx HBU.out (by omega) (by omega)).below HAV.out (by omega)
      have X5 : Bx vb0 bw #[(.func (.func 23) #[] #[.pointer (some ⟨bt, 0, none⟩), .pointer (some ⟨bt + 1, 0, none⟩), .pointer (some ⟨bt + 2, 0, none⟩)])] 33 := (HBT.out.bx HBW.out (by omega) (by omega)).below HAV.out (by omega)
      have HX5 : Hid (Bx vb0 bw #[(.func (.func 23) #[] #[.pointer (some ⟨bt, 0, none⟩), .pointer (some ⟨bt + 1, 0, none⟩), .pointer (some ⟨bt + 2, 0, none⟩)])] 33) := X5
      have HRS : Hid (Boxed vb0 (w.heap.size + 1) 4 (.bool false)) := (HAV.out.block (w.heap.size + 1) (by omega)).trans ((HBT.out.block (w.heap.size + 1) (by omega) (by omega)).trans HRES.out)
      have HWV : Hid (Below w.heap.size w vb0) := (HBEL.out.trans (HBT.out.below (by omega) (by omega))).trans (HAV.out.mono (by omega))
      have HQ0 : Hid (LiesA vb0 ga G) := HQA.out.below b0
      have HLB : Hid (LiesA vb0 (some ⟨g2, 0, none⟩) (stp ns)) := HLA.out.below HAV.out
      have HX10 : Hid (Bx vb0 wa.heap.size #[.slice ga G.length ca] 29) := B10
      have HSQ : Hid (∀ m, 2 ≤ m → SeqO false Fence.wide m Try.prog 23 #[.pointer (some ⟨bt, 0, none⟩), .pointer (some ⟨bt + 1, 0, none⟩), .pointer (some ⟨bt + 2, 0, none⟩)] vb0.heap.size G vb0) := by
        intro m hm
        have h := walk1s_seq (b := false) Fence.wide rfl m hm bt (bt + 1) (bt + 2) (some ⟨g2, 0, none⟩) (ns.length + 2) (stp ns) n vb0 (by omega) (by omega) (by omega) (by rw [stp_len]; exact X1.one) X2.one 22 #[.pointer (some ⟨bu, 0, none⟩)] (chB u) (enters_of Try.func22 (by kernel_rfl) rfl) X3.one
          (fun i hi W hW => (chosen1_any u i bu W ((X4.below hW (by omega)).one) (by rw [stp_len] at hi; omega) bu0 hbu).mono (by rintro e w' ⟨rfl, rfl⟩; exact ⟨rfl, Below.refl _ _⟩)) HLB.out hls bn0 bn1
        rw [HG.out] at h
        exact h
      have HB1v : Hid (Below vb0.heap.size vb0 vb) := b1
      have HB11 : Hid (Boxed vb (wa.heap.size + 1) 3 (.int .i64 0)) := by rw [← s0]; exact B11
      clear X1 X2 X3 X4 X5 B10 B11 b0 b1 e0 e1 HB1 HB2 HB3 HBU HBW HBT HL0 HZ HBEL HRES HCC HFZ HLE HLA hls HT HG HLB HQA HBA
      have hwz : w.heap.size + 1 < wa.heap.size := by omega
      have hbwz : bw < wa.heap.size := by omega
      refine range_wp (gf := 23) (lb := #[.pointer (some ⟨bt, 0, none⟩), .pointer (some ⟨bt + 1, 0, none⟩), .pointer (some ⟨bt + 2, 0, none⟩)]) rfl (enters_of Try.func23 (by kernel_rfl) rfl) (HSQ.out 8 (by decide)) HB1v.out (by omega) rfl
        (fun pre V => Below vb0.heap.size vb0 V ∧ Boxed V (wa.heap.size + 1) 3 (.int .i64 (pre.length : Int))) (fun _ _ _ => False) ?own1 (fun _ _ _ _ _ h _ _ => h.elim) ⟨HB1v.out, HB11.out⟩ ?a1 ?assign ?body ?done ?stop
      case own1 =>
        rintro s X Y row ⟨hb, hB⟩ hg hr
        exact ⟨hb.grown hg hb.size (fun k e => by have := (hr k e).1; omega), hB.kept hg (fun e => by have := (hr _ e.symm).1; omega)⟩
      case assign =>
        intro l x V K hK
        gi_wp2
        exact hK
      case stop => rintro D c pre V _ _ h _; exact h.elim
      case body =>
        rintro l pre x post V hx hl ⟨r0, hr0⟩ ⟨hB, hX⟩
        have hne : G ≠ [] := by rw [hx]; simp
        obtain ⟨gb, go, rfl, hL⟩ : ∃ b o, ga = some ⟨b, o, none⟩ ∧ Lies V b o G := (HQ0.out.below hB).resolve_left hne
        have hGx : G[pre.length]? = some x := by rw [hx]; simp
        have hpl : pre.length < G.length := (List.getElem?_eq_some_iff.1 hGx).1
        have hci := hL.int (Below.refl _ _) hGx
        have hc := hX.cell
        have hf := hX.frozen
        have hc10 : V.cell? ⟨wa.heap.size, 0, none⟩ = some (.slice (some ⟨gb, go, none⟩) G.length ca) := (HX10.out.below hB (by omega)).one
        have hcw : V.cell? ⟨bw, 0, none⟩ = some (.func (.func 23) #[] #[.pointer (some ⟨bt, 0, none⟩), .pointer (some ⟨bt + 1, 0, none⟩), .pointer (some ⟨bt + 2, 0, none⟩)]) := (HX5.out.below hB (by omega)).one
        have hge : ¬ (G.length : Int) ≤ (pre.length : Int) := by omega
        have HBV : Hid (Below vb0.heap.size vb0 V) := hB
        have HXV : Hid (Boxed V (wa.heap.size + 1) 3 (.int .i64 (pre.length : Int))) := hX
        have HLV : Hid (Lies V gb go G) := hL
        clear hB hX hL hne hx hGx
        by_cases hh : (pre.length : Int) = (G.length : Int) / 2
        · have m1 : ((pre.length : Int) == (G.length : Int) / 2) = true := by simp [hh]
          have m2 : ((pre.length : Int) == (G.length : Int).tdiv 2) = true := by rw [Int.tdiv_eq_ediv_of_nonneg (by omega)]; exact m1
          have HH : Hid ((pre.length : Int) = (G.length : Int) / 2) := hh
          clear hh
          obtain ⟨V1, e1, b1, sV1, B1⟩ := bx1 V #[.int .i64 0] 3
          have hcw2 : (V.alloc (.cells #[.int .i64 0] 3)).cell? ⟨bw, 0, none⟩ = some (.func (.func 23) #[] #[.pointer (some ⟨bt, 0, none⟩), .pointer (some ⟨bt + 1, 0, none⟩), .pointer (some ⟨bt + 2, 0, none⟩)]) := by rw [e1]; exact (b1.cell (p := ⟨bw, 0, none⟩) (by have := HBV.out.size; show bw < V.heap.size; omega)).trans hcw
          have HE1 : Hid (V.alloc (.cells #[.int .i64 0] 3) = V1) := e1
          have HBV1 : Hid (Below V.heap.size V V1) := b1
          have HX13 : Hid (Boxed V1 V.heap.size 3 (.int .i64 0)) := B1
          have hVs := HBV.out.size
          clear e1 b1 B1
          gi_wp2
          rw [HE1.out]
          clear hcw2 HE1
          refine range_in (F := Fence.wide.inRound l) (n := 7) (l0 := l) (r0 := r0) rfl ((HBV1.out.block l (Array.getElem?_eq_some_iff.1 hr0).1).trans hr0) (by decide) (gf := 23) (lb := #[.pointer (some ⟨bt, 0, none⟩), .pointer (some ⟨bt + 1, 0, none⟩), .pointer (some ⟨bt + 2, 0, none⟩)]) rfl trivial (enters_of Try.func23 (by kernel_rfl) rfl) (SeqO.inRound l (HSQ.out 6 (by decide))) (HBV.out.trans (HBV1.out.mono hVs)) (by omega) rfl
            (fun pre2 W => Below V.heap.size V W ∧ Boxed W V.heap.size 3 (.int .i64 (pre2.length : Int))) (fun _ _ _ => False) ?own3 (fun _ _ _ _ _ h _ _ => h.elim) ⟨HBV1.out, HX13.out⟩ ?a3 ?assign3 ?body3 ?done3 ?stop3
          case own3 =>
            rintro s X Y row ⟨hb, hB⟩ hg hr
            exact ⟨hb.grown hg hb.size (fun k e => by have := (hr k e).1; omega), hB.kept hg (fun e => by have := (hr _ e.symm).1; omega)⟩
          case assign3 =>
            intro l x V K hK
            gi_wp2
            exact hK
          case stop3 => rintro c pre V _ h; exact h.elim
          case body3 =>
            rintro l2 pre2 y post2 Z hy hl2 - ⟨hB2, hX2⟩
            have hGy : G[pre2.length]? = some y := by rw [hy]; simp
            have hql : pre2.length < G.length := (List.getElem?_eq_some_iff.1 hGy).1
            have hcy := (HLV.out.below hB2 HLV.out.1).int (Below.refl _ _) hGy
            have hc13 := hX2.cell
            have hf13 := hX2.frozen
            have hcz : Z.cell? ⟨wa.heap.size, 0, none⟩ = some (.slice (some ⟨gb, go, none⟩) G.length ca) := (hB2.cell (p := ⟨wa.heap.size, 0, none⟩) (by show wa.heap.size < V.heap.size; omega)).trans hc10
            have hge2 : ¬ (G.length : Int) ≤ (pre2.length : Int) := by omega
            clear hy hGy
            gi_wp2
            exact ⟨Apart.of_grownBy (grownBy_setCell' Z _ _) (fun j e => by cases e; omega), (Below.refl _ Z).setCell (p := ⟨V.heap.size, 0, none⟩) (by show _ ≤ V.heap.size; omega) _, hB2.setCell (p := ⟨V.heap.size, 0, none⟩) (Nat.le_refl _) _, by have h := hX2.set (.int .i64 ((pre2.length : Int) + 1)); simpa using h⟩
          case done3 =>
            rintro Z ⟨hB2, hX2⟩
            have hc13 := hX2.cell
            have hcz : Z.cell? ⟨wa.heap.size, 0, none⟩ = some (.slice (some ⟨gb, go, none⟩) G.length ca) := (hB2.cell (p := ⟨wa.heap.size, 0, none⟩) (by show wa.heap.size < V.heap.size; omega)).trans hc10
            have hX3 : Boxed Z (wa.heap.size + 1) 3 (.int .i64 (pre.length : Int)) := (hB2.block (wa.heap.size + 1) (HXV.out.lt)).trans HXV.out
            have hc11 := hX3.cell
            have hf11 := hX3.frozen
            have hnn : ((G.length : Int) != (G.length : Int)) = false := by simp
            have hBZ : Below vb0.heap.size V Z := hB2.mono (by omega)
            gi_wp2
            exact ⟨(Apart.of_below hB2).trans (Apart.of_grownBy (grownBy_setCell' Z _ _) (fun j e => by cases e; omega)), hBZ.setCell (p := ⟨wa.heap.size + 1, 0, none⟩) (Nat.le_of_eq s0) _, (HBV.out.trans hBZ).setCell (p := ⟨wa.heap.size + 1, 0, none⟩) (Nat.le_of_eq s0) _, by have h := hX3.set (.int .i64 ((pre.length : Int) + 1)); simpa using h⟩
        · have m1 : ((pre.length : Int) == (G.length : Int) / 2) = false := beq_eq_false_iff_ne.2 hh
          have m2 : ((pre.length : Int) == (G.length : Int).tdiv 2) = false := by rw [Int.tdiv_eq_ediv_of_nonneg (by omega)]; exact m1
          clear hh
          have hBV' : Below (wa.heap.size + 1) vb0 V := by have h := HBV.out; rw [s0] at h; exact h
          gi_wp2
          exact ⟨Apart.of_grownBy (grownBy_setCell' V _ _) (fun j e => by cases e; omega), (Below.refl _ V).setCell (p := ⟨wa.heap.size + 1, 0, none⟩) (Nat.le_refl _) _, hBV'.setCell (p := ⟨wa.heap.size + 1, 0, none⟩) (Nat.le_refl _) _, by have h := HXV.out.set (.int .i64 ((pre.length : Int) + 1)); simpa using h⟩
      case done =>
        rintro D V hD ⟨hB, hX⟩ hK
        have hc := hX.cell
        have hc10 : V.cell? ⟨wa.heap.size, 0, none⟩ = some (.slice ga G.length ca) := (HX10.out.below hB (by omega)).one
        have hR : Boxed V (w.heap.size + 1) 4 (.bool false) := (hB.block (w.heap.size + 1) (by omega)).trans HRS.out
        have hcr := hR.cell
        have hfr := hR.frozen
        have hee : ((G.length : Int) == (G.length : Int)) = true := by simp
        have hBw : Below w.heap.size w V := HWV.out.trans (hB.mono (by omega))
        have HD : Hid (vb.heap.size ≤ D) := hD
        go_wp2
        have hDD := HD.out
        have hK2 : (V.setCell ⟨w.heap.size + 1, 0, none⟩ (.bool true)).heap[D]? = some (.deferred (some [])) := (Below.heap_setCell V ⟨w.heap.size + 1, 0, none⟩ _ _ (by show D ≠ w.heap.size + 1; omega)).trans hK
        refine ⟨by simp, .inl ⟨_, _, rfl, run_takeDeferred hK2, ?_⟩⟩
        have hB2 : Below w.heap.size w (V.setCell ⟨w.heap.size + 1, 0, none⟩ (.bool true)) := hBw.setCell (p := ⟨w.heap.size + 1, 0, none⟩) (by show _ ≤ w.heap.size + 1; omega) _
        have hc5 := ((hR.set (.bool true)).kept (grownBy_putObj' _ D (.deferred none)) (by simp; omega)).cell
        refine ⟨.bool true, ?_, rfl, hB2.grown (grownBy_putObj' _ D (.deferred none)) hB2.size (fun k e => by cases e; omega)⟩
        simp [results, go_sem, hc5]
end Go.Proofs.Ytdalnofiiomgoaa
