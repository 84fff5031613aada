import Derived.Test.YtaploloedocgbaaDoorMn1
import Derived.Test.YtaploloedocgbaaDoorOw1
import Derived.Test.YtaploloedocgbaaDoorNms2
import Derived.Test.YtaploloedocgbaaDoorUp
import Derived.Test.YtaploloedocgbaaDoorWk
import Derived.Test.YtaploloedocgbaaDoorTx2
import Derived.Test.YtaploloedocgbaaDoorVl5
import Derived.Test.YtaploloedocgbaaDoorDw6
import Derived.Test.YtaploloedocgbaaDoorDw8
import Derived.Test.YtaploloedocgbaaDoorNms1
namespace Go.Proofs.YtaploloedocgbaaDoor
open Go.ChangeShapes Go.WideShapes Go.ChangeAt Go.RowKit
set_option linter.unusedVariables false
set_option linter.unusedSimpArgs false

/-- two may come up -/
theorem wpAnyG_two {P : Program} {md : Region.Mode} {ops : Array Oper} {Q : Exit → Act → World → Prop} {S : World → Prop} {iS : Nat} {i j : Nat} {o p : Oper} {fuel : Nat} {listed : Array Bool} {a : Act} {w : World} (hr : Region.ready md ops listed = [i, j]) (ho : ops[i]? = some o) (hp : ops[j]? = some p)
    (h : ∀ K : Act → World → Prop, (∀ a' w', ((listed.setIfInBounds i true).getD iS true = false → S w') → wpAnyG P md ops Q S iS fuel (listed.setIfInBounds i true) a' w' → K a' w') → if Region.wanted o (yielded ops a.tmps) = true then o.wp P a w K Q else K (a.put o.dst undef) w)
    (h' : ∀ K : Act → World → Prop, (∀ a' w', ((listed.setIfInBounds j true).getD iS true = false → S w') → wpAnyG P md ops Q S iS fuel (listed.setIfInBounds j true) a' w' → K a' w') → if Region.wanted p (yielded ops a.tmps) = true then p.wp P a w K Q else K (a.put p.dst undef) w) : wpAnyG P md ops Q S iS (fuel + 1) listed a w := by
  have key : ∀ (k : Nat) (q : Oper), ops[k]? = some q → (∀ K : Act → World → Prop, (∀ a' w', ((listed.setIfInBounds k true).getD iS true = false → S w') → wpAnyG P md ops Q S iS fuel (listed.setIfInBounds k true) a' w' → K a' w') → if Region.wanted q (yielded ops a.tmps) = true then q.wp P a w K Q else K (a.put q.dst undef) w) → wpOp P ops Q k (fun a' w' => ((listed.setIfInBounds k true).getD iS true = false → S w') ∧ wpAnyG P md ops Q S iS fuel (listed.setIfInBounds k true) a' w') a w := by
    intro k q hq hh
    unfold wpOp
    simp only [hq]
    have := hh (fun a' w' => ((listed.setIfInBounds k true).getD iS true = false → S w') ∧ wpAnyG P md ops Q S iS fuel (listed.setIfInBounds k true) a' w') (fun a' w' h1 h2 => ⟨h1, h2⟩)
    split
    · rename_i hw
      rw [if_pos hw] at this
      exact .inl this
    · rename_i hw
      rw [if_neg hw] at this
      exact this
  refine ⟨(fun h0 => by rw [hr] at h0; cases h0), fun k hk => ?_⟩
  rw [hr] at hk
  rcases List.mem_cons.1 hk with rfl | hk
  · exact key _ _ ho h
  · rw [List.mem_singleton] at hk
    subst hk
    exact key _ _ hp h'

/-- a new box is written, once the copies are made -/
theorem fin6 {wr w7 : World} {H nb nT nN : Nat} {t e1 e2 : TypeId} {z3 : Array Value} {vT vN : Value} {xT xN : List Value} (hb : Below H wr w7) (hH : H ≤ nb) (hx : Bx w7 nb z3 t) (hz : z3.size = 3) (oT : w7.ownsRow H e1 3 vT nT xT) (oN : w7.ownsRow H e2 4 vN nN xN) (h1 : t ≠ e1) (h2 : t ≠ e2) (p q r : Value) :
    Below H wr (((w7.setCell ⟨nb, 0, none⟩ p).setCell ⟨nb, 1, none⟩ q).setCell ⟨nb, 2, none⟩ r) ∧ Bx (((w7.setCell ⟨nb, 0, none⟩ p).setCell ⟨nb, 1, none⟩ q).setCell ⟨nb, 2, none⟩ r) nb #[p, q, r] t ∧ (((w7.setCell ⟨nb, 0, none⟩ p).setCell ⟨nb, 1, none⟩ q).setCell ⟨nb, 2, none⟩ r).ownsRow H e1 3 vT nT xT ∧ (((w7.setCell ⟨nb, 0, none⟩ p).setCell ⟨nb, 1, none⟩ q).setCell ⟨nb, 2, none⟩ r).ownsRow H e2 4 vN nN xN := by
  refine ⟨((hb.setCell (p := ⟨nb, 0, none⟩) hH p).setCell (p := ⟨nb, 1, none⟩) hH q).setCell (p := ⟨nb, 2, none⟩) hH r, ?_, own_set3 oT (bx_row hx oT h1) p q r, own_set3 oN (bx_row hx oN h2) p q r⟩
  have hz' : ((z3.setIfInBounds 0 p).setIfInBounds 1 q).setIfInBounds 2 r = #[p, q, r] := by
    obtain ⟨l⟩ := z3
    match l, hz with
    | [x, y, z], _ => rfl
  rw [← hz']
  exact ((hx.set 0 p).set 1 q).set 2 r
theorem shared6 {Fin P : Nat → Option Addr → Nat → Option Addr → Nat → World → Prop} {G : Prop} (h1 : (∀ nb aT cT aN cN v, Fin nb aT cT aN cN v → P nb aT cT aN cN v) → G) (h2 : ∀ nb aT cT aN cN v, Fin nb aT cT aN cN v → P nb aT cT aN cN v) : G := h1 h2

set_option maxRecDepth 1000000 in
set_option maxHeartbeats 8000000 in
theorem treeMine_walk (s : ByteArray) (a1 a2 : Option Addr) (c1 c2 : Nat) (ts : List Tk) (ns : List Nd) (n : Int) (s3 : ByteArray) (w : World) (h1 : LiesA w a1 ts) (h2 : LiesA w a2 ns) (hn1 : a1 = none → ts.length = 0 ∧ c1 = 0) (hn2 : a2 = none → ns.length = 0 ∧ c2 = 0)
    (hf1 : ∀ e ∈ ts, TkFit e) (hf2 : ∀ e ∈ ns, NdFit e) (hB : s.size + ts.length + ns.length + s3.size ≤ 1048576) (bn0 : -9223372036854775808 ≤ n) (bn1 : n ≤ 9223372036854775807) (hN : NmsAt nams w) (t0 : TypeId) (fr : Nat × Nat) (hA : w.heap[0]? = some (.cells (nmA nams) t0 fr)) :
    Calls Tryd.prog 3 #[.agg #[.string s, .slice a1 ts.length c1, .slice a2 ns.length c2], .int .i64 n, .string s3] w fun e w' => e = .returned (.bool true) ∧ Below w.heap.size w w' := by
  have hsz : s.size ≤ 1048576 ∧ ts.length ≤ 1048576 ∧ ns.length ≤ 1048576 ∧ s3.size ≤ 1048576 := ⟨by omega, by omega, by omega, by omega⟩
  have HSZ : Hid (s.size ≤ 1048576 ∧ ts.length ≤ 1048576 ∧ ns.length ≤ 1048576 ∧ s3.size ≤ 1048576) := hsz
  obtain ⟨DL, DE, DP, hq⟩ : ∃ a b c, dr nams s3.data.toList (s3.size + 1) 0 [] [] = (a, b, c) := ⟨_, _, _, rfl⟩
  have hDL : DL.length ≤ 1048576 := by
    have h := dr_len nams_len nams_some s3.data.toList (s3.size + 1) 0 [] [] (Nat.zero_le _) (Nat.zero_le _)
    rw [hq, dlen] at h
    exact Nat.le_trans h (by omega)
  have HDL : Hid (DL.length ≤ 1048576) := hDL
  have DR : Hid (∀ v, Below w.heap.size w v → Calls Tryd.prog 10 #[.string s3] v fun e w' => ∃ a cap, e = .returned (.tuple #[.agg #[.slice a DL.length cap], .int .i64 DE, .int .i64 (DP : Int)]) ∧ w'.ownsRow v.heap.size 57 4 (.slice a DL.length cap) DL.length (flat DL) ∧ Below v.heap.size v w') := fun v hv =>
    draw_own nams nams_len nams_12 nams_some s3 v (by omega) t0 fr ((hv.block _ (lt_of_block hA)).trans hA) DL DE DP hq
  have HNM : Hid (∀ v, Below w.heap.size w v → NmsAt nams v) := fun v hv => hN.below hv
  have H1 : Hid (LiesA w a1 ts) := h1
  have H2 : Hid (LiesA w a2 ns) := h2
  have HN1 : Hid (a1 = none → ts.length = 0 ∧ c1 = 0) := hn1
  have HN2 : Hid (a2 = none → ns.length = 0 ∧ c2 = 0) := hn2
  have HF1 : Hid (∀ e ∈ ts, TkFit e) := hf1
  have HF2 : Hid (∀ e ∈ ns, NdFit e) := hf2
  obtain ⟨w2, e2, hw2, hs2, Y1, Y2⟩ := bx2 w #[.string s, .slice a1 ts.length c1, .slice a2 ns.length c2] (bxT (.slice none 0 0) (.slice none 0 0) (.slice none 0 0) (.slice none 0 0)) 27 35
  have HE2 : Hid ((w.alloc (.cells #[.string s, .slice a1 ts.length c1, .slice a2 ns.length c2] 27)).alloc (.cells (bxT (.slice none 0 0) (.slice none 0 0) (.slice none 0 0) (.slice none 0 0)) 35) = w2) := e2
  have HW2 : Hid (Below w.heap.size w w2) := hw2
  have HS2 : Hid (w2.heap.size = w.heap.size + 2) := hs2
  have HY1 : Hid (Bx w2 w.heap.size #[.string s, .slice a1 ts.length c1, .slice a2 ns.length c2] 27) := Y1
  have HY2 : Hid (Bx w2 (w.heap.size + 1) (bxT (.slice none 0 0) (.slice none 0 0) (.slice none 0 0) (.slice none 0 0)) 35) := Y2
  clear h1 h2 hn1 hn2 hf1 hf2 hN hA hq hDL hsz e2 hw2 hs2 Y1 Y2
  go_enter Tryd.func3, Tryd.ntmps3
  go_wp2_with fail
  rw [show ((w.alloc (.cells #[.string s, .slice a1 ts.length c1, .slice a2 ns.length c2] 27)).alloc (.cells #[.slice none 0 0, .slice none 0 0, .slice none 0 0, .slice none 0 0, .slice none 0 0, .slice none 0 0, .slice none 0 0, .slice none 0 0, .slice none 0 0, .slice none 0 0, .slice none 0 0, .slice none 0 0] 35)) = w2 from HE2.out]
  refine (lent_any s a1 a2 c1 c2 ts ns w2 (H1.out.below HW2.out) (H2.out.below HW2.out) HN1.out HN2.out (by have := HSZ.out; omega) (by have := HSZ.out; omega)).mono ?_
  rintro e w3 ⟨g1, g2, rfl, hb3, hg1, hg2, hne, o1, o2⟩
  obtain ⟨w4, e4, hb4, hs4, B4⟩ := bx1 w3 #[.string s, .slice (some ⟨g1, 0, none⟩) ts.length (ts.length + 2), .slice (some ⟨g2, 0, none⟩) ns.length (ns.length + 2)] 27
  have HE4 : Hid (w3.alloc (.cells #[.string s, .slice (some ⟨g1, 0, none⟩) ts.length (ts.length + 2), .slice (some ⟨g2, 0, none⟩) ns.length (ns.length + 2)] 27) = w4) := e4
  obtain ⟨fb, hfb⟩ : ∃ fb, w.heap.size = fb := ⟨_, rfl⟩
  obtain ⟨b, hb⟩ : ∃ b, fb + 1 = b := ⟨_, rfl⟩
  obtain ⟨cb, hcb⟩ : ∃ cb, w3.heap.size = cb := ⟨_, rfl⟩
  obtain ⟨B, hBB⟩ : ∃ B, w4.heap.size = B := ⟨_, rfl⟩
  have hb34 : Below w2.heap.size w2 w4 := hb3.trans (hb4.mono hb3.size)
  have HM : Hid (Mn w b B fb cb g1 g2 0 s #[.string s, .slice a1 ts.length c1, .slice a2 ns.length c2] ts ns w4 (.slice none 0 0) (.slice none 0 0) (.slice none 0 0) (.slice none 0 0) [] [] [] []) := by
    have k2 := HS2.out
    have k3 := hb3.size
    have q1 := (o1.lt g1 rfl).2
    have q2 := (o2.lt g2 rfl).2
    refine ⟨⟨(by rw [← hb, ← hfb]; exact HY2.out.below hb34 (by omega)), She.nil _ _ _ _ _, She.nil _ _ _ _ _, by omega, by omega⟩, ⟨rfl, fun i r u h => by simp at h⟩, ⟨rfl, fun i r u h => by simp at h⟩, by simp, hfb ▸ HY1.out.below hb34 (by omega), hcb ▸ B4, ?_, ?_, HW2.out.trans (hb34.mono (by omega)), by omega, by omega, ⟨by omega, by omega⟩, ⟨by omega, by omega⟩, ⟨by omega, by omega⟩⟩
    · exact own_base (own_belowR o1 hb4 (Nat.le_refl _)) (by omega)
    · exact own_base (own_belowR o2 hb4 (Nat.le_refl _)) (by omega)
  clear hb3 hg1 hg2 hne o1 o2 e4 hb4 hs4 B4 hb34
  go_wp2_with fail
  rw [HE4.out]
  clear HE4 HE2 HY1 HY2 HS2 HW2 hBB
  go_loopg [9] 2 (fun gk si wr => ∃ (k : Nat) (ts1 : List Tk) (ns1 : List Nd) (V U I J : Value) (rn un ri ui : List Rr), gk = 2 - k ∧ k ≤ 2 ∧ si = .int .i64 (k : Int) ∧ ts1.length = ts.length ∧ ns1.length = ns.length ∧ (∀ e ∈ ts1, TkFit e) ∧ (∀ e ∈ ns1, NdFit e) ∧ Mn w b B fb cb g1 g2 (4 * k) s #[.string s, .slice a1 ts.length c1, .slice a2 ns.length c2] ts1 ns1 wr V U I J rn un ri ui)
  case atStart => exact ⟨0, ts, ns, _, _, _, _, _, _, _, _, rfl, Nat.zero_le _, rfl, rfl, rfl, HF1.out, HF2.out, HM.out⟩
  case round =>
    obtain ⟨k, ts1, ns1, V, U, I, J, rn, un, ri, ui, rfl, hk, rfl, hlt1, hln1, hft, hfn, hM⟩ := hrel
    clear HM
    have HM : Hid (Mn w b B fb cb g1 g2 (4 * k) s #[.string s, .slice a1 ts.length c1, .slice a2 ns.length c2] ts1 ns1 wr V U I J rn un ri ui) := hM
    have HFT : Hid (∀ e ∈ ts1, TkFit e) := hft
    have HFN : Hid (∀ e ∈ ns1, NdFit e) := hfn
    have HLT : Hid (ts1.length = ts.length) := hlt1
    have HLN : Hid (ns1.length = ns.length) := hln1
    have hts : ts1.length ≤ 1048576 := by have := HSZ.out; omega
    have hns : ns1.length ≤ 1048576 := by have := HSZ.out; omega
    clear hft hfn hM hlt1 hln1
    by_cases hk2 : k < 2
    · have hk2' : (k : Int) < 2 := by omega
      go_upto_region 6 with fail
      have SS : wr.cell? ⟨fb, 0, none⟩ = some (.string s) ∧ wr.cell? ⟨cb, 1, none⟩ = some (.slice (some ⟨g1, 0, none⟩) ts1.length (ts1.length + 2)) ∧ wr.cell? ⟨cb, 2, none⟩ = some (.slice (some ⟨g2, 0, none⟩) ns1.length (ns1.length + 2)) := ⟨HM.out.bf.cell 0, HM.out.bc.cell 1, HM.out.bc.cell 2⟩
      have HSS : Hid (∀ v, Below wr.heap.size wr v → v.cell? ⟨fb, 0, none⟩ = some (.string s) ∧ v.cell? ⟨cb, 1, none⟩ = some (.slice (some ⟨g1, 0, none⟩) ts1.length (ts1.length + 2)) ∧ v.cell? ⟨cb, 2, none⟩ = some (.slice (some ⟨g2, 0, none⟩) ns1.length (ns1.length + 2))) := fun v hv => ⟨(HM.out.below hv).bf.cell 0, (HM.out.below hv).bc.cell 1, (HM.out.below hv).bc.cell 2⟩
      have CT : Hid (∀ v, Below wr.heap.size wr v → Calls Tryd.prog 5 #[.slice (some ⟨g1, 0, none⟩) ts1.length (ts1.length + 2)] v fun e w' => ∃ a' c', e = .returned (.slice a' ts1.length c') ∧ w'.ownsRow v.heap.size 60 3 (.slice a' ts1.length c') ts1.length (flat ts1) ∧ Below v.heap.size v w') := fun v hv => copyTokens_own _ _ ts1 v (HM.out.below hv).tok (fun h => by cases h) (by omega)
      have CN : Hid (∀ v, Below wr.heap.size wr v → Calls Tryd.prog 6 #[.agg #[.slice (some ⟨g2, 0, none⟩) ns1.length (ns1.length + 2)]] v fun e w' => ∃ a' c', e = .returned (.agg #[.slice a' ns1.length c']) ∧ w'.ownsRow (v.heap.size + 2) 57 4 (.slice a' ns1.length c') ns1.length (flat ns1) ∧ Below v.heap.size v w') := fun v hv => copyTree_own _ _ ns1 v (HM.out.below hv).nod (fun h => by cases h) (by omega)
      have BD : Hid (Below wr.heap.size wr wr.drew) := (Below.refl _ _).drew
      have Br : Hid (Below wr.heap.size wr wr) := Below.refl _ _
      apply shared6 (Fin := fun nb aT cT aN cN v => Below wr.heap.size wr v ∧ Bx v nb #[.string s, .slice aT ts1.length cT, .slice aN ns1.length cN] 27 ∧ v.ownsRow wr.heap.size 60 3 (.slice aT ts1.length cT) ts1.length (flat ts1) ∧ v.ownsRow wr.heap.size 57 4 (.slice aN ns1.length cN) ns1.length (flat ns1))
      · intro REST
        refine wp_region_G (fun z => z.cell? ⟨fb, 0, none⟩ = some (.string s) ∧ z.cell? ⟨cb, 1, none⟩ = some (.slice (some ⟨g1, 0, none⟩) ts1.length (ts1.length + 2)) ∧ z.cell? ⟨cb, 2, none⟩ = some (.slice (some ⟨g2, 0, none⟩) ns1.length (ns1.length + 2))) 10 (by kernel_rfl) ?_
        refine wpAnyG_take (i := 0) (v := .pointer (some ⟨fb, 0, none⟩)) rfl (by kernel_rfl) (by kernel_rfl) (by kernel_rfl) (fun _ _ _ h => h) (by kernel_rfl) (by kernel_rfl) (by kernel_rfl) (Or.inl ⟨by rfl, fun z hz => ?_⟩) SS ?_
        · obtain ⟨hz4, hz5, hz6⟩ := hz
          go_simp
        try simp only [Act.put, List.setIfInBounds_toArray, List.set_cons_zero, List.set_cons_succ]
        refine wpAnyG_take (i := 1) (v := .string s) rfl (by kernel_rfl) (by kernel_rfl) (by kernel_rfl) (fun _ _ _ h => h) (by kernel_rfl) (by kernel_rfl) (by kernel_rfl) (Or.inl ⟨by rfl, fun z hz => ?_⟩) SS ?_
        · obtain ⟨hz4, hz5, hz6⟩ := hz
          go_simp
        try simp only [Act.put, List.setIfInBounds_toArray, List.set_cons_zero, List.set_cons_succ]
        refine wpAnyG_take (i := 2) (v := .pointer (some ⟨cb, 1, none⟩)) rfl (by kernel_rfl) (by kernel_rfl) (by kernel_rfl) (fun _ _ _ h => h) (by kernel_rfl) (by kernel_rfl) (by kernel_rfl) (Or.inl ⟨by rfl, fun z hz => ?_⟩) SS ?_
        · obtain ⟨hz4, hz5, hz6⟩ := hz
          go_simp
        try simp only [Act.put, List.setIfInBounds_toArray, List.set_cons_zero, List.set_cons_succ]
        refine wpAnyG_take (i := 3) (v := .slice (some ⟨g1, 0, none⟩) ts1.length (ts1.length + 2)) rfl (by kernel_rfl) (by kernel_rfl) (by kernel_rfl) (fun _ _ _ h => h) (by kernel_rfl) (by kernel_rfl) (by kernel_rfl) (Or.inl ⟨by rfl, fun z hz => ?_⟩) SS ?_
        · obtain ⟨hz4, hz5, hz6⟩ := hz
          go_simp
        try simp only [Act.put, List.setIfInBounds_toArray, List.set_cons_zero, List.set_cons_succ]
        refine wpAnyG_take (i := 5) (v := .pointer (some ⟨cb, 2, none⟩)) rfl (by kernel_rfl) (by kernel_rfl) (by kernel_rfl) (fun _ _ _ h => h) (by kernel_rfl) (by kernel_rfl) (by kernel_rfl) (Or.inl ⟨by rfl, fun z hz => ?_⟩) SS ?_
        · obtain ⟨hz4, hz5, hz6⟩ := hz
          go_simp
        try simp only [Act.put, List.setIfInBounds_toArray, List.set_cons_zero, List.set_cons_succ]
        refine wpAnyG_take (i := 6) (v := .agg #[.slice (some ⟨g2, 0, none⟩) ns1.length (ns1.length + 2)]) rfl (by kernel_rfl) (by kernel_rfl) (by kernel_rfl) (fun _ _ _ h => h) (by kernel_rfl) (by kernel_rfl) (by kernel_rfl) (Or.inl ⟨by rfl, fun z hz => ?_⟩) SS ?_
        · obtain ⟨hz4, hz5, hz6⟩ := hz
          go_simp
        try simp only [Act.put, List.setIfInBounds_toArray, List.set_cons_zero, List.set_cons_succ]
        refine wpAnyG_two (i := 4) (j := 9) (by kernel_rfl) rfl rfl (fun K hK0 => ?_) (fun K hK0 => ?_)
        · have hK : Hid _ := hK0
          clear hK0
          go_simp
          refine (CT.out _ BD.out).mono ?_
          rintro e w5 ⟨aT, cT, rfl, oT, hb⟩
          have B5 : Hid (Below wr.heap.size wr w5) := BD.out.trans (hb.mono BD.out.size)
          have OT5 : Hid (w5.ownsRow wr.heap.size 60 3 (.slice aT ts1.length cT) ts1.length (flat ts1)) := own_base oT BD.out.size
          clear oT hb
          have S5 := HSS.out w5 B5.out
          refine hK.out _ _ (fun _ => S5) ?_
          clear hK K
          try simp only [Act.put, List.setIfInBounds_toArray, List.set_cons_zero, List.set_cons_succ]
          refine wpAnyG_two (i := 7) (j := 9) (by kernel_rfl) rfl rfl (fun K hK0 => ?_) (fun K hK0 => ?_)
          · have hK : Hid _ := hK0
            clear hK0
            go_simp
            refine (CN.out _ B5.out).mono ?_
            rintro e w6 ⟨aN, cN, rfl, oN, hb⟩
            have B6 : Hid (Below wr.heap.size wr w6) := B5.out.trans (hb.mono B5.out.size)
            have ON6 : Hid (w6.ownsRow wr.heap.size 57 4 (.slice aN ns1.length cN) ns1.length (flat ns1)) := own_base oN (Nat.le_trans B5.out.size (Nat.le_add_right _ _))
            have OT6 : Hid (w6.ownsRow wr.heap.size 60 3 (.slice aT ts1.length cT) ts1.length (flat ts1)) := own_belowR OT5.out hb (Nat.le_refl _)
            clear oN hb
            have S6 := HSS.out w6 B6.out
            refine hK.out _ _ (fun _ => S6) ?_
            clear hK K
            try simp only [Act.put, List.setIfInBounds_toArray, List.set_cons_zero, List.set_cons_succ]
            refine wpAnyG_take (i := 8) (v := .agg #[.string s, .slice aT ts1.length cT, .slice aN ns1.length cN]) rfl (by kernel_rfl) (by kernel_rfl) (by kernel_rfl) (fun _ _ _ h => h) (by kernel_rfl) (by kernel_rfl) (by kernel_rfl) (Or.inl ⟨by rfl, fun z hz => ?_⟩) S6 ?_
            · obtain ⟨hz4, hz5, hz6⟩ := hz
              go_simp
            try simp only [Act.put, List.setIfInBounds_toArray, List.set_cons_zero, List.set_cons_succ]
            refine wpAnyG_one (i := 9) (by kernel_rfl) rfl (fun K hK0 => ?_)
            have hK : Hid _ := hK0
            clear hK0
            go_simp
            obtain ⟨nb, hnb⟩ : ∃ nb, w6.heap.size = nb := ⟨_, rfl⟩
            obtain ⟨w8, e8⟩ : ∃ w8, (w6.alloc (.cells #[.string ⟨#[]⟩, .slice none 0 0, .slice none 0 0] 27)) = w8 := ⟨_, rfl⟩
            have X8 : Hid (Bx w8 nb #[.string ⟨#[]⟩, .slice none 0 0, .slice none 0 0] 27) := by unfold Hid; rw [← e8, ← hnb]; exact Bx.new _ _ _
            have a8 : Below w6.heap.size w6 w8 := by rw [← e8]; exact ((Below.refl _ _).alloc (Nat.le_refl _) _)
            have B8 : Hid (Below wr.heap.size wr w8) := B6.out.trans (a8.mono B6.out.size)
            have HH : Hid (wr.heap.size ≤ nb) := hnb ▸ B6.out.size
            have OT8 : Hid (w8.ownsRow wr.heap.size 60 3 (.slice aT ts1.length cT) ts1.length (flat ts1)) := own_belowR OT6.out a8 (Nat.le_refl _)
            have ON8 : Hid (w8.ownsRow wr.heap.size 57 4 (.slice aN ns1.length cN) ns1.length (flat ns1)) := own_belowR ON6.out a8 (Nat.le_refl _)
            rw [e8, hnb]
            clear e8 a8 hnb
            have S8 := HSS.out w8 B8.out
            refine hK.out _ _ (fun _ => S8) ?_
            clear hK K
            try simp only [Act.put, List.setIfInBounds_toArray, List.set_cons_zero, List.set_cons_succ]
            refine wpAnyG_one (i := 10) (by kernel_rfl) rfl (fun K hK0 => ?_)
            have hK : Hid _ := hK0
            clear hK0
            obtain ⟨f1, f2, f3, f4⟩ := fin6 B8.out HH.out X8.out rfl OT8.out ON8.out (by decide) (by decide) (.string s) (.slice aT ts1.length cT) (.slice aN ns1.length cN)
            have y0 := X8.out.t0
            have y1 : (w8.setCell ⟨nb, 0, none⟩ (.string s)).cell? ⟨nb, 1, none⟩ = some (.slice none 0 0) := (X8.out.set 0 (.string s)).cell 1
            have y2 : ((w8.setCell ⟨nb, 0, none⟩ (.string s)).setCell ⟨nb, 1, none⟩ (.slice aT ts1.length cT)).cell? ⟨nb, 2, none⟩ = some (.slice none 0 0) := ((X8.out.set 0 (.string s)).set 1 (.slice aT ts1.length cT)).cell 2
            have z0 := X8.out.free 0
            have z1 := (X8.out.set 0 (.string s)).free 1
            have z2 := ((X8.out.set 0 (.string s)).set 1 (.slice aT ts1.length cT)).free 2
            obtain ⟨v, ev⟩ : ∃ v, ((w8.setCell ⟨nb, 0, none⟩ (.string s)).setCell ⟨nb, 1, none⟩ (.slice aT ts1.length cT)).setCell ⟨nb, 2, none⟩ (.slice aN ns1.length cN) = v := ⟨_, rfl⟩
            have HEV : Hid (((w8.setCell ⟨nb, 0, none⟩ (.string s)).setCell ⟨nb, 1, none⟩ (.slice aT ts1.length cT)).setCell ⟨nb, 2, none⟩ (.slice aN ns1.length cN) = v) := ev
            rw [ev] at f1 f2 f3 f4
            have HFIN : Hid (Below wr.heap.size wr v ∧ Bx v nb #[.string s, .slice aT ts1.length cT, .slice aN ns1.length cN] 27 ∧ v.ownsRow wr.heap.size 60 3 (.slice aT ts1.length cT) ts1.length (flat ts1) ∧ v.ownsRow wr.heap.size 57 4 (.slice aN ns1.length cN) ns1.length (flat ns1)) := ⟨f1, f2, f3, f4⟩
            clear f1 f2 f3 f4 ev
            go_simp
            rw [HEV.out]
            refine hK.out _ _ (fun h => Bool.noConfusion (show true = false from h)) ?_
            clear hK K
            try simp only [Act.put, List.setIfInBounds_toArray, List.set_cons_zero, List.set_cons_succ]
            refine wpAnyG_done (by kernel_rfl) ?_ _
            exact REST nb aT cT aN cN v HFIN.out
          · have hK : Hid _ := hK0
            clear hK0
            go_simp
            obtain ⟨nb, hnb⟩ : ∃ nb, w5.heap.size = nb := ⟨_, rfl⟩
            obtain ⟨w6, e8⟩ : ∃ w8, (w5.alloc (.cells #[.string ⟨#[]⟩, .slice none 0 0, .slice none 0 0] 27)) = w8 := ⟨_, rfl⟩
            have X6 : Hid (Bx w6 nb #[.string ⟨#[]⟩, .slice none 0 0, .slice none 0 0] 27) := by unfold Hid; rw [← e8, ← hnb]; exact Bx.new _ _ _
            have a8 : Below w5.heap.size w5 w6 := by rw [← e8]; exact ((Below.refl _ _).alloc (Nat.le_refl _) _)
            have B6 : Hid (Below wr.heap.size wr w6) := B5.out.trans (a8.mono B5.out.size)
            have HH : Hid (wr.heap.size ≤ nb) := hnb ▸ B5.out.size
            have OT6 : Hid (w6.ownsRow wr.heap.size 60 3 (.slice aT ts1.length cT) ts1.length (flat ts1)) := own_belowR OT5.out a8 (Nat.le_refl _)
            rw [e8, hnb]
            clear e8 a8 hnb
            have S6 := HSS.out w6 B6.out
            refine hK.out _ _ (fun _ => S6) ?_
            clear hK K
            try simp only [Act.put, List.setIfInBounds_toArray, List.set_cons_zero, List.set_cons_succ]
            refine wpAnyG_one (i := 7) (by kernel_rfl) rfl (fun K hK0 => ?_)
            have hK : Hid _ := hK0
            clear hK0
            go_simp
            refine (CN.out _ B6.out).mono ?_
            rintro e w8 ⟨aN, cN, rfl, oN, hb⟩
            have B8 : Hid (Below wr.heap.size wr w8) := B6.out.trans (hb.mono B6.out.size)
            have ON8 : Hid (w8.ownsRow wr.heap.size 57 4 (.slice aN ns1.length cN) ns1.length (flat ns1)) := own_base oN (Nat.le_trans B6.out.size (Nat.le_add_right _ _))
            have OT8 : Hid (w8.ownsRow wr.heap.size 60 3 (.slice aT ts1.length cT) ts1.length (flat ts1)) := own_belowR OT6.out hb (Nat.le_refl _)
            have X8 : Hid (Bx w8 nb #[.string ⟨#[]⟩, .slice none 0 0, .slice none 0 0] 27) := X6.out.below hb X6.out.lt
            clear oN hb
            have S8 := HSS.out w8 B8.out
            refine hK.out _ _ (fun _ => S8) ?_
            clear hK K
            try simp only [Act.put, List.setIfInBounds_toArray, List.set_cons_zero, List.set_cons_succ]
            refine wpAnyG_take (i := 8) (v := .agg #[.string s, .slice aT ts1.length cT, .slice aN ns1.length cN]) rfl (by kernel_rfl) (by kernel_rfl) (by kernel_rfl) (fun _ _ _ h => h) (by kernel_rfl) (by kernel_rfl) (by kernel_rfl) (Or.inl ⟨by rfl, fun z hz => ?_⟩) S8 ?_
            · obtain ⟨hz4, hz5, hz6⟩ := hz
              go_simp
            try simp only [Act.put, List.setIfInBounds_toArray, List.set_cons_zero, List.set_cons_succ]
            refine wpAnyG_one (i := 10) (by kernel_rfl) rfl (fun K hK0 => ?_)
            have hK : Hid _ := hK0
            clear hK0
            obtain ⟨f1, f2, f3, f4⟩ := fin6 B8.out HH.out X8.out rfl OT8.out ON8.out (by decide) (by decide) (.string s) (.slice aT ts1.length cT) (.slice aN ns1.length cN)
            have y0 := X8.out.t0
            have y1 : (w8.setCell ⟨nb, 0, none⟩ (.string s)).cell? ⟨nb, 1, none⟩ = some (.slice none 0 0) := (X8.out.set 0 (.string s)).cell 1
            have y2 : ((w8.setCell ⟨nb, 0, none⟩ (.string s)).setCell ⟨nb, 1, none⟩ (.slice aT ts1.length cT)).cell? ⟨nb, 2, none⟩ = some (.slice none 0 0) := ((X8.out.set 0 (.string s)).set 1 (.slice aT ts1.length cT)).cell 2
            have z0 := X8.out.free 0
            have z1 := (X8.out.set 0 (.string s)).free 1
            have z2 := ((X8.out.set 0 (.string s)).set 1 (.slice aT ts1.length cT)).free 2
            obtain ⟨v, ev⟩ : ∃ v, ((w8.setCell ⟨nb, 0, none⟩ (.string s)).setCell ⟨nb, 1, none⟩ (.slice aT ts1.length cT)).setCell ⟨nb, 2, none⟩ (.slice aN ns1.length cN) = v := ⟨_, rfl⟩
            have HEV : Hid (((w8.setCell ⟨nb, 0, none⟩ (.string s)).setCell ⟨nb, 1, none⟩ (.slice aT ts1.length cT)).setCell ⟨nb, 2, none⟩ (.slice aN ns1.length cN) = v) := ev
            rw [ev] at f1 f2 f3 f4
            have HFIN : Hid (Below wr.heap.size wr v ∧ Bx v nb #[.string s, .slice aT ts1.length cT, .slice aN ns1.length cN] 27 ∧ v.ownsRow wr.heap.size 60 3 (.slice aT ts1.length cT) ts1.length (flat ts1) ∧ v.ownsRow wr.heap.size 57 4 (.slice aN ns1.length cN) ns1.length (flat ns1)) := ⟨f1, f2, f3, f4⟩
            clear f1 f2 f3 f4 ev
            go_simp
            rw [HEV.out]
            refine hK.out _ _ (fun h => Bool.noConfusion (show true = false from h)) ?_
            clear hK K
            try simp only [Act.put, List.setIfInBounds_toArray, List.set_cons_zero, List.set_cons_succ]
            refine wpAnyG_done (by kernel_rfl) ?_ _
            exact REST nb aT cT aN cN v HFIN.out
        · have hK : Hid _ := hK0
          clear hK0
          go_simp
          obtain ⟨nb, hnb⟩ : ∃ nb, wr.heap.size = nb := ⟨_, rfl⟩
          obtain ⟨w5, e8⟩ : ∃ w8, (wr.alloc (.cells #[.string ⟨#[]⟩, .slice none 0 0, .slice none 0 0] 27)).drew = w8 := ⟨_, rfl⟩
          have X5 : Hid (Bx w5 nb #[.string ⟨#[]⟩, .slice none 0 0, .slice none 0 0] 27) := by unfold Hid; rw [← e8, ← hnb]; exact Bx.new _ _ _
          have a8 : Below wr.heap.size wr w5 := by rw [← e8]; exact ((Below.refl _ _).alloc (Nat.le_refl _) _).drew
          have B5 : Hid (Below wr.heap.size wr w5) := Br.out.trans (a8.mono Br.out.size)
          have HH : Hid (wr.heap.size ≤ nb) := hnb ▸ Br.out.size
          rw [e8, hnb]
          clear e8 a8 hnb
          have S5 := HSS.out w5 B5.out
          refine hK.out _ _ (fun _ => S5) ?_
          clear hK K
          try simp only [Act.put, List.setIfInBounds_toArray, List.set_cons_zero, List.set_cons_succ]
          refine wpAnyG_one (i := 4) (by kernel_rfl) rfl (fun K hK0 => ?_)
          have hK : Hid _ := hK0
          clear hK0
          go_simp
          refine (CT.out _ B5.out).mono ?_
          rintro e w6 ⟨aT, cT, rfl, oT, hb⟩
          have B6 : Hid (Below wr.heap.size wr w6) := B5.out.trans (hb.mono B5.out.size)
          have OT6 : Hid (w6.ownsRow wr.heap.size 60 3 (.slice aT ts1.length cT) ts1.length (flat ts1)) := own_base oT B5.out.size
          have X6 : Hid (Bx w6 nb #[.string ⟨#[]⟩, .slice none 0 0, .slice none 0 0] 27) := X5.out.below hb X5.out.lt
          clear oT hb
          have S6 := HSS.out w6 B6.out
          refine hK.out _ _ (fun _ => S6) ?_
          clear hK K
          try simp only [Act.put, List.setIfInBounds_toArray, List.set_cons_zero, List.set_cons_succ]
          refine wpAnyG_one (i := 7) (by kernel_rfl) rfl (fun K hK0 => ?_)
          have hK : Hid _ := hK0
          clear hK0
          go_simp
          refine (CN.out _ B6.out).mono ?_
          rintro e w8 ⟨aN, cN, rfl, oN, hb⟩
          have B8 : Hid (Below wr.heap.size wr w8) := B6.out.trans (hb.mono B6.out.size)
          have ON8 : Hid (w8.ownsRow wr.heap.size 57 4 (.slice aN ns1.length cN) ns1.length (flat ns1)) := own_base oN (Nat.le_trans B6.out.size (Nat.le_add_right _ _))
          have OT8 : Hid (w8.ownsRow wr.heap.size 60 3 (.slice aT ts1.length cT) ts1.length (flat ts1)) := own_belowR OT6.out hb (Nat.le_refl _)
          have X8 : Hid (Bx w8 nb #[.string ⟨#[]⟩, .slice none 0 0, .slice none 0 0] 27) := X6.out.below hb X6.out.lt
          clear oN hb
          have S8 := HSS.out w8 B8.out
          refine hK.out _ _ (fun _ => S8) ?_
          clear hK K
          try simp only [Act.put, List.setIfInBounds_toArray, List.set_cons_zero, List.set_cons_succ]
          refine wpAnyG_take (i := 8) (v := .agg #[.string s, .slice aT ts1.length cT, .slice aN ns1.length cN]) rfl (by kernel_rfl) (by kernel_rfl) (by kernel_rfl) (fun _ _ _ h => h) (by kernel_rfl) (by kernel_rfl) (by kernel_rfl) (Or.inl ⟨by rfl, fun z hz => ?_⟩) S8 ?_
          · obtain ⟨hz4, hz5, hz6⟩ := hz
            go_simp
          try simp only [Act.put, List.setIfInBounds_toArray, List.set_cons_zero, List.set_cons_succ]
          refine wpAnyG_one (i := 10) (by kernel_rfl) rfl (fun K hK0 => ?_)
          have hK : Hid _ := hK0
          clear hK0
          obtain ⟨f1, f2, f3, f4⟩ := fin6 B8.out HH.out X8.out rfl OT8.out ON8.out (by decide) (by decide) (.string s) (.slice aT ts1.length cT) (.slice aN ns1.length cN)
          have y0 := X8.out.t0
          have y1 : (w8.setCell ⟨nb, 0, none⟩ (.string s)).cell? ⟨nb, 1, none⟩ = some (.slice none 0 0) := (X8.out.set 0 (.string s)).cell 1
          have y2 : ((w8.setCell ⟨nb, 0, none⟩ (.string s)).setCell ⟨nb, 1, none⟩ (.slice aT ts1.length cT)).cell? ⟨nb, 2, none⟩ = some (.slice none 0 0) := ((X8.out.set 0 (.string s)).set 1 (.slice aT ts1.length cT)).cell 2
          have z0 := X8.out.free 0
          have z1 := (X8.out.set 0 (.string s)).free 1
          have z2 := ((X8.out.set 0 (.string s)).set 1 (.slice aT ts1.length cT)).free 2
          obtain ⟨v, ev⟩ : ∃ v, ((w8.setCell ⟨nb, 0, none⟩ (.string s)).setCell ⟨nb, 1, none⟩ (.slice aT ts1.length cT)).setCell ⟨nb, 2, none⟩ (.slice aN ns1.length cN) = v := ⟨_, rfl⟩
          have HEV : Hid (((w8.setCell ⟨nb, 0, none⟩ (.string s)).setCell ⟨nb, 1, none⟩ (.slice aT ts1.length cT)).setCell ⟨nb, 2, none⟩ (.slice aN ns1.length cN) = v) := ev
          rw [ev] at f1 f2 f3 f4
          have HFIN : Hid (Below wr.heap.size wr v ∧ Bx v nb #[.string s, .slice aT ts1.length cT, .slice aN ns1.length cN] 27 ∧ v.ownsRow wr.heap.size 60 3 (.slice aT ts1.length cT) ts1.length (flat ts1) ∧ v.ownsRow wr.heap.size 57 4 (.slice aN ns1.length cN) ns1.length (flat ns1)) := ⟨f1, f2, f3, f4⟩
          clear f1 f2 f3 f4 ev
          go_simp
          rw [HEV.out]
          refine hK.out _ _ (fun h => Bool.noConfusion (show true = false from h)) ?_
          clear hK K
          try simp only [Act.put, List.setIfInBounds_toArray, List.set_cons_zero, List.set_cons_succ]
          refine wpAnyG_done (by kernel_rfl) ?_ _
          exact REST nb aT cT aN cN v HFIN.out
      · intro nb aT cT aN cN v hfin
        obtain ⟨f1, f2, f3, f4⟩ := hfin
        have HV : Hid (∀ x, Below v.heap.size v x → Mn w b B fb cb g1 g2 (4 * k) s #[.string s, .slice a1 ts.length c1, .slice a2 ns.length c2] ts1 ns1 x V U I J rn un ri ui ∧ Bx x nb #[.string s, .slice aT ts1.length cT, .slice aN ns1.length cN] 27 ∧ LiesA x aT ts1 ∧ LiesA x aN ns1) := fun x hx => ⟨(HM.out.below f1).below hx, f2.below hx f2.lt, (liesA_own f3).below hx, (liesA_own f4).below hx⟩
        have HWV : Hid (∀ x, Below v.heap.size v x → Below w.heap.size w x) := fun x hx => ((HM.out.below f1).below hx).bel
        have VC : Hid (∀ x, Below v.heap.size v x → (x.cell? ⟨cb, 0, none⟩ = some (.string s) ∧ x.cell? ⟨cb, 1, none⟩ = some (.slice (some ⟨g1, 0, none⟩) ts1.length (ts1.length + 2)) ∧ x.cell? ⟨cb, 2, none⟩ = some (.slice (some ⟨g2, 0, none⟩) ns1.length (ns1.length + 2))) ∧ x.cell? ⟨nb, 0, none⟩ = some (.string s) ∧ x.cell? ⟨nb, 1, none⟩ = some (.slice aT ts1.length cT) ∧ x.cell? ⟨nb, 2, none⟩ = some (.slice aN ns1.length cN)) := fun x hx => ⟨⟨(HV.out x hx).1.bc.cell 0, (HV.out x hx).1.bc.cell 1, (HV.out x hx).1.bc.cell 2⟩, (HV.out x hx).2.1.cell 0, (HV.out x hx).2.1.cell 1, (HV.out x hx).2.1.cell 2⟩
        have HVL : Hid (wr.heap.size ≤ v.heap.size) := f1.size
        obtain ⟨KL, hKL⟩ : ∃ KL, (kid ns1 n).getD [] = KL := ⟨_, rfl⟩
        obtain ⟨KB, hKB⟩ : ∃ KB, (kid ns1 n).isSome = KB := ⟨_, rfl⟩
        obtain ⟨OL, hOL⟩ : ∃ OL, owl ts1 ns1 n = OL := ⟨_, rfl⟩
        obtain ⟨NL, hNL⟩ : ∃ NL, nms s ts1 ns1 = NL := ⟨_, rfl⟩
        have HKN : Hid (KL.length ≤ 1048576 ∧ OL.length ≤ 1048576 ∧ NL.length ≤ 1048576) := ⟨by rw [← hKL]; exact Nat.le_trans (kid_len ns1 n) hns, by rw [← hOL]; exact Nat.le_trans (owl_len ts1 ns1 n) hts, by rw [← hNL]; exact Nat.le_trans (nms_len s ts1 ns1) hns⟩
        have hss : s.size ≤ 1048576 := HSZ.out.1
        have KD : Hid (∀ (a : Option Addr) (c : Nat) x, LiesA x a ns1 → Calls Tryd.prog 7 #[.agg #[.slice a ns1.length c], .int .i64 n] x fun e w' => ∃ u, e = .returned u ∧ w'.ownsRow x.heap.size 3 1 u KL.length (flat KL) ∧ Below x.heap.size x w') := fun a c x hx => by rw [← hKL]; exact Kids_any a c ns1 n x hx (by omega) bn0 bn1
        have RKD : Hid (∀ (a : Option Addr) (c : Nat) x, LiesA x a ns1 → Calls Tryd.prog 11 #[.agg #[.slice a ns1.length c], .int .i64 n] x fun e w' => ∃ u, e = .returned (.tuple #[u, .bool KB]) ∧ w'.ownsRow x.heap.size 3 1 u KL.length (flat KL) ∧ Below x.heap.size x w') := fun a c x hx => by rw [← hKL, ← hKB]; exact rkids_any a c ns1 n x hx (by omega) bn0 bn1
        have OWN : Hid (∀ x, Below v.heap.size v x → Calls Tryd.prog 8 #[.slice (some ⟨g1, 0, none⟩) ts1.length (ts1.length + 2), .agg #[.slice (some ⟨g2, 0, none⟩) ns1.length (ns1.length + 2)], .int .i64 n] x fun e w' => ∃ u, e = .returned u ∧ w'.ownsRow x.heap.size 3 1 u OL.length (flat OL) ∧ Below x.heap.size x w') := fun x hx => by rw [← hOL]; exact own_any _ _ _ _ ts1 ns1 n x (HV.out x hx).1.tok (HV.out x hx).1.nod (by omega) (by omega) HFN.out bn0 bn1 (by omega)
        have ROW : Hid (∀ x, Below v.heap.size v x → Calls Tryd.prog 13 #[.slice aT ts1.length cT, .agg #[.slice aN ns1.length cN], .int .i64 n] x fun e w' => ∃ u, e = .returned u ∧ w'.ownsRow x.heap.size 3 1 u OL.length (flat OL) ∧ Below x.heap.size x w') := fun x hx => by rw [← hOL]; exact rown_any aT aN cT cN ts1 ns1 n x (HV.out x hx).2.2.1 (HV.out x hx).2.2.2 (by omega) (by omega) HFN.out bn0 bn1
        have NMS : Hid (∀ x, Below v.heap.size v x → Calls Tryd.prog 9 #[.string s, .slice (some ⟨g1, 0, none⟩) ts1.length (ts1.length + 2), .agg #[.slice (some ⟨g2, 0, none⟩) ns1.length (ns1.length + 2)]] x fun e w' => ∃ u, e = .returned u ∧ w'.ownsRow x.heap.size 3 1 u NL.length (flat NL) ∧ Below x.heap.size x w') := fun x hx => by rw [← hNL]; exact names_any s _ _ _ _ ts1 ns1 x (HV.out x hx).1.tok (HV.out x hx).1.nod (by omega) (by omega) (by omega) HFT.out
        have RNM : Hid (∀ x, Below v.heap.size v x → Calls Tryd.prog 14 #[.string s, .slice aT ts1.length cT, .agg #[.slice aN ns1.length cN]] x fun e w' => ∃ u, e = .returned u ∧ w'.ownsRow x.heap.size 3 1 u NL.length (flat NL) ∧ Below x.heap.size x w') := fun x hx => by rw [← hNL]; exact rnames_any s aT aN cT cN ts1 ns1 x (HV.out x hx).2.2.1 (HV.out x hx).2.2.2 (by omega) (by omega) (by omega) HFT.out
        obtain ⟨SB, hSB⟩ : ∃ SB, skB nams ns1 = SB := ⟨_, rfl⟩
        obtain ⟨UB, hUB⟩ : ∃ UB, upN ns1 n = UB := ⟨_, rfl⟩
        obtain ⟨TB, hTB⟩ : ∃ TB : ByteArray, (⟨(tex s ts1 ns1 n).toArray⟩ : ByteArray) = TB := ⟨_, rfl⟩
        obtain ⟨VB, hVB⟩ : ∃ VB, vlB ns1 (ts1.length : Int) = VB := ⟨_, rfl⟩
        have SKT : Hid (∀ x, Below v.heap.size v x → Calls Tryd.prog 15 #[.agg #[.slice (some ⟨g2, 0, none⟩) ns1.length (ns1.length + 2)]] x fun e w' => e = .returned (.string SB) ∧ Below x.heap.size x w') := fun x hx => by rw [← hSB]; exact sketch_any nams nams_short _ _ ns1 x (HV.out x hx).1.nod hns HFN.out (HNM.out x (HWV.out x hx)).c
        have RSK : Hid (∀ x, Below v.heap.size v x → Calls Tryd.prog 16 #[.agg #[.slice aN ns1.length cN]] x fun e w' => e = .returned (.string SB) ∧ Below x.heap.size x w') := fun x hx => by rw [← hSB, ← rs_sk]; exact rsketch_any nams nams_short _ _ ns1 x (HV.out x hx).2.2.2 hns HFN.out (HNM.out x (HWV.out x hx))
        have UPT : Hid (∀ x, Below v.heap.size v x → Calls Tryd.prog 17 #[.agg #[.slice (some ⟨g2, 0, none⟩) ns1.length (ns1.length + 2)], .int .i64 n] x fun e w' => e = .returned (.int .i64 UB) ∧ Below x.heap.size x w') := fun x hx => by rw [← hUB]; exact up_any _ _ ns1 n x (HV.out x hx).1.nod (by omega) bn0 bn1
        have RUP : Hid (∀ x, Below v.heap.size v x → Calls Tryd.prog 18 #[.agg #[.slice aN ns1.length cN], .int .i64 n] x fun e w' => e = .returned (.int .i64 UB) ∧ Below x.heap.size x w') := fun x hx => by rw [← hUB]; exact rUp_any _ _ ns1 n x (HV.out x hx).2.2.2 (by omega) bn0 bn1
        have TXT : Hid (∀ x, Below v.heap.size v x → Calls Tryd.prog 19 #[.string s, .slice (some ⟨g1, 0, none⟩) ts1.length (ts1.length + 2), .agg #[.slice (some ⟨g2, 0, none⟩) ns1.length (ns1.length + 2)], .int .i64 n] x fun e w' => e = .returned (.string TB) ∧ Below x.heap.size x w') := fun x hx => by rw [← hTB]; exact text_any s _ _ _ _ ts1 ns1 n x (HV.out x hx).1.tok (HV.out x hx).1.nod (by omega) (by omega) hss HFT.out HFN.out bn0 bn1 (by omega)
        have RTX : Hid (∀ x, Below v.heap.size v x → Calls Tryd.prog 20 #[.string s, .slice aT ts1.length cT, .agg #[.slice aN ns1.length cN], .int .i64 n] x fun e w' => e = .returned (.string TB) ∧ Below x.heap.size x w') := fun x hx => by rw [← hTB]; exact rtext_any s aT aN cT cN ts1 ns1 n x (HV.out x hx).2.2.1 (HV.out x hx).2.2.2 hts (by omega) hss HFT.out HFN.out bn0 bn1
        have VLD : Hid (∀ x, Below v.heap.size v x → Calls Tryd.prog 21 #[.agg #[.slice (some ⟨g2, 0, none⟩) ns1.length (ns1.length + 2)], .int .i64 (ts1.length : Int)] x fun e w' => e = .returned (.bool VB) ∧ Below x.heap.size x w') := fun x hx => by rw [← hVB]; exact valid_any _ _ ns1 _ x (HV.out x hx).1.nod (by omega) HFN.out
        have RVL : Hid (∀ x, Below v.heap.size v x → Calls Tryd.prog 22 #[.agg #[.slice aN ns1.length cN], .int .i64 (ts1.length : Int)] x fun e w' => e = .returned (.bool VB) ∧ Below x.heap.size x w') := fun x hx => by rw [← hVB]; exact rvalid_any _ _ ns1 _ x (HV.out x hx).2.2.2 (by omega) HFN.out
        have NOD : Hid (∀ x, Below v.heap.size v x → LiesA x (some ⟨g2, 0, none⟩) ns1 ∧ LiesA x aN ns1) := fun x hx => ⟨(HV.out x hx).1.nod, (HV.out x hx).2.2.2⟩
        clear SS HSS CT CN BD Br f1 f2 f3 f4 hKL hKB hOL hNL hSB hUB hTB hVB
        obtain ⟨⟨y0, y1, y2⟩, x0, x1, x2⟩ := VC.out v (Below.refl _ _)
        go_upto_region 7 with fail
        go_wp2_with fail
        refine (KD.out _ _ _ (NOD.out v (Below.refl _ _)).1).mono ?_
        rintro e w5 ⟨u5, rfl, o5, hb5⟩
        obtain ⟨a5, c5, rfl, -, -⟩ := own_slice o5
        have B5 : Hid (Below v.heap.size v w5) := hb5
        have O5 : Hid (w5.ownsRow v.heap.size 3 1 (.slice a5 KL.length c5) KL.length (flat KL)) := o5
        clear hb5 o5 y0 y1 y2 x0 x1 x2
        obtain ⟨⟨y0, y1, y2⟩, x0, x1, x2⟩ := VC.out w5 B5.out
        go_wp2_with fail
        refine (OWN.out _ B5.out).mono ?_
        rintro e w6 ⟨u6', rfl, o6, hb6⟩
        obtain ⟨a6, c6, rfl, -, -⟩ := own_slice o6
        have B6 : Hid (Below v.heap.size v w6) := B5.out.trans (hb6.mono B5.out.size)
        have O56 : Hid (w6.ownsRow v.heap.size 3 1 (.slice a5 KL.length c5) KL.length (flat KL)) := own_belowR O5.out hb6 (Nat.le_refl _)
        have O6 : Hid (w6.ownsRow w5.heap.size 3 1 (.slice a6 OL.length c6) OL.length (flat OL)) := o6
        have P56 : Hid (ApR ⟨.slice a5 KL.length c5, KL.length, flat KL⟩ ⟨.slice a6 OL.length c6, OL.length, flat OL⟩) := fun g h1 h2 => by have q1 := (O5.out.lt g h1).2; have q2 := (o6.lt g h2).1; omega
        clear hb6 o6 y0 y1 y2 x0 x1 x2
        obtain ⟨⟨y0, y1, y2⟩, x0, x1, x2⟩ := VC.out w6 B6.out
        go_wp2_with fail
        refine (NMS.out _ B6.out).mono ?_
        rintro e w7 ⟨u7', rfl, o7, hb7⟩
        obtain ⟨a7, c7, rfl, -, -⟩ := own_slice o7
        have B7 : Hid (Below v.heap.size v w7) := B6.out.trans (hb7.mono B6.out.size)
        have O57 : Hid (w7.ownsRow v.heap.size 3 1 (.slice a5 KL.length c5) KL.length (flat KL)) := own_belowR O56.out hb7 (Nat.le_refl _)
        have O67 : Hid (w7.ownsRow w5.heap.size 3 1 (.slice a6 OL.length c6) OL.length (flat OL)) := own_belowR O6.out hb7 (Nat.le_refl _)
        have O7 : Hid (w7.ownsRow w6.heap.size 3 1 (.slice a7 NL.length c7) NL.length (flat NL)) := o7
        have P57 : Hid (ApR ⟨.slice a5 KL.length c5, KL.length, flat KL⟩ ⟨.slice a7 NL.length c7, NL.length, flat NL⟩) := fun g h1 h2 => by have q1 := (O56.out.lt g h1).2; have q2 := (o7.lt g h2).1; omega
        have P67 : Hid (ApR ⟨.slice a6 OL.length c6, OL.length, flat OL⟩ ⟨.slice a7 NL.length c7, NL.length, flat NL⟩) := fun g h1 h2 => by have q1 := (O6.out.lt g h1).2; have q2 := (o7.lt g h2).1; omega
        clear hb7 o7 y0 y1 y2 x0 x1 x2
        go_wp2_with fail
        refine (DR.out _ (HWV.out _ B7.out)).mono ?_
        rintro e w8 ⟨a8, c8, rfl, o8, hb8⟩
        have B8 : Hid (Below v.heap.size v w8) := B7.out.trans (hb8.mono B7.out.size)
        obtain ⟨w9, e9, hb9, hs9, X9⟩ := bx1 w8 #[.slice a8 DL.length c8] 25
        obtain ⟨tb, htb⟩ : ∃ tb, w8.heap.size = tb := ⟨_, rfl⟩
        have HE9 : Hid (w8.alloc (.cells #[.slice a8 DL.length c8] 25) = w9) := e9
        have hb79 : Below w7.heap.size w7 w9 := hb8.trans (hb9.mono hb8.size)
        have B9 : Hid (Below v.heap.size v w9) := B8.out.trans (hb9.mono B8.out.size)
        have T9 : Hid (Bx w9 tb #[.slice a8 DL.length c8] 25) := htb ▸ X9
        have O59 : Hid (w9.ownsRow v.heap.size 3 1 (.slice a5 KL.length c5) KL.length (flat KL)) := own_belowR O57.out hb79 (Nat.le_refl _)
        have O69 : Hid (w9.ownsRow v.heap.size 3 1 (.slice a6 OL.length c6) OL.length (flat OL)) := own_base (own_belowR O67.out hb79 (Nat.le_refl _)) B5.out.size
        have O79 : Hid (w9.ownsRow v.heap.size 3 1 (.slice a7 NL.length c7) NL.length (flat NL)) := own_base (own_belowR O7.out hb79 (Nat.le_refl _)) B6.out.size
        have O89 : Hid (w9.ownsRow v.heap.size 57 4 (.slice a8 DL.length c8) DL.length (flat DL)) := own_base (own_belowR o8 hb9 (Nat.le_refl _)) B7.out.size
        have HTB : Hid (v.heap.size ≤ tb) := htb ▸ B8.out.size
        clear hb8 o8 e9 hb9 hs9 X9 hb79
        obtain ⟨⟨y0, y1, y2⟩, x0, x1, x2⟩ := VC.out w9 B9.out
        go_upto_region 11 with fail
        rw [HE9.out]
        clear HE9 O5 O56 O57 O6 O67 O7 B5 B6 B7 B8
        go_wp2_with fail
        refine (RKD.out _ _ _ (NOD.out w9 B9.out).2).mono ?_
        rintro e w10 ⟨u10', rfl, o10, hb10⟩
        obtain ⟨a10, c10, rfl, q10, -, -⟩ := own_form (α := Int) o10
        have B10 : Hid (Below v.heap.size v w10) := B9.out.trans (hb10.mono B9.out.size)
        have H910 : Hid (Below w9.heap.size w9 w10) := hb10
        have Q10 : Hid (LiesA w10 a10 KL ∧ LiesA w10 a5 KL ∧ LiesA w10 a6 OL ∧ LiesA w10 a7 NL) := ⟨q10, (liesA_own O59.out).below hb10, (liesA_own O69.out).below hb10, (liesA_own O79.out).below hb10⟩
        clear hb10 o10 q10 y0 y1 y2 x0 x1 x2
        obtain ⟨⟨y0, y1, y2⟩, x0, x1, x2⟩ := VC.out w10 B10.out
        clear y0 y1 y2
        have BD : Hid (Below w10.heap.size w10 w10) := Below.refl _ _
        have hkn := HKN.out
        go_upto_region 14 with (first
                | (go_at_call 12; (with_reducible refine (same_ints a5 a10 c5 c10 KL _ (Q10.out.2.1.below BD.out) (Q10.out.1.below BD.out) (by unfold maxLen; omega)).mono ?_); rintro e w11 ⟨rfl, hb11⟩; have H11 : Hid (Below w10.heap.size w10 w11) := BD.out.trans (hb11.mono BD.out.size); have B11 : Hid (Below v.heap.size v w11) := B10.out.trans (H11.out.mono B10.out.size); obtain ⟨-, x0b, x1b, x2b⟩ := VC.out w11 B11.out; clear hb11)
                | (go_at_call 13; (with_reducible refine (ROW.out _ B11.out).mono ?_); rintro e w12 ⟨u12', rfl, o12, hb12⟩; obtain ⟨a12, c12, rfl, q12, -, -⟩ := own_form (α := Int) o12; have H12 : Hid (Below w10.heap.size w10 w12) := H11.out.trans (hb12.mono H11.out.size); have B12 : Hid (Below v.heap.size v w12) := B10.out.trans (H12.out.mono B10.out.size); have Q12 : Hid (LiesA w12 a12 OL) := q12; obtain ⟨-, x0c, x1c, x2c⟩ := VC.out w12 B12.out; clear hb12 o12 q12)
                | (go_at_call 12; (with_reducible refine (same_ints a6 a12 c6 c12 OL _ (Q10.out.2.2.1.below H12.out) Q12.out (by unfold maxLen; omega)).mono ?_); rintro e w13 ⟨rfl, hb13⟩; have H13 : Hid (Below w10.heap.size w10 w13) := H12.out.trans (hb13.mono H12.out.size); have B13 : Hid (Below v.heap.size v w13) := B10.out.trans (H13.out.mono B10.out.size); obtain ⟨-, x0d, x1d, x2d⟩ := VC.out w13 B13.out; clear hb13)
                | (go_at_call 14; (with_reducible refine (RNM.out _ B13.out).mono ?_); rintro e w14 ⟨u14', rfl, o14, hb14⟩; obtain ⟨a14, c14, rfl, q14, -, -⟩ := own_form (α := Int) o14; have H14 : Hid (Below w10.heap.size w10 w14) := H13.out.trans (hb14.mono H13.out.size); have B14 : Hid (Below v.heap.size v w14) := B10.out.trans (H14.out.mono B10.out.size); have Q14 : Hid (LiesA w14 a14 NL) := q14; obtain ⟨-, x0e, x1e, x2e⟩ := VC.out w14 B14.out; clear hb14 o14 q14)
                | (go_at_call 12; (with_reducible refine (same_ints a7 a14 c7 c14 NL _ (Q10.out.2.2.2.below H14.out) Q14.out (by unfold maxLen; omega)).mono ?_); rintro e w15 ⟨rfl, hb15⟩; have H15 : Hid (Below w10.heap.size w10 w15) := H14.out.trans (hb15.mono H14.out.size); have B15 : Hid (Below v.heap.size v w15) := B10.out.trans (H15.out.mono B10.out.size); obtain ⟨-, x0f, x1f, x2f⟩ := VC.out w15 B15.out; clear hb15))
        have B9F : Hid (Below w9.heap.size w9 w15) := H910.out.trans (H15.out.mono H910.out.size)
        clear BD H11 B11 H12 B12 Q12 H13 B13 H14 B14 Q14 H15 Q10 H910 B10 B9
        obtain ⟨X, F, hX, hF, onto⟩ := class_of (fun x => Below w15.heap.size w15 x) (Below.refl _ w15)
        have HF : Hid (∀ y, Below w15.heap.size w15 (F y)) := hF
        have HBF : Hid (∀ y, Below v.heap.size v (F y)) := fun y => B15.out.trans ((hF y).mono B15.out.size)
        have HO : Hid (∀ x, Below w15.heap.size w15 x → ∃ y, x = F y) := fun x h => by obtain ⟨y, hy⟩ := onto x h; exact ⟨y, hy.symm⟩
        have p0 : ∀ y, (F y).cell? ⟨cb, 0, none⟩ = some (.string s) := fun y => (VC.out _ (HBF.out y)).1.1
        have p1 : ∀ y, (F y).cell? ⟨cb, 1, none⟩ = some (.slice (some ⟨g1, 0, none⟩) ts1.length (ts1.length + 2)) := fun y => (VC.out _ (HBF.out y)).1.2.1
        have p2 : ∀ y, (F y).cell? ⟨cb, 2, none⟩ = some (.slice (some ⟨g2, 0, none⟩) ns1.length (ns1.length + 2)) := fun y => (VC.out _ (HBF.out y)).1.2.2
        have p3 : ∀ y, (F y).cell? ⟨nb, 0, none⟩ = some (.string s) := fun y => (VC.out _ (HBF.out y)).2.1
        have p4 : ∀ y, (F y).cell? ⟨nb, 1, none⟩ = some (.slice aT ts1.length cT) := fun y => (VC.out _ (HBF.out y)).2.2.1
        have p5 : ∀ y, (F y).cell? ⟨nb, 2, none⟩ = some (.slice aN ns1.length cN) := fun y => (VC.out _ (HBF.out y)).2.2.2
        have q1 : (SB.toList == SB.toList) = true := beq_self_eq_true _
        have q2 : (TB.toList == TB.toList) = true := beq_self_eq_true _
        have q3 : (UB != UB) = false := by simp
        have q4 : (VB != VB) = false := by simp
        clear hF onto
        refine region_class F (by kernel_rfl) (by kernel_rfl) (by obtain ⟨x, hx⟩ := HO.out _ (Below.refl _ _).drew; exact ⟨x, hx.symm⟩) ?_
        repeat (go_big_quiet_step (first
          | (go_at_call 15; with_reducible refine (SKT.out _ (HBF.out _)).mono ?_; rintro e z5 ⟨rfl, hb5⟩; exact ⟨rfl, HO.out _ ((HF.out _).trans (hb5.mono (HF.out _).size))⟩)
          | (go_at_call 16; with_reducible refine (RSK.out _ (HBF.out _)).mono ?_; rintro e z5 ⟨rfl, hb5⟩; exact ⟨rfl, HO.out _ ((HF.out _).trans (hb5.mono (HF.out _).size))⟩)
          | (go_at_call 17; with_reducible refine (UPT.out _ (HBF.out _)).mono ?_; rintro e z5 ⟨rfl, hb5⟩; exact ⟨rfl, HO.out _ ((HF.out _).trans (hb5.mono (HF.out _).size))⟩)
          | (go_at_call 18; with_reducible refine (RUP.out _ (HBF.out _)).mono ?_; rintro e z5 ⟨rfl, hb5⟩; exact ⟨rfl, HO.out _ ((HF.out _).trans (hb5.mono (HF.out _).size))⟩)
          | (go_at_call 19; with_reducible refine (TXT.out _ (HBF.out _)).mono ?_; rintro e z5 ⟨rfl, hb5⟩; exact ⟨rfl, HO.out _ ((HF.out _).trans (hb5.mono (HF.out _).size))⟩)
          | (go_at_call 20; with_reducible refine (RTX.out _ (HBF.out _)).mono ?_; rintro e z5 ⟨rfl, hb5⟩; exact ⟨rfl, HO.out _ ((HF.out _).trans (hb5.mono (HF.out _).size))⟩)
          | (go_at_call 21; with_reducible refine (VLD.out _ (HBF.out _)).mono ?_; rintro e z5 ⟨rfl, hb5⟩; exact ⟨rfl, HO.out _ ((HF.out _).trans (hb5.mono (HF.out _).size))⟩)
          | (go_at_call 22; with_reducible refine (RVL.out _ (HBF.out _)).mono ?_; rintro e z5 ⟨rfl, hb5⟩; exact ⟨rfl, HO.out _ ((HF.out _).trans (hb5.mono (HF.out _).size))⟩)))
        refine wpQuiet_nil ?_
        rintro _ ⟨nq, rfl⟩
        obtain ⟨z0, hz0⟩ : ∃ z, F nq = z := ⟨_, rfl⟩
        have HZ0 : Hid (Below w15.heap.size w15 z0) := hz0 ▸ HF.out nq
        have BZ : Hid (Below v.heap.size v z0) := hz0 ▸ HBF.out nq
        rw [hz0]
        clear hz0 HF HBF HO p0 p1 p2 p3 p4 p5 q1 q2 q3 q4 SKT RSK UPT RUP TXT RTX VLD RVL KD RKD OWN ROW NMS RNM NOD
        have D9 : Hid (Below w9.heap.size w9 z0) := B9F.out.trans (HZ0.out.mono B9F.out.size)
        have MZ : Hid (Mn w b B fb cb g1 g2 (4 * k) s #[.string s, .slice a1 ts.length c1, .slice a2 ns.length c2] ts1 ns1 z0 V U I J rn un ri ui) := (HV.out _ BZ.out).1
        have O5 : Hid (z0.ownsRow v.heap.size 3 1 (.slice a5 KL.length c5) KL.length (flat KL)) := own_belowR O59.out D9.out (Nat.le_refl _)
        have O6 : Hid (z0.ownsRow v.heap.size 3 1 (.slice a6 OL.length c6) OL.length (flat OL)) := own_belowR O69.out D9.out (Nat.le_refl _)
        have O7 : Hid (z0.ownsRow v.heap.size 3 1 (.slice a7 NL.length c7) NL.length (flat NL)) := own_belowR O79.out D9.out (Nat.le_refl _)
        have O8 : Hid (z0.ownsRow v.heap.size 57 4 (.slice a8 DL.length c8) DL.length (flat DL)) := own_belowR O89.out D9.out (Nat.le_refl _)
        have T0 : Hid (Bx z0 tb #[.slice a8 DL.length c8] 25) := T9.out.below D9.out T9.out.lt
        have hBv : Hid (B ≤ v.heap.size) := Nat.le_trans HM.out.sh.le HVL.out
        have hbv : Hid (b < v.heap.size ∧ tb ≠ b) := by have h1 := HM.out.sh.lt; have h2 := hBv.out; have h3 := HTB.out; exact ⟨by omega, by omega⟩
        have HA : Hid (∀ q ∈ ri ++ ui, ∀ g, q.v.ownBlock = some g → g < v.heap.size) := fun q hq g hg => Nat.lt_of_lt_of_le ((HM.out.sh.i.each q hq).lt g hg).2 HVL.out
        have HAN : Hid (∀ q ∈ rn ++ un, ∀ g, q.v.ownBlock = some g → g < v.heap.size) := fun q hq g hg => Nat.lt_of_lt_of_le ((HM.out.sh.n.each q hq).lt g hg).2 HVL.out
        have A5 : Hid (∀ q ∈ ri ++ ui, ApR q ⟨.slice a5 KL.length c5, KL.length, flat KL⟩) := fun q hq g h1 h2 => by have p1 := HA.out q hq g h1; have p2 := (O5.out.lt g h2).1; omega
        have A6 : Hid (∀ q ∈ ri ++ ui, ApR q ⟨.slice a6 OL.length c6, OL.length, flat OL⟩) := fun q hq g h1 h2 => by have p1 := HA.out q hq g h1; have p2 := (O6.out.lt g h2).1; omega
        have A7 : Hid (∀ q ∈ ri ++ ui, ApR q ⟨.slice a7 NL.length c7, NL.length, flat NL⟩) := fun q hq g h1 h2 => by have p1 := HA.out q hq g h1; have p2 := (O7.out.lt g h2).1; omega
        have A8 : Hid (∀ q ∈ rn ++ un, ApR q ⟨.slice a8 DL.length c8, DL.length, flat DL⟩) := fun q hq g h1 h2 => by have p1 := HAN.out q hq g h1; have p2 := (O8.out.lt g h2).1; omega
        clear HV HWV VC HM HVL O59 O69 O79 O89 T9 B9F B15 HZ0 BZ D9 HA HAN
        have hdl := HDL.out
        go_upto_region 20 with (first
          | (go_at_call 23; (with_reducible refine (MZ.out.ints (by omega) KL _ (own_base O5.out hBv.out) (by omega) A5.out).mono ?_); rintro e z1 ⟨⟨x, rfl⟩, I1, J1, k1, hm1, hu1, hf1⟩; have M1 : Hid (Mn w b B fb cb g1 g2 (4 * k + 1) s #[.string s, .slice a1 ts.length c1, .slice a2 ns.length c2] ts1 ns1 z1 V U I1 J1 rn un (ri ++ [⟨.slice a5 KL.length c5, KL.length, flat KL⟩]) (ui ++ [k1])) := hm1; have O6a : Hid (z1.ownsRow v.heap.size 3 1 (.slice a6 OL.length c6) OL.length (flat OL)) := own_frm O6.out hbv.out.1 hf1 MZ.out.sh.i.outV MZ.out.sh.i.outU (by decide); have O7a : Hid (z1.ownsRow v.heap.size 3 1 (.slice a7 NL.length c7) NL.length (flat NL)) := own_frm O7.out hbv.out.1 hf1 MZ.out.sh.i.outV MZ.out.sh.i.outU (by decide); have O8a : Hid (z1.ownsRow v.heap.size 57 4 (.slice a8 DL.length c8) DL.length (flat DL)) := own_frm O8.out hbv.out.1 hf1 MZ.out.sh.i.outV MZ.out.sh.i.outU (by decide); have T1 : Hid (Bx z1 tb #[.slice a8 DL.length c8] 25) := T0.out.frm hbv.out.2 hf1 MZ.out.sh.i.outV MZ.out.sh.i.outU (by decide); have A6a : Hid (∀ q ∈ (ri ++ [⟨.slice a5 KL.length c5, KL.length, flat KL⟩]) ++ (ui ++ [k1]), ApR q ⟨.slice a6 OL.length c6, OL.length, flat OL⟩) := ap_more A6.out P56.out (fun g h1 h2 => by have p1 := hu1 g h1; have p2 := (O6.out.lt g h2).2; omega); have A7a : Hid (∀ q ∈ (ri ++ [⟨.slice a5 KL.length c5, KL.length, flat KL⟩]) ++ (ui ++ [k1]), ApR q ⟨.slice a7 NL.length c7, NL.length, flat NL⟩) := ap_more A7.out P57.out (fun g h1 h2 => by have p1 := hu1 g h1; have p2 := (O7.out.lt g h2).2; omega); clear hm1 hu1 hf1)
          | (go_at_call 23; (with_reducible refine (M1.out.ints (by omega) OL _ (own_base O6a.out hBv.out) (by omega) A6a.out).mono ?_); rintro e z2 ⟨⟨x, rfl⟩, I2, J2, k2, hm2, hu2, hf2⟩; have M2 : Hid (Mn w b B fb cb g1 g2 (4 * k + 1 + 1) s #[.string s, .slice a1 ts.length c1, .slice a2 ns.length c2] ts1 ns1 z2 V U I2 J2 rn un ((ri ++ [⟨.slice a5 KL.length c5, KL.length, flat KL⟩]) ++ [⟨.slice a6 OL.length c6, OL.length, flat OL⟩]) ((ui ++ [k1]) ++ [k2])) := hm2; have O7b : Hid (z2.ownsRow v.heap.size 3 1 (.slice a7 NL.length c7) NL.length (flat NL)) := own_frm O7a.out hbv.out.1 hf2 M1.out.sh.i.outV M1.out.sh.i.outU (by decide); have O8b : Hid (z2.ownsRow v.heap.size 57 4 (.slice a8 DL.length c8) DL.length (flat DL)) := own_frm O8a.out hbv.out.1 hf2 M1.out.sh.i.outV M1.out.sh.i.outU (by decide); have T2 : Hid (Bx z2 tb #[.slice a8 DL.length c8] 25) := T1.out.frm hbv.out.2 hf2 M1.out.sh.i.outV M1.out.sh.i.outU (by decide); have A7b : Hid (∀ q ∈ ((ri ++ [⟨.slice a5 KL.length c5, KL.length, flat KL⟩]) ++ [⟨.slice a6 OL.length c6, OL.length, flat OL⟩]) ++ ((ui ++ [k1]) ++ [k2]), ApR q ⟨.slice a7 NL.length c7, NL.length, flat NL⟩) := ap_more A7a.out P67.out (fun g h1 h2 => by have p1 := hu2 g h1; have p2 := (O7a.out.lt g h2).2; omega); clear hm2 hu2 hf2)
          | (go_at_call 23; (with_reducible refine (M2.out.ints (by omega) NL _ (own_base O7b.out hBv.out) (by omega) A7b.out).mono ?_); rintro e z3 ⟨⟨x, rfl⟩, I3, J3, k3, hm3, hu3, hf3⟩; have M3 : Hid (Mn w b B fb cb g1 g2 (4 * k + 1 + 1 + 1) s #[.string s, .slice a1 ts.length c1, .slice a2 ns.length c2] ts1 ns1 z3 V U I3 J3 rn un (((ri ++ [⟨.slice a5 KL.length c5, KL.length, flat KL⟩]) ++ [⟨.slice a6 OL.length c6, OL.length, flat OL⟩]) ++ [⟨.slice a7 NL.length c7, NL.length, flat NL⟩]) (((ui ++ [k1]) ++ [k2]) ++ [k3])) := hm3; have O8c : Hid (z3.ownsRow v.heap.size 57 4 (.slice a8 DL.length c8) DL.length (flat DL)) := own_frm O8b.out hbv.out.1 hf3 M2.out.sh.i.outV M2.out.sh.i.outU (by decide); have T3 : Hid (Bx z3 tb #[.slice a8 DL.length c8] 25) := T2.out.frm hbv.out.2 hf3 M2.out.sh.i.outV M2.out.sh.i.outU (by decide); have t3 := T3.out.one; clear hm3 hu3 hf3)
          | (go_at_call 24; (with_reducible refine (M3.out.tree (by omega) DL _ (own_base O8c.out hBv.out) (by omega) A8.out).mono ?_); rintro e z4 ⟨⟨x, rfl⟩, V4, U4, k4, hm4, hf4⟩; have M4 : Hid (Mn w b B fb cb g1 g2 (4 * k + 1 + 1 + 1 + 1) s #[.string s, .slice a1 ts.length c1, .slice a2 ns.length c2] ts1 ns1 z4 V4 U4 I3 J3 (rn ++ [⟨.slice a8 DL.length c8, DL.length, flat DL⟩]) (un ++ [k4]) (((ri ++ [⟨.slice a5 KL.length c5, KL.length, flat KL⟩]) ++ [⟨.slice a6 OL.length c6, OL.length, flat OL⟩]) ++ [⟨.slice a7 NL.length c7, NL.length, flat NL⟩]) (((ui ++ [k1]) ++ [k2]) ++ [k3])) := hm4; clear hm4 hf4))
        have M5 : Hid (Mn w b B fb cb g1 g2 (4 * (k + 1)) s #[.string s, .slice a1 ts.length c1, .slice a2 ns.length c2] ts1 ns1 z4 V4 U4 I3 J3 (rn ++ [⟨.slice a8 DL.length c8, DL.length, flat DL⟩]) (un ++ [k4]) (((ri ++ [⟨.slice a5 KL.length c5, KL.length, flat KL⟩]) ++ [⟨.slice a6 OL.length c6, OL.length, flat OL⟩]) ++ [⟨.slice a7 NL.length c7, NL.length, flat NL⟩]) (((ui ++ [k1]) ++ [k2]) ++ [k3])) := by
          unfold Hid
          have h := M4.out
          rw [show 4 * k + 1 + 1 + 1 + 1 = 4 * (k + 1) by omega] at h
          exact h
        clear M4 M3 M2 M1 MZ O5 O6 O7 O8 O6a O7a O8a O7b O8b O8c T0 T1 T2 T3 A5 A6 A7 A8 A6a A7a A7b P56 P57 P67 t3 hBv hbv HTB HKN hdl hkn
        generalize (rn ++ [(⟨.slice a8 DL.length c8, DL.length, flat DL⟩ : Rr)]) = rn5 at M5
        generalize (un ++ [k4]) = un5 at M5
        generalize (((ri ++ [(⟨.slice a5 KL.length c5, KL.length, flat KL ⟩ : Rr)]) ++ [(⟨.slice a6 OL.length c6, OL.length, flat OL ⟩ : Rr)]) ++ [(⟨.slice a7 NL.length c7, NL.length, flat NL ⟩ : Rr)]) = ri5 at M5
        generalize (((ui ++ [k1]) ++ [k2]) ++ [k3]) = ui5 at M5
        have y2 : z4.cell? ⟨cb, 2, none⟩ = some (.slice (some ⟨g2, 0, none⟩) ns1.length (ns1.length + 2)) := M5.out.bc.cell 2
        go_wp2
        clear y2
        go_loopg [157] ns1.length (fun gi si wi => ∃ (i : Nat) (ns2 : List Nd), gi = ns1.length - i ∧ i ≤ ns1.length ∧ si = .int .i64 (i : Int) ∧ ns2.length = ns1.length ∧ (∀ e ∈ ns2, NdFit e) ∧ Mn w b B fb cb g1 g2 (4 * (k + 1)) s #[.string s, .slice a1 ts.length c1, .slice a2 ns.length c2] ts1 ns2 wi V4 U4 I3 J3 rn5 un5 ri5 ui5)
        case atStart => exact ⟨0, ns1, rfl, Nat.zero_le _, rfl, rfl, HFN.out, M5.out⟩
        case round =>
          obtain ⟨i, ns2, rfl, hi, rfl, hl2, hfn2, hM⟩ := hrel
          clear M5
          have M5 : Hid (Mn w b B fb cb g1 g2 (4 * (k + 1)) s #[.string s, .slice a1 ts.length c1, .slice a2 ns.length c2] ts1 ns2 wr V4 U4 I3 J3 rn5 un5 ri5 ui5) := hM
          have HF5 : Hid (∀ e ∈ ns2, NdFit e) := hfn2
          have HL5 : Hid (ns2.length = ns1.length) := hl2
          clear hM hfn2
          by_cases hli : i < ns1.length
          · have hli' : (i : Int) < (ns1.length : Int) := by omega
            have hi0 : (0 : Int) ≤ (i : Int) := by omega
            obtain ⟨x, hx⟩ : ∃ x, ns2[i]? = some x := ⟨_, List.getElem?_eq_getElem (by omega)⟩
            have HX : Hid (ns2[i]? = some x) := hx
            have HFX : Hid (NdFit x) := HF5.out x (List.mem_of_getElem? hx)
            have y2 : wr.cell? ⟨cb, 2, none⟩ = some (.slice (some ⟨g2, 0, none⟩) ns1.length (ns1.length + 2)) := by rw [← hl2]; exact M5.out.bc.cell 2
            clear hl2 hx
            by_cases h3 : i % 3 = 1
            · have m1 : ((i : Int) % 3 == 1) = true := by simp; omega
              have m2 : ((i : Int).tmod 3 == 1) = true := by rw [Int.tmod_eq_emod_of_nonneg (by omega)]; exact m1
              have d0 : wr.cell? ⟨g2, i * 4, none⟩ = some (.int .u8 x.k) := by
                have := (Lies.own M5.out.on).pre.get HX.out 0 (.int .u8 x.k) rfl
                simpa [Rw.k] using this
              have z0' := M5.out.on.frozenAt (i * 4)
              obtain ⟨w1, e1⟩ : ∃ w1, wr.setCell ⟨g2, i * 4, none⟩ (.int .u8 45) = w1 := ⟨_, rfl⟩
              have HE1 : Hid (wr.setCell ⟨g2, i * 4, none⟩ (.int .u8 45) = w1) := e1
              have M6 : Hid (Mn w b B fb cb g1 g2 (4 * (k + 1)) s #[.string s, .slice a1 ts.length c1, .slice a2 ns.length c2] ts1 (ns2.set i ⟨45, x.f, x.e, x.s⟩) w1 V4 U4 I3 J3 rn5 un5 ri5 ui5) := by unfold Hid; rw [← e1]; exact M5.out.setN (r := 0) HX.out (by decide) rfl
              have HX6 : Hid ((ns2.set i ⟨45, x.f, x.e, x.s⟩)[i]? = some ⟨45, x.f, x.e, x.s⟩) := List.getElem?_set_self (by have := HL5.out; omega)
              clear e1
              go_upto_region 25 with fail
              rw [HE1.out]
              clear HE1 d0 z0' y2
              have y2 : w1.cell? ⟨cb, 2, none⟩ = some (.slice (some ⟨g2, 0, none⟩) ns1.length (ns1.length + 2)) := by
                have h := M6.out.bc.cell 2
                rw [List.length_set, HL5.out] at h
                exact h
              have d1 : w1.cell? ⟨g2, i * 4 + 1, none⟩ = some (.int .i64 x.f) := by
                have := (Lies.own M6.out.on).pre.get HX6.out 1 (.int .i64 x.f) rfl
                simpa [Rw.k] using this
              have z1' := M6.out.on.frozenAt (i * 4 + 1)
              obtain ⟨fx, hfx⟩ : ∃ fx, IntKind.i64.wrap (x.f + 1) = fx := ⟨_, rfl⟩
              have HFF : Hid (In64 fx) := by
                unfold Hid
                rw [← hfx]
                obtain ⟨-, ⟨q1, q2⟩, -⟩ := HFX.out
                by_cases hmx : x.f = 9223372036854775807
                · rw [hmx, show IntKind.i64.wrap (9223372036854775807 + 1) = -9223372036854775808 by decide]
                  exact ⟨by decide, by decide⟩
                · rw [IntWalk.i64_in _ ⟨by omega, by omega⟩]
                  exact ⟨by omega, by omega⟩
              obtain ⟨w2', e2⟩ : ∃ w2, w1.setCell ⟨g2, i * 4 + 1, none⟩ (.int .i64 fx) = w2 := ⟨_, rfl⟩
              have HE2 : Hid (w1.setCell ⟨g2, i * 4 + 1, none⟩ (.int .i64 fx) = w2') := e2
              have M7 : Hid (Mn w b B fb cb g1 g2 (4 * (k + 1)) s #[.string s, .slice a1 ts.length c1, .slice a2 ns.length c2] ts1 ((ns2.set i ⟨45, x.f, x.e, x.s⟩).set i ⟨45, fx, x.e, x.s⟩) w2' V4 U4 I3 J3 rn5 un5 ri5 ui5) := by unfold Hid; rw [← e2]; exact M6.out.setN (r := 1) HX6.out (by decide) rfl
              clear e2
              go_wp2
              rw [HE2.out]
              go_roundg (ns1.length - (i + 1))
              case measure => omega
              case rel =>
                obtain ⟨q0, q1, q2, q3⟩ := HFX.out
                exact ⟨i + 1, (ns2.set i ⟨45, x.f, x.e, x.s⟩).set i ⟨45, fx, x.e, x.s⟩, rfl, by omega, by go_num, by rw [List.length_set, List.length_set]; exact HL5.out, fit_set (fit_set HF5.out i (y := ⟨45, x.f, x.e, x.s⟩) ⟨⟨(show (0 : Int) ≤ 45 by decide), (show (45 : Int) ≤ 255 by decide)⟩, q1, q2, q3⟩) i (y := ⟨45, fx, x.e, x.s⟩) ⟨⟨(show (0 : Int) ≤ 45 by decide), (show (45 : Int) ≤ 255 by decide)⟩, HFF.out, q2, q3⟩, M7.out⟩
            · have m1 : ((i : Int) % 3 == 1) = false := beq_eq_false_iff_ne.2 (by omega)
              have m2 : ((i : Int).tmod 3 == 1) = false := by rw [Int.tmod_eq_emod_of_nonneg (by omega)]; exact m1
              go_wp2
              go_roundg (ns1.length - (i + 1))
              case measure => omega
              case rel => exact ⟨i + 1, ns2, rfl, by omega, by go_num, HL5.out, HF5.out, M5.out⟩
          · have hli' : ¬ (i : Int) < (ns1.length : Int) := by omega
            have y1 : wr.cell? ⟨cb, 1, none⟩ = some (.slice (some ⟨g1, 0, none⟩) ts1.length (ts1.length + 2)) := M5.out.bc.cell 1
            clear hl2
            go_wp2
            clear y1 hli hli' hi
            go_loopg [183] ts1.length (fun gi si wi => ∃ (i : Nat) (ts2 : List Tk), gi = ts1.length - i ∧ i ≤ ts1.length ∧ si = .int .i64 (i : Int) ∧ ts2.length = ts1.length ∧ (∀ e ∈ ts2, TkFit e) ∧ Mn w b B fb cb g1 g2 (4 * (k + 1)) s #[.string s, .slice a1 ts.length c1, .slice a2 ns.length c2] ts2 ns2 wi V4 U4 I3 J3 rn5 un5 ri5 ui5)
            case atStart => exact ⟨0, ts1, rfl, Nat.zero_le _, rfl, rfl, HFT.out, M5.out⟩
            case round =>
              obtain ⟨i, ts2, rfl, hi, rfl, hl2, hft2, hM⟩ := hrel
              clear M5
              have M5 : Hid (Mn w b B fb cb g1 g2 (4 * (k + 1)) s #[.string s, .slice a1 ts.length c1, .slice a2 ns.length c2] ts2 ns2 wr V4 U4 I3 J3 rn5 un5 ri5 ui5) := hM
              have HT5 : Hid (∀ e ∈ ts2, TkFit e) := hft2
              have HK5 : Hid (ts2.length = ts1.length) := hl2
              clear hM hft2
              by_cases hli : i < ts1.length
              · have hli' : (i : Int) < (ts1.length : Int) := by omega
                have hi0 : (0 : Int) ≤ (i : Int) := by omega
                obtain ⟨x, hx⟩ : ∃ x, ts2[i]? = some x := ⟨_, List.getElem?_eq_getElem (by omega)⟩
                have HX : Hid (ts2[i]? = some x) := hx
                have HFX : Hid (TkFit x) := HT5.out x (List.mem_of_getElem? hx)
                have y1 : wr.cell? ⟨cb, 1, none⟩ = some (.slice (some ⟨g1, 0, none⟩) ts1.length (ts1.length + 2)) := by rw [← hl2]; exact M5.out.bc.cell 1
                clear hl2 hx
                by_cases h4 : i % 4 = 2
                · have m1 : ((i : Int) % 4 == 2) = true := by simp; omega
                  have m2 : ((i : Int).tmod 4 == 2) = true := by rw [Int.tmod_eq_emod_of_nonneg (by omega)]; exact m1
                  have d0 : wr.cell? ⟨g1, i * 3, none⟩ = some (.int .u8 x.k) := by
                    have := (Lies.own M5.out.ot).pre.get HX.out 0 (.int .u8 x.k) rfl
                    simpa [Rw.k] using this
                  have z0' := M5.out.ot.frozenAt (i * 3)
                  obtain ⟨w1, e1⟩ : ∃ w1, wr.setCell ⟨g1, i * 3, none⟩ (.int .u8 0) = w1 := ⟨_, rfl⟩
                  have HE1 : Hid (wr.setCell ⟨g1, i * 3, none⟩ (.int .u8 0) = w1) := e1
                  have M6 : Hid (Mn w b B fb cb g1 g2 (4 * (k + 1)) s #[.string s, .slice a1 ts.length c1, .slice a2 ns.length c2] (ts2.set i ⟨0, x.f, x.t⟩) ns2 w1 V4 U4 I3 J3 rn5 un5 ri5 ui5) := by unfold Hid; rw [← e1]; exact M5.out.setT (r := 0) HX.out (by decide) rfl
                  clear e1
                  go_wp2
                  rw [HE1.out]
                  go_roundg (ts1.length - (i + 1))
                  case measure => omega
                  case rel =>
                    obtain ⟨q0, q1, q2⟩ := HFX.out
                    exact ⟨i + 1, ts2.set i ⟨0, x.f, x.t⟩, rfl, by omega, by go_num, by rw [List.length_set]; exact HK5.out, fit_set HT5.out i (y := ⟨0, x.f, x.t⟩) ⟨⟨(show (0 : Int) ≤ 0 by decide), (show (0 : Int) ≤ 255 by decide)⟩, q1, q2⟩, M6.out⟩
                · have m1 : ((i : Int) % 4 == 2) = false := beq_eq_false_iff_ne.2 (by omega)
                  have m2 : ((i : Int).tmod 4 == 2) = false := by rw [Int.tmod_eq_emod_of_nonneg (by omega)]; exact m1
                  go_wp2
                  go_roundg (ts1.length - (i + 1))
                  case measure => omega
                  case rel => exact ⟨i + 1, ts2, rfl, by omega, by go_num, HK5.out, HT5.out, M5.out⟩
              · have hli' : ¬ (i : Int) < (ts1.length : Int) := by omega
                clear hl2
                go_wp2
                go_roundg (2 - (k + 1))
                case measure => omega
                case rel => exact ⟨k + 1, ts2, ns2, V4, U4, I3, J3, rn5, un5, ri5, ui5, rfl, by omega, by go_num, HK5.out.trans HLT.out, HL5.out.trans HLN.out, HT5.out, HF5.out, M5.out⟩
    · have hk2' : ¬ (k : Int) < 2 := by omega
      go_wp2_with (go_at_call 25; (with_reducible refine (own_shelf b B _ V U I J rn un ri ui HM.out.sh HM.out.sn HM.out.si (by have := HM.out.nm; omega) (by have := HM.out.nm; omega)).mono ?_); rintro e w5 ⟨rfl, hb5⟩; have HB5 : Hid (Below w.heap.size w w5) := HM.out.bel.trans (hb5.mono HM.out.lb); clear hb5)
      go_ret
      exact ⟨rfl, HB5.out⟩
end Go.Proofs.YtaploloedocgbaaDoor
