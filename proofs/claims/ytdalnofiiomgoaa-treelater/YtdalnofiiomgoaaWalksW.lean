import Derived.Test.YtdalnofiiomgoaaWl
import Derived.Test.YtdalnofiiomgoaaVl5
import Derived.Test.YtdalnofiiomgoaaSmI
namespace Go.Proofs.Ytdalnofiiomgoaa
open Go.ChangeShapes Go.WideShapes Go.ChangeAt Go.RowKit
set_option linter.unusedVariables false
attribute [local go_sem] Oper.semAt_some

theorem wkl_len (ns : List Nd) (skp : Nat → Bool) (e : Nat) : ∀ (d k : Nat), e - k ≤ d → (wkl ns skp e k).length ≤ e - k := by
  intro d
  induction d with
  | zero => intro k hd; rw [wkl_end (by omega)]; simp
  | succ d ih =>
    intro k hd
    by_cases hk : k < e
    · cases hs : skp k with
      | false => rw [wkl_one hk hs]; have := ih (k + 1) (by omega); simp; omega
      | true =>
        cases hx : ns[k]? with
        | none => rw [wkl, dif_pos hk, hs, hx]; simp; omega
        | some x =>
          by_cases h1 : 1 ≤ x.s ∧ x.s ≤ (e : Int) - k
          · rw [wkl_skip hk hs hx h1.1 h1.2]; have := ih (k + x.s.toNat) (by omega); simp; omega
          · rw [wkl_bad hk hs hx h1]; simp; omega
    · rw [wkl_end hk]; simp
theorem wk_len (ns : List Nd) (skp : Nat → Bool) (n : Int) : (wk ns skp n).length ≤ ns.length := by
  cases hw : whl ns n with
  | false => rw [wk_no hw]; simp
  | true =>
    obtain ⟨k, z, x, rfl, hx, hxz, hz, hzk⟩ := whl_yes hw
    rw [wk_at hx hxz hw]
    have := wkl_len ns skp (k + z) _ k (Nat.le_refl _)
    omega
theorem eql_fun (g : Fn) (c l : Array Value) (w : World) : Sem.run Try.prog (binOp .eql 33 (.func g c l) .nilFunc) w = .ok (.bool false) w := by rfl

set_option maxRecDepth 1000000 in
set_option maxHeartbeats 4000000 in
theorem treeWalks_walk (s : ByteArray) (a1 a2 : Option Addr) (c1 c2 : Nat) (ts : List Tk) (ns : List Nd) (n u st : Int) (w : World) (h1 : LiesA w a1 ts) (h2 : LiesA w a2 ns) (hn1 : a1 = none → ts.length = 0 ∧ c1 = 0) (hn2 : a2 = none → ns.length = 0 ∧ c2 = 0)
    (hl1 : ts.length * 24 ≤ 140737488351232) (hl2 : ns.length * 32 ≤ 140737488351232) (hs : s.size ≤ 140737488351232) (hf1 : ∀ e ∈ ts, TkFit e) (hf2 : ∀ e ∈ ns, NdFit e) (bn0 : -9223372036854775808 ≤ n) (bn1 : n ≤ 9223372036854775807) (bu0 : 0 ≤ u) (bu1 : u ≤ 18446744073709551615) (bs0 : -9223372036854775808 ≤ st) (bs1 : st ≤ 9223372036854775807) :
    Calls Try.prog 7 #[.agg #[.string s, .slice a1 ts.length c1, .slice a2 ns.length c2], .int .i64 n, .int .u64 u, .int .i64 st] w fun e w' => e = .returned (.bool true) ∧ Below w.heap.size w w' := by
  have H1 : Hid (LiesA w a1 ts) := h1
  have H2 : Hid (LiesA w a2 ns) := h2
  have HN1 : Hid (a1 = none → ts.length = 0 ∧ c1 = 0) := hn1
  have HN2 : Hid (a2 = none → ns.length = 0 ∧ c2 = 0) := hn2
  clear h1 h2 hn1 hn2 hf1 hf2
  refine callsIn_wide.1 (callsIn_of_wp_marks (n := 9) Try.func7 rfl trivial (wpIn_wide.2 ?_) rfl)
  simp only [Try.ntmps7, List.size_toArray, List.length_cons, List.length_nil, Nat.reduceAdd, Nat.reduceSub, Array.replicate_succ, Array.replicate_zero, List.push_toArray, List.append_toArray, List.nil_append, List.cons_append]
  go_wp2_with fail
  obtain ⟨w0, e0, hw0, hs0, B0, B1⟩ := bx2 w #[.string s, .slice a1 ts.length c1, .slice a2 ns.length c2] #[.int .i64 st] 27 3
  rw [e0]
  have HB1 : Hid (Bx w0 (w.heap.size + 1) #[.int .i64 st] 3) := B1
  have HS0 : Hid (w0.heap.size = w.heap.size + 2) := hs0
  refine (lent_lt s a1 a2 c1 c2 ts ns w w0 w.heap.size hw0 B0 (H1.out.below hw0) (H2.out.below hw0) HN1.out HN2.out hl1 hl2).mono ?_
  rintro e w1 ⟨g1, g2, rfl, hg1, hg2, hb1, w4, e2, hlt⟩
  have HB01 : Hid (Below w0.heap.size w0 w1) := hb1
  have HL4 : Hid (Lt w w4 s a1 c1 ts a2 c2 ns g1 g2 w.heap.size w1.heap.size) := hlt
  have HE2 : Hid (w1.alloc (.cells #[.string s, .slice (some ⟨g1, 0, none⟩) ts.length (ts.length + 2), .slice (some ⟨g2, 0, none⟩) ns.length (ns.length + 2)] 27) = w4) := e2
  clear hw0 B0 e0 hs0 hb1 hg1 hg2 e2 hlt B1
  go_upto_region 2 with fail
  rw [HE2.out]
  have hbu : u < 18446744073709551616 := by omega
  obtain ⟨w5, e5, b5, s5, B5⟩ := bx1 w4.drew #[.int .u64 u] 28
  obtain ⟨w6, e6, b6, s6, C1, C2, C3⟩ := bx3 w5 #[.slice (some ⟨g2, 0, none⟩) ns.length (ns.length + 2)] #[.int .i64 n] #[.func (.func 22) #[] #[.pointer (some ⟨w4.heap.size, 0, none⟩)]] 25 3 30
  obtain ⟨w7, e7, b7, s7, D1, D2, D3⟩ := bx3 w6 #[.slice (some ⟨g2, 0, none⟩) ns.length (ns.length + 2)] #[.int .i64 n] #[.nilFunc] 25 3 30
  have HE5 : Hid (w4.drew.alloc (.cells #[.int .u64 u] 28) = w5) := e5
  have HE6 : Hid (((w5.alloc (.cells #[.slice (some ⟨g2, 0, none⟩) ns.length (ns.length + 2)] 25)).alloc (.cells #[.int .i64 n] 3)).alloc (.cells #[.func (.func 22) #[] #[.pointer (some ⟨w4.heap.size, 0, none⟩)]] 30) = w6) := e6
  have HE7 : Hid (((w6.alloc (.cells #[.slice (some ⟨g2, 0, none⟩) ns.length (ns.length + 2)] 25)).alloc (.cells #[.int .i64 n] 3)).alloc (.cells #[.nilFunc] 30) = w7) := e7
  have s5' : w5.heap.size = w4.heap.size + 1 := s5
  have b46 : Below w4.heap.size w4 w6 := ((Below.refl _ w4).drew.trans b5).trans (b6.mono (by omega))
  have b47 : Below w4.heap.size w4 w7 := b46.trans (b7.mono (by omega))
  have HL7 : Hid (Lt w w7 s a1 c1 ts a2 c2 ns g1 g2 w.heap.size w1.heap.size) := HL4.out.below b47
  have hbn : Below w0.heap.size w0 w4 := by
    have h := HE2.out
    rw [← h]; exact HB01.out.alloc HB01.out.size _
  have HST : Hid (Bx w7 (w.heap.size + 1) #[.int .i64 st] 3) := HB1.out.below (hbn.trans (b47.mono hbn.size)) (by have := HS0.out; omega)
  have hnod : LiesA w7 (some ⟨g2, 0, none⟩) ns := HL7.out.nod
  have HSQ1 : Hid (SeqO false Fence.wide 8 Try.prog 23 #[.pointer (some ⟨w5.heap.size, 0, none⟩), .pointer (some ⟨w5.heap.size + 1, 0, none⟩), .pointer (some ⟨w5.heap.size + 2, 0, none⟩)] w7.heap.size (wk ns (chB u) n) w7) :=
    walk1s_seq Fence.wide rfl 8 (by omega) _ _ _ _ _ ns n w7 (by omega) (by omega) (by omega) (C1.below b7 (by omega)).one (C2.below b7 (by omega)).one 22 #[.pointer (some ⟨w4.heap.size, 0, none⟩)] (chB u) (enters_of Try.func22 (by kernel_rfl) rfl) (C3.below b7 (by omega)).one
      (fun i hi W hW => (chosen1_any u i w4.heap.size W (((B5.below (b6.trans (b7.mono b6.size)) (by have : w4.drew.heap.size = w4.heap.size := rfl; omega)).below hW (by have : w4.drew.heap.size = w4.heap.size := rfl; omega)).one) (by omega) bu0 hbu).mono (by rintro e w' ⟨rfl, rfl⟩; exact ⟨rfl, Below.refl _ _⟩))
      hnod hl2 bn0 bn1
  have HSQ2 : Hid (SeqO false Fence.wide 8 Try.prog 23 #[.pointer (some ⟨w6.heap.size, 0, none⟩), .pointer (some ⟨w6.heap.size + 1, 0, none⟩), .pointer (some ⟨w6.heap.size + 2, 0, none⟩)] w7.heap.size (wk ns (fun _ => false) n) w7) :=
    walk1n_seq Fence.wide rfl 8 (by omega) _ _ _ _ _ ns n w7 (by omega) (by omega) (by omega) D1.one D2.one D3.one hnod hl2 bn0 bn1
  obtain ⟨-, -, -, y2⟩ := HL4.out.cells
  have y2' : w6.cell? ⟨w1.heap.size, 2, none⟩ = some (.slice (some ⟨g2, 0, none⟩) ns.length (ns.length + 2)) := (b46.cell (p := ⟨w1.heap.size, 2, none⟩) HL4.out.bc.lt).trans y2
  have HY2 : Hid (w6.cell? ⟨w1.heap.size, 2, none⟩ = some (.slice (some ⟨g2, 0, none⟩) ns.length (ns.length + 2))) := y2'
  have HY5 : Hid (w5.cell? ⟨w1.heap.size, 2, none⟩ = some (.slice (some ⟨g2, 0, none⟩) ns.length (ns.length + 2))) := (((Below.refl _ w4).drew.trans b5).cell (p := ⟨w1.heap.size, 2, none⟩) HL4.out.bc.lt).trans y2
  have HB47 : Hid (Below w4.heap.size w4 w7) := b47
  have HS7 : Hid (w7.heap.size = w4.heap.size + 7) := by unfold Hid; omega
  clear e5 b5 s5 B5 e6 b6 s6 C1 C2 C3 e7 b7 s7 D1 D2 D3 b46 b47 hnod hbn s5' y2'
  go_region_held3 (fun v => v.cell? ⟨w1.heap.size, 2, none⟩ = some (.slice (some ⟨g2, 0, none⟩) ns.length (ns.length + 2)))
    (first | go_keep | assumption)
    ((first
      | (go_at_call 10; refine (chosen_any u _).mono ?_; rintro e we ⟨rfl, hwe⟩; rw [HE5.out] at hwe; subst hwe; have y5 := HY5.out)
      | (go_at_call 11; refine (walk_any _ _ _ ⟨_, _, _, rfl⟩ (.inr ⟨_, _, _, rfl⟩) _).mono ?_; rintro e wf ⟨rfl, aa, ll, cc, hvv, hwd⟩; cases hvv; rw [HE6.out] at hwd; subst hwd; have y3 := HY2.out)))
  have hef := eql_fun
  go_wp2_with (go_at_call 11; refine (walk_any _ _ _ ⟨_, _, _, rfl⟩ (.inl rfl) _).mono ?_; rintro e wg ⟨rfl, aa, ll, cc, hvv, hwd⟩; cases hvv; rw [HE7.out] at hwd; subst hwd)
  clear hef y2 HE2 HE5 HE6 HE7 HY2 HY5
  obtain ⟨i0, hi, hz0, hz1, hz2⟩ := info_parts infoInt
  have hcl : w1.heap.size < wg.heap.size := HL7.out.bc.lt
  have hfl : w.heap.size < wg.heap.size := HL7.out.bf.lt
  have hstl : w.heap.size + 1 < wg.heap.size := HST.out.lt
  have HXL1 : Hid ((wk ns (chB u) n).length ≤ ns.length) := wk_len _ _ _
  have HXL2 : Hid ((wk ns (fun _ => false) n).length ≤ ns.length) := wk_len _ _ _
  refine wp_loop (fun a wr => ∃ (t : Nat) (Dl : List Nat) (u13 u14 u15 u16 u35 u36 u37 u38 u39 u40 u41 u42 u43 u44 u45 u46 u47 u48 u49 u50 u51 u52 u53 u54 u55 u56 u57 u58 u59 u60 u61 u62 u63 u64 u65 u66 u67 u68 u69 u70 u71 u72 u73 u74 u75 u76 : Value), a = { tmps := #[.agg #[.string s, .slice a1 ts.length c1, .slice a2 ns.length c2], .int .i64 n, .int .u64 u, .int .i64 st, .pointer (some ⟨w.heap.size, 0, none⟩), undef, undef, .pointer (some ⟨w.heap.size + 1, 0, none⟩), .bool false, .pointer (some ⟨w1.heap.size, 0, none⟩), .func (.func 23) #[] #[.pointer (some ⟨we.heap.size, 0, none⟩), .pointer (some ⟨we.heap.size + 1, 0, none⟩), .pointer (some ⟨we.heap.size + 2, 0, none⟩)], .func (.func 23) #[] #[.pointer (some ⟨wf.heap.size, 0, none⟩), .pointer (some ⟨wf.heap.size + 1, 0, none⟩), .pointer (some ⟨wf.heap.size + 2, 0, none⟩)], .int .i64 (t : Int), u13, u14, u15, u16, .agg #[.string s, .slice a1 ts.length c1, .slice a2 ns.length c2], .agg #[.string s, .slice (some ⟨g1, 0, none⟩) ts.length (ts.length + 2), .slice (some ⟨g2, 0, none⟩) ns.length (ns.length + 2)], .pointer (some ⟨w1.heap.size, 2, none⟩), .agg #[.slice (some ⟨g2, 0, none⟩) ns.length (ns.length + 2)], .int .i64 n, .int .u64 u, .func (.func 22) #[] #[.pointer (some ⟨w4.heap.size, 0, none⟩)], .func (.func 23) #[] #[.pointer (some ⟨we.heap.size, 0, none⟩), .pointer (some ⟨we.heap.size + 1, 0, none⟩), .pointer (some ⟨we.heap.size + 2, 0, none⟩)], .pointer (some ⟨w1.heap.size, 2, none⟩), .agg #[.slice (some ⟨g2, 0, none⟩) ns.length (ns.length + 2)], .int .i64 n, .func (.func 23) #[] #[.pointer (some ⟨wf.heap.size, 0, none⟩), .pointer (some ⟨wf.heap.size + 1, 0, none⟩), .pointer (some ⟨wf.heap.size + 2, 0, none⟩)], .func (.func 23) #[] #[.pointer (some ⟨we.heap.size, 0, none⟩), .pointer (some ⟨we.heap.size + 1, 0, none⟩), .pointer (some ⟨we.heap.size + 2, 0, none⟩)], .bool false, .bool false, .func (.func 23) #[] #[.pointer (some ⟨wf.heap.size, 0, none⟩), .pointer (some ⟨wf.heap.size + 1, 0, none⟩), .pointer (some ⟨wf.heap.size + 2, 0, none⟩)], .bool false, .bool false, u35, u36, u37, u38, u39, u40, u41, u42, u43, u44, u45, u46, u47, u48, u49, u50, u51, u52, u53, u54, u55, u56, u57, u58, u59, u60, u61, u62, u63, u64, u65, u66, u67, u68, u69, u70, u71, u72, u73, u74, u75, u76], defers := mks Dl } ∧ t ≤ 2 ∧ Below wg.heap.size wg wr ∧ Mk wg.heap.size wr Dl) (fun a _ => 2 - (intOf (a.tmps.getD 12 undef)).toNat) ⟨0, [], _, _, _, _, _, _, _, _, _, _, _, _, _, _, _, _, _, _, _, _, _, _, _, _, _, _, _, _, _, _, _, _, _, _, _, _, _, _, _, _, _, _, _, _, _, _, rfl, by omega, Below.refl _ _, Mk.nil _ _⟩ ?_
  rintro a wr ⟨t, Dl, u13, u14, u15, u16, u35, u36, u37, u38, u39, u40, u41, u42, u43, u44, u45, u46, u47, u48, u49, u50, u51, u52, u53, u54, u55, u56, u57, u58, u59, u60, u61, u62, u63, u64, u65, u66, u67, u68, u69, u70, u71, u72, u73, u74, u75, u76, rfl, ht, hB, hM⟩
  have HM : Hid (Mk wg.heap.size wr Dl) := hM
  have HB : Hid (Below wg.heap.size wg wr) := hB
  have hsw := hB.size
  clear hB hM
  by_cases htl : t < 2
  · have htl' : (t : Int) < 2 := by omega
    obtain ⟨v1, e1, bv1, sv1, BV⟩ := bx1 wr #[.slice none 0 0] 29
    have HE1 : Hid (wr.alloc (.cells #[.slice none 0 0] 29) = v1) := e1
    have HBV : Hid (Below wr.heap.size wr v1) := bv1
    have HBX : Hid (Boxed v1 wr.heap.size 29 (.slice none 0 0)) := BV
    clear e1 bv1 BV
    go_wp2
    rw [HE1.out]
    have hb0 : Below wg.heap.size wg v1 := HB.out.trans (HBV.out.mono hsw)
    refine range_wp (gf := 23) (lb := #[.pointer (some ⟨we.heap.size, 0, none⟩), .pointer (some ⟨we.heap.size + 1, 0, none⟩), .pointer (some ⟨we.heap.size + 2, 0, none⟩)]) rfl (enters_of Try.func23 (by kernel_rfl) rfl) HSQ1.out hb0 (by omega) rfl
      (fun pre V => (∃ v, Boxed V wr.heap.size 29 v ∧ V.ownsRow wr.heap.size 3 1 v pre.length (flat pre) ∧ True) ∧ Below wr.heap.size wr V)
      (fun _ _ _ => False) ?own1 (fun _ _ _ _ _ h _ _ => h.elim) ⟨⟨_, HBX.out, World.ownsRow_nil _ _ _ _, trivial⟩, HBV.out⟩ ?a1 ?assign ?body ?done ?stop
    case own1 => exact OwnFrom.and (Own.from (holdsRow_own wr.heap.size wr.heap.size 29 3 1 (fun pre => pre.length) (fun pre => flat pre) (fun _ _ => True)) _) (ownFrom_below (Nat.le_refl _) (by omega))
    case assign =>
      intro l x V K hK
      gi_wp2
      exact hK
    case body =>
      rintro l pre x post V hx hl - ⟨⟨v, hv, hrow, -⟩, hBw⟩
      have hxl := HXL1.out
      rw [hx] at hxl
      simp at hxl
      have hVs := hBw.size
      have hc := hv.cell
      gi_wp2_with (gi_at_builtin; refine wpListIn_append_own _ rfl _ _ 29 rfl wr.heap.size 3 i0 (.int .i64 0) 1 8 Try.underlying29 hi hz0 hz1 hz2 rfl (by decide) _ _ _ rfl (hrow.alloc _) ⟨V.heap.size, 0, none⟩ 1 1 (flat [x]) rfl rfl (cells_new V (flat [x]) 3) (flat_oneCell _) (by unfold maxLen; omega) (by omega) (by simp; omega) ?_; intro v' w1' hown' hgrow _; obtain ⟨g', cap', rfl⟩ := ownsRow_succ hown'; obtain ⟨hv1, hv2, hr2, hk2, hb2⟩ := hv.appended (by decide) hrow (by omega) (Nat.le_refl _) hown' hgrow; have hc1 := hv1.cell; have hf1 := hv1.frozen)
      exact ⟨Apart.of_keeps hk2, hb2.mono (by omega), ⟨_, hv2, by rw [flat_append, List.length_append]; exact hr2, trivial⟩, hBw.trans hb2⟩
    case stop => rintro D c pre V _ _ h _; exact h.elim
    case done =>
      rintro D V hD ⟨⟨v, hv, hrow, -⟩, hBw⟩ hK
      obtain ⟨a3, c3, rfl, q3, -, -⟩ := own_form hrow
      have HQ3 : Hid (LiesA V a3 (wk ns (chB u) n)) := q3
      have HLV : Hid (Lt w V s a1 c1 ts a2 c2 ns g1 g2 w.heap.size w1.heap.size) := HL7.out.below (HB.out.trans (hBw.mono hsw))
      have HBX2 : Hid (Boxed V wr.heap.size 29 (.slice a3 (wk ns (chB u) n).length c3)) := hv
      have HBW : Hid (Below wr.heap.size wr V) := hBw
      have HK : Hid (V.heap[D]? = some (.deferred (some []))) := hK
      have hVl : wr.heap.size < V.heap.size := hv.lt
      have hc := hv.cell
      obtain ⟨⟨-, -, x2⟩, -⟩ := HLV.out.cells
      have hxl := HXL1.out
      have HT1 : Hid (wkT ns (chB u) n (-1) = wk ns (chB u) n) := by unfold Hid wkT; rw [if_pos (by decide)]
      clear hv hrow q3 hBw hK
      go_upto_region 13 with fail
      go_region_held3 (fun z => z.cell? ⟨wr.heap.size, 0, none⟩ = some (.slice a3 (wk ns (chB u) n).length c3) ∧ z.cell? ⟨w.heap.size, 2, none⟩ = some (.slice a2 ns.length c2))
        (first | go_keep | (refine ⟨?_, ?_⟩ <;> assumption))
        ((first
          | (go_at_call 12; refine (rwalk_any a2 c2 ns n u (-1) _ (HLV.out.l2.below (Below.refl _ V).drew) hl2 bn0 bn1 bu0 hbu (by decide)).mono ?_; rintro e V5 ⟨v5, rfl, o5, hb5⟩; rw [HT1.out] at o5; obtain ⟨a5, c5, rfl, q5, -, -⟩ := own_form o5; have HB5 : Hid (Below V.heap.size V V5) := (Below.refl _ V).drew.trans hb5; have HQ5 : Hid (LiesA V5 a5 (wk ns (chB u) n)) := q5; have z1 : V5.cell? ⟨wr.heap.size, 0, none⟩ = some (.slice a3 (wk ns (chB u) n).length c3) := (HB5.out.cell (p := ⟨wr.heap.size, 0, none⟩) hVl).trans hc; have z2 : V5.cell? ⟨w.heap.size, 2, none⟩ = some (.slice a2 ns.length c2) := (HB5.out.cell (p := ⟨w.heap.size, 2, none⟩) HLV.out.bf.lt).trans x2; clear hb5 o5 q5)
          | (go_at_call 19; refine (same_ints a3 a5 c3 c5 (wk ns (chB u) n) _ (HQ3.out.below HB5.out) HQ5.out (by unfold maxLen; omega)).mono ?_; rintro e V6 ⟨rfl, hb6⟩; have HB6 : Hid (Below V.heap.size V V6) := HB5.out.trans (hb6.mono HB5.out.size); have z3 : V6.cell? ⟨wr.heap.size, 0, none⟩ = some (.slice a3 (wk ns (chB u) n).length c3) := (HB6.out.cell (p := ⟨wr.heap.size, 0, none⟩) hVl).trans hc; have z4 : V6.cell? ⟨w.heap.size, 2, none⟩ = some (.slice a2 ns.length c2) := (HB6.out.cell (p := ⟨w.heap.size, 2, none⟩) HLV.out.bf.lt).trans x2; clear hb6)))
      have HX6 : Hid (Boxed V6 wr.heap.size 29 (.slice a3 (wk ns (chB u) n).length c3)) := (HB6.out.block _ hVl).trans HBX2.out
      have hf6 : V6.frozen? ⟨wr.heap.size, 0, none⟩ = false := HX6.out.frozen
      go_wp2
      obtain ⟨V7, hV7⟩ : ∃ V7, V6.setCell ⟨wr.heap.size, 0, none⟩ (.slice none 0 0) = V7 := ⟨_, rfl⟩
      rw [hV7]
      have HB7 : Hid (Below wr.heap.size wr V7) := hV7 ▸ ((HBW.out.trans (HB6.out.mono (by omega))).setCell (p := ⟨wr.heap.size, 0, none⟩) (Nat.le_refl _) _)
      have HX7 : Hid (Boxed V7 wr.heap.size 29 (.slice none 0 0)) := hV7 ▸ HX6.out.set _
      have HM7 : Hid (Mk wg.heap.size V7 (D :: Dl)) := by
        have m1 : Mk wg.heap.size V (D :: Dl) := (HM.out.below HBW.out).cons (W0 := v1) (by omega) (fun F hF => by have := HM.out.lt hF; omega) hD HK.out
        exact hV7 ▸ ((m1.below HB6.out).apart (Apart.of_keeps (KeepsOthers.setCell _ _ _)))
      have h7s : wr.heap.size < V7.heap.size := HX7.out.lt
      clear hV7 z3 z4 hf6 hc x2
      refine range_wp (gf := 23) (lb := #[.pointer (some ⟨wf.heap.size, 0, none⟩), .pointer (some ⟨wf.heap.size + 1, 0, none⟩), .pointer (some ⟨wf.heap.size + 2, 0, none⟩)]) rfl (enters_of Try.func23 (by kernel_rfl) rfl) HSQ2.out (HB.out.trans (HB7.out.mono hsw)) (by omega) rfl
        (fun pre V => (∃ v, Boxed V wr.heap.size 29 v ∧ V.ownsRow wr.heap.size 3 1 v pre.length (flat pre) ∧ True) ∧ (Below wr.heap.size wr V ∧ (Mk wg.heap.size V (D :: Dl) ∧ (st < 1 ∨ (pre.length : Int) < st))))
        (fun c pre V => (∃ v, Boxed V wr.heap.size 29 v ∧ V.ownsRow wr.heap.size 3 1 v pre.length (flat pre) ∧ True) ∧ (Below wr.heap.size wr V ∧ (Mk wg.heap.size V (D :: Dl) ∧ (c = .exit 4 ∧ 1 ≤ st ∧ (pre.length : Int) = st)))) ?own3 ?own4 ⟨⟨_, HX7.out, World.ownsRow_nil _ _ _ _, trivial⟩, HB7.out, HM7.out, by simp; omega⟩ ?a2 ?assign2 ?body2 ?done2 ?stop2
      case own3 => exact OwnFrom.and (Own.from (holdsRow_own wr.heap.size wr.heap.size 29 3 1 (fun pre => pre.length) (fun pre => flat pre) (fun _ _ => True)) _) (OwnFrom.and (ownFrom_below (Nat.le_refl _) (by omega)) (OwnFrom.and (Mk.own (fun F hF => HM7.out.lt hF)) (ownFrom_pure _ _)))
      case own4 => exact fun c => OwnFrom.and (Own.from (holdsRow_own wr.heap.size wr.heap.size 29 3 1 (fun pre => pre.length) (fun pre => flat pre) (fun _ _ => True)) _) (OwnFrom.and (ownFrom_below (Nat.le_refl _) (by omega)) (OwnFrom.and (Mk.own (fun F hF => HM7.out.lt hF)) (ownFrom_pure _ _)))
      case assign2 =>
        intro l x V K hK
        gi_wp2
        exact hK
      case body2 =>
        rintro l pre x post V hx hl - ⟨⟨v, hv, hrow, -⟩, hBw, hMw, hcd⟩
        have hxl2 := HXL2.out
        rw [hx] at hxl2
        simp at hxl2
        have hVs := hBw.size
        have hc := hv.cell
        have hstV : Bx V (w.heap.size + 1) #[.int .i64 st] 3 := (HST.out.below HB.out hstl).below hBw (by omega)
        by_cases hcut : (pre.length : Int) + 1 = st
        · have hc' : ((pre.length : Int) + 1 == st) = true := by simp [hcut]
          have HCUT : Hid ((pre.length : Int) + 1 = st) := hcut
          clear hcut hcd
          gi_wp2_with (gi_at_builtin; refine wpListIn_append_own _ rfl _ _ 29 rfl wr.heap.size 3 i0 (.int .i64 0) 1 8 Try.underlying29 hi hz0 hz1 hz2 rfl (by decide) _ _ _ rfl (hrow.alloc _) ⟨V.heap.size, 0, none⟩ 1 1 (flat [x]) rfl rfl (cells_new V (flat [x]) 3) (flat_oneCell _) (by unfold maxLen; omega) (by omega) (by simp; omega) ?_; intro v' w1' hown' hgrow _; obtain ⟨g', cap', rfl⟩ := ownsRow_succ hown'; obtain ⟨hv1, hv2, hr2, hk2, hb2⟩ := hv.appended (by decide) hrow (by omega) (Nat.le_refl _) hown' hgrow; have hc1 := hv1.cell; have hf1 := hv1.frozen; have hcs := (hstV.below hb2 (by omega)).one)
          exact ⟨Apart.of_keeps hk2, ⟨_, hv2, by rw [flat_append, List.length_append]; exact hr2, trivial⟩, hBw.trans hb2, hMw.apart (Apart.of_keeps hk2), rfl, by have := HCUT.out; omega, by have := HCUT.out; simpa using this⟩
        · have hc' : ((pre.length : Int) + 1 == st) = false := beq_eq_false_iff_ne.2 hcut
          have HCUT : Hid ((pre.length : Int) + 1 ≠ st) := hcut
          have HCD : Hid (st < 1 ∨ (pre.length : Int) < st) := hcd
          clear hcut hcd
          gi_wp2_with (gi_at_builtin; refine wpListIn_append_own _ rfl _ _ 29 rfl wr.heap.size 3 i0 (.int .i64 0) 1 8 Try.underlying29 hi hz0 hz1 hz2 rfl (by decide) _ _ _ rfl (hrow.alloc _) ⟨V.heap.size, 0, none⟩ 1 1 (flat [x]) rfl rfl (cells_new V (flat [x]) 3) (flat_oneCell _) (by unfold maxLen; omega) (by omega) (by simp; omega) ?_; intro v' w1' hown' hgrow _; obtain ⟨g', cap', rfl⟩ := ownsRow_succ hown'; obtain ⟨hv1, hv2, hr2, hk2, hb2⟩ := hv.appended (by decide) hrow (by omega) (Nat.le_refl _) hown' hgrow; have hc1 := hv1.cell; have hf1 := hv1.frozen; have hcs := (hstV.below hb2 (by omega)).one)
          exact ⟨Apart.of_keeps hk2, hb2.mono (by omega), ⟨_, hv2, by rw [flat_append, List.length_append]; exact hr2, trivial⟩, hBw.trans hb2, hMw.apart (Apart.of_keeps hk2), by have := HCUT.out; have := HCD.out; simp; omega⟩
      case done2 =>
        rintro E V8 hE ⟨⟨v8, hv8, hrow8, -⟩, hB8, hM8, hcd⟩ hK8
        have hgl := HXL2.out
        have HGG : Hid (wk ns (chB 0) n = wk ns (fun _ => false) n) := by unfold Hid; rw [chB_zero]
        obtain ⟨G, hG⟩ : ∃ G, wk ns (fun _ => false) n = G := ⟨_, rfl⟩
        have HG : Hid (wk ns (chB 0) n = G) := HGG.out.trans hG
        rw [hG] at hrow8 hcd hgl
        clear hG
        have HCD : Hid (st < 1 ∨ (G.length : Int) < st) := hcd
        clear hcd
        by_cases gs : st < 1
        · have hm1 : (-1 : Int) ≠ 0 := by decide
          obtain ⟨a8, c8, rfl, q8, -, -⟩ := own_form hrow8
          have HQ8 : Hid (LiesA V8 a8 G) := q8
          have HLV8 : Hid (Lt w V8 s a1 c1 ts a2 c2 ns g1 g2 w.heap.size w1.heap.size) := HL7.out.below (HB.out.trans (hB8.mono hsw))
          have hV8l : wr.heap.size < V8.heap.size := hv8.lt
          have hc8 := hv8.cell
          obtain ⟨⟨-, -, x8⟩, -⟩ := HLV8.out.cells
          have hst8 : V8.cell? ⟨w.heap.size + 1, 0, none⟩ = some (.int .i64 st) := ((HST.out.below HB.out hstl).below hB8 (by omega)).one
          have HM8 : Hid (Mk wg.heap.size V8 (E :: D :: Dl)) := hM8.cons (W0 := V7) (by have := HB7.out.size; omega) (fun F hF => HM7.out.lt hF) hE hK8
          have HB8 : Hid (Below wr.heap.size wr V8) := hB8
          have HT : Hid (wkT ns (chB 0) n (-1) = G) := wkT_all HG.out (.inl (by decide))
          clear hv8 hrow8 q8 hB8 hM8 hK8
          go_upto_region 23 with fail
          go_region_held3 (fun z => z.cell? ⟨wr.heap.size, 0, none⟩ = some (.slice a8 G.length c8) ∧ z.cell? ⟨w.heap.size, 2, none⟩ = some (.slice a2 ns.length c2))
            (first | go_keep | (refine ⟨?_, ?_⟩ <;> assumption))
            ((first
              | (go_at_call 12; refine (rwalk_any a2 c2 ns n 0 (-1) _ (HLV8.out.l2.below (Below.refl _ V8).drew) hl2 bn0 bn1 (by decide) (by decide) (by omega)).mono ?_; rintro e V9 ⟨v9, rfl, o9, hb9⟩; rw [HT.out] at o9; obtain ⟨a9, c9, rfl, q9, -, -⟩ := own_form o9; have HB9 : Hid (Below V8.heap.size V8 V9) := (Below.refl _ V8).drew.trans hb9; have HQ9 : Hid (LiesA V9 a9 G) := q9; have z1 : V9.cell? ⟨wr.heap.size, 0, none⟩ = some (.slice a8 G.length c8) := (HB9.out.cell (p := ⟨wr.heap.size, 0, none⟩) hV8l).trans hc8; have z2 : V9.cell? ⟨w.heap.size, 2, none⟩ = some (.slice a2 ns.length c2) := (HB9.out.cell (p := ⟨w.heap.size, 2, none⟩) HLV8.out.bf.lt).trans x8; clear hb9 o9 q9)
              | (go_at_call 19; refine (same_ints a8 a9 c8 c9 G _ (HQ8.out.below HB9.out) HQ9.out (by unfold maxLen; omega)).mono ?_; rintro e V10 ⟨rfl, hb10⟩; have HB10 : Hid (Below V8.heap.size V8 V10) := HB9.out.trans (hb10.mono HB9.out.size); have z3 : V10.cell? ⟨wr.heap.size, 0, none⟩ = some (.slice a8 G.length c8) := (HB10.out.cell (p := ⟨wr.heap.size, 0, none⟩) hV8l).trans hc8; have z4 : V10.cell? ⟨w.heap.size, 2, none⟩ = some (.slice a2 ns.length c2) := (HB10.out.cell (p := ⟨w.heap.size, 2, none⟩) HLV8.out.bf.lt).trans x8; clear hb10)))
          go_wp2
          refine ⟨⟨t + 1, E :: D :: Dl, _, _, _, _, _, _, _, _, _, _, _, _, _, _, _, _, _, _, _, _, _, _, _, _, _, _, _, _, _, _, _, _, _, _, _, _, _, _, _, _, _, _, _, _, _, _, rfl, by omega, HB.out.trans ((HB8.out.trans (HB10.out.mono HB8.out.size)).mono hsw), HM8.out.below HB10.out⟩, ?_⟩
          simp [intOf]
          omega
        · have hs0 : st ≠ 0 := by omega
          obtain ⟨a8, c8, rfl, q8, -, -⟩ := own_form hrow8
          have HQ8 : Hid (LiesA V8 a8 G) := q8
          have HLV8 : Hid (Lt w V8 s a1 c1 ts a2 c2 ns g1 g2 w.heap.size w1.heap.size) := HL7.out.below (HB.out.trans (hB8.mono hsw))
          have hV8l : wr.heap.size < V8.heap.size := hv8.lt
          have hc8 := hv8.cell
          obtain ⟨⟨-, -, x8⟩, -⟩ := HLV8.out.cells
          have hst8 : V8.cell? ⟨w.heap.size + 1, 0, none⟩ = some (.int .i64 st) := ((HST.out.below HB.out hstl).below hB8 (by omega)).one
          have HM8 : Hid (Mk wg.heap.size V8 (E :: D :: Dl)) := hM8.cons (W0 := V7) (by have := HB7.out.size; omega) (fun F hF => HM7.out.lt hF) hE hK8
          have HB8 : Hid (Below wr.heap.size wr V8) := hB8
          have HT : Hid (wkT ns (chB 0) n st = G) := wkT_all HG.out (.inr (by have := HCD.out; omega))
          clear hv8 hrow8 q8 hB8 hM8 hK8
          go_upto_region 23 with fail
          go_region_held3 (fun z => z.cell? ⟨wr.heap.size, 0, none⟩ = some (.slice a8 G.length c8) ∧ z.cell? ⟨w.heap.size, 2, none⟩ = some (.slice a2 ns.length c2))
            (first | go_keep | (refine ⟨?_, ?_⟩ <;> assumption))
            ((first
              | (go_at_call 12; refine (rwalk_any a2 c2 ns n 0 st _ (HLV8.out.l2.below (Below.refl _ V8).drew) hl2 bn0 bn1 (by decide) (by decide) (by omega)).mono ?_; rintro e V9 ⟨v9, rfl, o9, hb9⟩; rw [HT.out] at o9; obtain ⟨a9, c9, rfl, q9, -, -⟩ := own_form o9; have HB9 : Hid (Below V8.heap.size V8 V9) := (Below.refl _ V8).drew.trans hb9; have HQ9 : Hid (LiesA V9 a9 G) := q9; have z1 : V9.cell? ⟨wr.heap.size, 0, none⟩ = some (.slice a8 G.length c8) := (HB9.out.cell (p := ⟨wr.heap.size, 0, none⟩) hV8l).trans hc8; have z2 : V9.cell? ⟨w.heap.size, 2, none⟩ = some (.slice a2 ns.length c2) := (HB9.out.cell (p := ⟨w.heap.size, 2, none⟩) HLV8.out.bf.lt).trans x8; clear hb9 o9 q9)
              | (go_at_call 19; refine (same_ints a8 a9 c8 c9 G _ (HQ8.out.below HB9.out) HQ9.out (by unfold maxLen; omega)).mono ?_; rintro e V10 ⟨rfl, hb10⟩; have HB10 : Hid (Below V8.heap.size V8 V10) := HB9.out.trans (hb10.mono HB9.out.size); have z3 : V10.cell? ⟨wr.heap.size, 0, none⟩ = some (.slice a8 G.length c8) := (HB10.out.cell (p := ⟨wr.heap.size, 0, none⟩) hV8l).trans hc8; have z4 : V10.cell? ⟨w.heap.size, 2, none⟩ = some (.slice a2 ns.length c2) := (HB10.out.cell (p := ⟨w.heap.size, 2, none⟩) HLV8.out.bf.lt).trans x8; clear hb10)))
          go_wp2
          refine ⟨⟨t + 1, E :: D :: Dl, _, _, _, _, _, _, _, _, _, _, _, _, _, _, _, _, _, _, _, _, _, _, _, _, _, _, _, _, _, _, _, _, _, _, _, _, _, _, _, _, _, _, _, _, _, _, rfl, by omega, HB.out.trans ((HB8.out.trans (HB10.out.mono HB8.out.size)).mono hsw), HM8.out.below HB10.out⟩, ?_⟩
          simp [intOf]
          omega
      case stop2 =>
        rintro E cx G V8 hE hp ⟨⟨v8, hv8, hrow8, -⟩, hB8, hM8, rfl, hs1, hlen⟩ hK8
        have hgl : G.length ≤ ns.length := Nat.le_trans hp.length_le HXL2.out
        have HGG : Hid (wk ns (chB 0) n = wk ns (fun _ => false) n) := by unfold Hid; rw [chB_zero]
        have HP : Hid (G <+: wk ns (fun _ => false) n) := hp
        have HLEN : Hid ((G.length : Int) = st) := hlen
        have gs : ¬ st < 1 := by omega
        have hs0 : st ≠ 0 := by omega
        clear hp hlen
        obtain ⟨a8, c8, rfl, q8, -, -⟩ := own_form hrow8
        have HQ8 : Hid (LiesA V8 a8 G) := q8
        have HLV8 : Hid (Lt w V8 s a1 c1 ts a2 c2 ns g1 g2 w.heap.size w1.heap.size) := HL7.out.below (HB.out.trans (hB8.mono hsw))
        have hV8l : wr.heap.size < V8.heap.size := hv8.lt
        have hc8 := hv8.cell
        obtain ⟨⟨-, -, x8⟩, -⟩ := HLV8.out.cells
        have hst8 : V8.cell? ⟨w.heap.size + 1, 0, none⟩ = some (.int .i64 st) := ((HST.out.below HB.out hstl).below hB8 (by omega)).one
        have HM8 : Hid (Mk wg.heap.size V8 (E :: D :: Dl)) := hM8.cons (W0 := V7) (by have := HB7.out.size; omega) (fun F hF => HM7.out.lt hF) hE hK8
        have HB8 : Hid (Below wr.heap.size wr V8) := hB8
        have HT : Hid (wkT ns (chB 0) n st = G) := by obtain ⟨post, hpo⟩ := HP.out; exact wkT_cut (post := post) (HGG.out.trans hpo.symm) HLEN.out
        clear hv8 hrow8 q8 hB8 hM8 hK8
        go_upto_region 23 with fail
        go_region_held3 (fun z => z.cell? ⟨wr.heap.size, 0, none⟩ = some (.slice a8 G.length c8) ∧ z.cell? ⟨w.heap.size, 2, none⟩ = some (.slice a2 ns.length c2))
          (first | go_keep | (refine ⟨?_, ?_⟩ <;> assumption))
          ((first
            | (go_at_call 12; refine (rwalk_any a2 c2 ns n 0 st _ (HLV8.out.l2.below (Below.refl _ V8).drew) hl2 bn0 bn1 (by decide) (by decide) (by omega)).mono ?_; rintro e V9 ⟨v9, rfl, o9, hb9⟩; rw [HT.out] at o9; obtain ⟨a9, c9, rfl, q9, -, -⟩ := own_form o9; have HB9 : Hid (Below V8.heap.size V8 V9) := (Below.refl _ V8).drew.trans hb9; have HQ9 : Hid (LiesA V9 a9 G) := q9; have z1 : V9.cell? ⟨wr.heap.size, 0, none⟩ = some (.slice a8 G.length c8) := (HB9.out.cell (p := ⟨wr.heap.size, 0, none⟩) hV8l).trans hc8; have z2 : V9.cell? ⟨w.heap.size, 2, none⟩ = some (.slice a2 ns.length c2) := (HB9.out.cell (p := ⟨w.heap.size, 2, none⟩) HLV8.out.bf.lt).trans x8; clear hb9 o9 q9)
            | (go_at_call 19; refine (same_ints a8 a9 c8 c9 G _ (HQ8.out.below HB9.out) HQ9.out (by unfold maxLen; omega)).mono ?_; rintro e V10 ⟨rfl, hb10⟩; have HB10 : Hid (Below V8.heap.size V8 V10) := HB9.out.trans (hb10.mono HB9.out.size); have z3 : V10.cell? ⟨wr.heap.size, 0, none⟩ = some (.slice a8 G.length c8) := (HB10.out.cell (p := ⟨wr.heap.size, 0, none⟩) hV8l).trans hc8; have z4 : V10.cell? ⟨w.heap.size, 2, none⟩ = some (.slice a2 ns.length c2) := (HB10.out.cell (p := ⟨w.heap.size, 2, none⟩) HLV8.out.bf.lt).trans x8; clear hb10)))
        go_wp2
        refine ⟨⟨t + 1, E :: D :: Dl, _, _, _, _, _, _, _, _, _, _, _, _, _, _, _, _, _, _, _, _, _, _, _, _, _, _, _, _, _, _, _, _, _, _, _, _, _, _, _, _, _, _, _, _, _, _, rfl, by omega, HB.out.trans ((HB8.out.trans (HB10.out.mono HB8.out.size)).mono hsw), HM8.out.below HB10.out⟩, ?_⟩
        simp [intOf]
        omega
  · have hte : t = 2 := by omega
    have htl' : ¬ (t : Int) < 2 := by omega
    obtain ⟨⟨x0, x1, x2⟩, y0, y1, y2⟩ := (HL7.out.below HB.out).cells
    go_wp2_with (go_at_call 16; refine ((HL7.out.below HB.out).kept hl1 hl2).mono ?_; rintro e we' ⟨rfl, hbk⟩)
    exact leaves_marks (B := wg.heap.size) rfl Dl _ (by have := hbk.size; omega) (HM.out.below hbk) (fun W' h => ⟨rfl, (HL7.out.bel.trans (HB.out.mono HL7.out.bel.size)).trans ((hbk.mono (by omega)).trans (h.mono (by omega)))⟩)
end Go.Proofs.Ytdalnofiiomgoaa
