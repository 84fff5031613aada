import Derived.Test.YtchcmonhdgndcaaFamP
import Derived.Maps.Own
import Derived.Maps.OwnOps
import Derived.Maps.Views
namespace Go.Proofs.Ytchcmonhdgndcaa
open Go.ChangeShapes Go.WideShapes Go.ChangeAt Go.RowKit
open Go.Maps (Keyed int_keyed keyOf_int_mk)
attribute [local go_sem] Oper.semAt_some
set_option linter.unusedVariables false

theorem wkl_lt (ns : List Nd) (skp : Nat → Bool) (e : Nat) : ∀ (d k : Nat), e - k ≤ d → ∀ y ∈ wkl ns skp e k, ∃ m : Nat, y = m ∧ m < e := by
  intro d
  induction d with
  | zero => intro k hd y hy; rw [wkl_end (by omega)] at hy; cases hy
  | succ d ih =>
    intro k hd y hy
    by_cases hk : k < e
    · cases hs : skp k with
      | false =>
        rw [wkl_one hk hs] at hy
        rcases List.mem_cons.1 hy with rfl | hy
        · exact ⟨k, rfl, hk⟩
        · exact ih (k + 1) (by omega) y hy
      | true =>
        cases hx : ns[k]? with
        | none => rw [wkl, dif_pos hk, hs, hx] at hy; simp at hy; exact ⟨k, hy, hk⟩
        | some x =>
          by_cases h1 : 1 ≤ x.s ∧ x.s ≤ (e : Int) - k
          · rw [wkl_skip hk hs hx h1.1 h1.2] at hy
            rcases List.mem_cons.1 hy with rfl | hy
            · exact ⟨k, rfl, hk⟩
            · exact ih (k + x.s.toNat) (by omega) y hy
          · rw [wkl_bad hk hs hx h1] at hy; simp at hy; exact ⟨k, hy, hk⟩
    · rw [wkl_end hk] at hy; cases hy
/-- a map that counts -/
def Cnt (V : World) (b : Nat) (l : List Int) : Prop := ∃ D : DataW Unit, V.ownsMap Try.prog 3 (plainElem Try.prog 3) b l.length D ∧ (∃ es, D = .map es) ∧ ∀ x : Nat, D.atKey (.int .i64 (x : Int)) (.lit (.int .i64 0)) = .lit (.int .i64 ((l.count (x : Int) : Nat) : Int))
theorem zeroI (w : World) : (zeroValue 3).run Try.prog w = .ok (.int .i64 0) w := by kernel_rfl
theorem wfN {x : Nat} (h : x ≤ 9223372036854775807) : (Lit.int .i64 (x : Int)).wf = true := by simp [Lit.wf, IntKind.min, IntKind.max, IntKind.bits, IntKind.signed]; omega
theorem Cnt.made (v : World) : Cnt (v.alloc (.map #[] 0)) v.heap.size [] := ⟨_, World.ownsMap_made _ _ _ _, ⟨_, rfl⟩, fun x => rfl⟩
theorem Cnt.block {V V' : World} {b : Nat} {l : List Int} (h : Cnt V b l) (hb : V'.heap[b]? = V.heap[b]?) : Cnt V' b l := by
  obtain ⟨D, ⟨es, cl, h1, h2⟩, h3⟩ := h
  exact ⟨D, ⟨es, cl, hb.trans h1, h2⟩, h3⟩
theorem Cnt.look {V : World} {b : Nat} {l : List Int} (h : Cnt V b l) {x : Nat} (hx : x ≤ 9223372036854775807) : (Instr.lookup 48 (.map (some b)) (.int .i64 (x : Int)) false).run Try.prog V = .ok (.int .i64 ((l.count (x : Int) : Nat) : Int)) V := by
  obtain ⟨D, h1, h2, h3⟩ := h
  obtain ⟨c, hr, hat, hw⟩ := h1.lookup_int (int_keyed Try.underlying3) Try.underlying48 Try.underlying3 (zeroI V) (keyOf_int_mk Try.underlying3 (wfN hx))
  rw [h3 x] at hat
  cases hat
  exact hr
theorem Cnt.bump {V : World} {b : Nat} {l : List Int} (h : Cnt V b l) {x : Nat} (hx : x ≤ 9223372036854775807) (hl : l.length < 9223372036854775807) (hm : l.length < maxLen) : ∃ V', (Instr.mapUpdate 48 (.map (some b)) (.int .i64 (x : Int)) (.int .i64 (((l.count (x : Int) : Nat) : Int) + 1))).run Try.prog V = .ok () V' ∧ Cnt V' b (l ++ [(x : Int)]) ∧ V.grownBy V' (some b) := by
  obtain ⟨D, h1, h2, h3⟩ := h
  have hc : l.count (x : Int) ≤ l.length := List.count_le_length
  have hw : (Lit.int .i64 (((l.count (x : Int) : Nat) : Int) + 1)).wf = true := by have := wfN (x := l.count (x : Int) + 1) (by omega); simpa using this
  obtain ⟨V', hr, ho, hg⟩ := h1.update (int_keyed Try.underlying3) Try.underlying48 hm (keyOf_int_mk Try.underlying3 (wfN hx)) (plainElem_int Try.underlying3 hw)
  refine ⟨V', hr, ⟨_, by simpa using ho, Maps.IsMap.put h2 _ _, fun y => ?_⟩, hg⟩
  by_cases e : y = x
  · subst e
    rw [Maps.atKey_put_same h2 (by trivial)]
    simp
  · rw [Maps.atKey_put_other (by intro h; simp at h; omega), h3 y, List.count_append]
    have : List.count (y : Int) [(x : Int)] = 0 := List.count_eq_zero.2 (by simp; omega)
    rw [this]; rfl

/-- a function whose result lies in a variable is left through its marks -/
theorem leaves_marks_cell {F : Fence} {n : Nat} {P : Program} {fn : Func} {tmps : Array Value} {R : Ending → World → Prop} {t ty b B : Nat} {val : Value} (hres : fn.results = #[.cell t ty]) (ht : tmps.getD t undef = .pointer (some ⟨b, 0, none⟩)) (hb : b < B)
    (hres2 : ∀ W : World, W.cell? ⟨b, 0, none⟩ = some val → (results fn tmps).run P W = .ok val W) :
    ∀ (Dl : List Nat) (W : World), B ≤ W.heap.size → Boxed W b ty val → Mk B W Dl → (∀ W', Below B W W' → R (.returned val) W') → LeavesInM F n P fn tmps R (mks Dl) .returning W := by
  intro Dl
  induction Dl with
  | nil =>
    intro W hB hx h hR
    exact ⟨val, hres2 W hx.cell, hR W (Below.refl _ _)⟩
  | cons D Dl ih =>
    intro W hB hx h hR
    have hD := h.at_ D List.mem_cons_self
    refine ⟨by simp, .inl ⟨_, _, rfl, run_takeDeferred hD.2, ?_⟩⟩
    have hb' : Below B W (W.putObj D (.deferred none)) := (Below.refl B W).grown (grownBy_putObj' W D _) hB (fun k e => by cases e; exact hD.1)
    refine ih _ (by simpa using hB) (hx.kept (grownBy_putObj' W D _) (by simp; omega)) ⟨(List.nodup_cons.1 h.nodup).2, fun E hE => ⟨(h.at_ E (List.mem_cons_of_mem _ hE)).1, (World.putObj_heap_other (k := E) (r := D) (fun e => (List.nodup_cons.1 h.nodup).1 (by rw [← e]; exact hE))).trans (h.at_ E (List.mem_cons_of_mem _ hE)).2⟩⟩ (fun W' h' => hR W' (hb'.trans h'))
theorem But.of_grown {B n0 : Nat} {V V' : World} (hg : V.grownBy V' (some B)) (hn : n0 ≤ V.heap.size) : But B n0 V V' :=
  ⟨(Below.refl 0 V).grown hg (Nat.zero_le _) (fun k e => Nat.zero_le _), fun k hk hne => hg.block k (by omega) (fun e => hne (by cases e; rfl))⟩

set_option maxRecDepth 1000000 in
set_option maxHeartbeats 4000000 in
theorem fam_rest (s : ByteArray) (a1 : Option Addr) (c1 c2 : Nat) (ts : List Tk) (ns : List Nd) (u : Int) (w : World) (b2 o2 : Nat) (us : FUs) (Dl : List Nat) (B : Nat) (v : World) (hv : vlB ns (ts.length : Int) = true)
    (hl2 : ns.length * 32 ≤ 140737488351232) (bu0 : 0 ≤ u) (bu1 : u ≤ 18446744073709551615) (hL : Lies v b2 o2 ns) (hb2 : b2 < w.heap.size) (hbel : Below w.heap.size w v) (hres : Boxed v (w.heap.size + 1) 4 (.bool false))
    (hc5 : v.cell? ⟨w.heap.size + 2, 0, none⟩ = some (.slice (some ⟨b2, o2, none⟩) ns.length c2)) (hB1 : w.heap.size + 3 ≤ B) (hB2 : B ≤ v.heap.size) (hM : Mk B v Dl) :
    Code.wp Try.prog famRest (bodyPostM Fence.wide 9 Try.prog Try.f5 fun e w' => e = .returned (.bool true) ∧ Below w.heap.size w w') { tmps := famSt s a1 c1 c2 ts ns u w b2 o2 us, defers := mks Dl } v := by
  have HL : Hid (Lies v b2 o2 ns) := hL
  have HBEL : Hid (Below w.heap.size w v) := hbel
  have HRES : Hid (Boxed v (w.heap.size + 1) 4 (.bool false)) := hres
  have HC5 : Hid (v.cell? ⟨w.heap.size + 2, 0, none⟩ = some (.slice (some ⟨b2, o2, none⟩) ns.length c2)) := hc5
  have HM : Hid (Mk B v Dl) := hM
  have HVL : Hid (vlB ns (ts.length : Int) = true) := hv
  have hmm := @run_makeMap Try.prog
  clear hL hbel hres hc5 hM hv
  dsimp only [famRest, famSt, Try.f5]
  go_upto_region 35 with fail
  obtain ⟨V1, eV1⟩ : ∃ V1, v.alloc (.map #[] 0) = V1 := ⟨_, rfl⟩
  have bV1 : Below v.heap.size v V1 := by rw [← eV1]; exact (Below.refl _ v).alloc (Nat.le_refl _) _
  have sV1 : V1.heap.size = v.heap.size + 1 := by rw [← eV1]; simp
  have cV1 : Cnt V1 v.heap.size [] := by rw [← eV1]; exact Cnt.made v
  obtain ⟨V2, eV2, bV2, sV2, X2⟩ := bx1 V1 #[.map (some v.heap.size)] 48
  obtain ⟨V3, eV3, bV3, sV3, X3⟩ := bx1 V2.drew #[.int .u64 u] 43
  obtain ⟨V4, eV4, bV4, sV4, C1, C2, C3⟩ := bx3 V3 #[.slice (some ⟨b2, o2, none⟩) ns.length c2] #[.int .i64 0] #[.func (.func 38) #[] #[.pointer (some ⟨V2.heap.size, 0, none⟩)]] 25 3 49
  have hd2 : V2.drew.heap.size = V2.heap.size := rfl
  have hbu : u < 18446744073709551616 := by omega
  have b24 : Below V2.heap.size V2 V4 := ((Below.refl _ V2).drew.trans bV3).trans (bV4.mono (by omega))
  have b04 : Below v.heap.size v V4 := (bV1.trans (bV2.mono (by omega))).trans (b24.mono (by omega))
  have HB04 : Hid (Below v.heap.size v V4) := b04
  have HX2 : Hid (Bx V4 (v.heap.size + 1) #[.map (some v.heap.size)] 48) := by rw [← sV1]; exact X2.below b24 (by omega)
  have HCN : Hid (Cnt V4 v.heap.size []) := cV1.block ((b24.block _ (by omega)).trans (bV2.block _ (by omega)))
  have hbl : b2 < v.heap.size := HL.out.1
  have HE : Hid (V1.alloc (.cells #[.map (some v.heap.size)] 48) = V2) := eV2
  have HE3 : Hid (V2.drew.alloc (.cells #[.int .u64 u] 43) = V3) := eV3
  have HE4 : Hid (((V3.alloc (.cells #[.slice (some ⟨b2, o2, none⟩) ns.length c2] 25)).alloc (.cells #[.int .i64 0] 3)).alloc (.cells #[.func (.func 38) #[] #[.pointer (some ⟨V2.heap.size, 0, none⟩)]] 49) = V4) := eV4
  obtain ⟨x0, z0, l0, hx0, hz0, -, -, hwh0, -, -⟩ := node_of HVL.out (kc_all HVL.out).1
  have hz0' : z0 = ns.length := by
    obtain ⟨hs, -⟩ := vlB_parts HVL.out
    unfold shB at hs
    rw [Bool.and_eq_true, hx0] at hs
    have : x0.s = (ns.length : Int) := by simpa using hs.1
    omega
  have HWK : Hid (wk ns (chB u) 0 = wkl ns (chB u) ns.length 0) := by
    have h := wk_at (skp := chB u) (k := 0) hx0 hz0 hwh0
    rw [hz0', Nat.zero_add] at h
    exact h
  have HSQ : Hid (SeqB Fence.wide 8 Try.prog 36 #[.pointer (some ⟨V3.heap.size, 0, none⟩), .pointer (some ⟨V3.heap.size + 1, 0, none⟩), .pointer (some ⟨V3.heap.size + 2, 0, none⟩)] v.heap.size V4.heap.size (wk ns (chB u) 0) V4) := by
    refine seqB_of_seqS (walk1a_seq v.heap.size Fence.wide rfl 8 (by omega) V3.heap.size (V3.heap.size + 1) (V3.heap.size + 2) (some ⟨b2, o2, none⟩) c2 ns 0 V4 (by omega) (by omega) (by omega) (by omega) (by omega) (by omega) C1.one C2.one 38 #[.pointer (some ⟨V2.heap.size, 0, none⟩)] (chB u) (enters_of Try.func38 (by kernel_rfl) rfl) C3.one (fun _ b o h => by cases h; omega) (.inr ⟨b2, o2, rfl, HL.out.below HB04.out hbl⟩) hl2 (by decide) (by decide)) (fun x W hm hW => ?_)
    rw [HWK.out] at hm
    obtain ⟨m, e1, e2⟩ := wkl_lt ns (chB u) ns.length _ 0 (Nat.le_refl _) _ hm
    exact chosen1_any u x V2.heap.size W ((hW.cell (p := ⟨V2.heap.size, 0, none⟩) (by show V2.heap.size < V4.heap.size; omega) (by show V2.heap.size ≠ v.heap.size; omega)).trans (X3.below bV4 (by omega)).one) (by omega) bu0 hbu
  have HY : Hid (∀ W, Below V2.heap.size V2 W → W.cell? ⟨w.heap.size + 2, 0, none⟩ = some (.slice (some ⟨b2, o2, none⟩) ns.length c2)) := fun W hW => (((bV1.trans (bV2.mono (by omega))).trans (hW.mono (by omega))).cell (p := ⟨w.heap.size + 2, 0, none⟩) (by show w.heap.size + 2 < v.heap.size; omega)).trans HC5.out
  have y2 := HY.out V2 (Below.refl _ _)
  have HY3 : Hid (V3.cell? ⟨w.heap.size + 2, 0, none⟩ = some (.slice (some ⟨b2, o2, none⟩) ns.length c2)) := HY.out V3 ((Below.refl _ V2).drew.trans bV3)
  have HY4 : Hid (V4.cell? ⟨w.heap.size + 2, 0, none⟩ = some (.slice (some ⟨b2, o2, none⟩) ns.length c2)) := HY.out V4 b24
  have HS4 : Hid (V4.heap.size = v.heap.size + 6) := by unfold Hid; omega
  rw [eV1, HE.out]
  clear eV1 bV1 cV1 eV2 bV2 X2 eV3 bV3 X3 eV4 bV4 C1 C2 C3 b24 b04 hx0 hz0 hwh0 hz0' hd2 sV1 sV2 sV3 sV4 HY
  go_region_held3 (fun W => W.cell? ⟨w.heap.size + 2, 0, none⟩ = some (.slice (some ⟨b2, o2, none⟩) ns.length c2))
    (first | go_keep | assumption)
    ((first
      | (go_at_call 17; refine (chosen_any u _).mono ?_; rintro e we ⟨rfl, hwe⟩; rw [HE3.out] at hwe; subst hwe; have y5 := HY3.out)
      | (go_at_call 16; refine (walk_any _ _ _ ⟨_, _, _, rfl⟩ (.inr ⟨_, _, _, rfl⟩) _).mono ?_; rintro e wf ⟨rfl, aa, ll, cc, hvv, hwd⟩; cases hvv; rw [HE4.out] at hwd; subst hwd; have y3 := HY4.out)))
  have hef := eql_fun
  go_wp2
  clear hef y2 y3 hmm
  have HXL : Hid ((wk ns (chB u) 0).length ≤ ns.length) := wk_len _ _ _
  have g4 := HS4.out
  refine range_but (B := v.heap.size) (gf := 36) (lb := #[.pointer (some ⟨we.heap.size, 0, none⟩), .pointer (some ⟨we.heap.size + 1, 0, none⟩), .pointer (some ⟨we.heap.size + 2, 0, none⟩)]) rfl (enters_of Try.func36 (by kernel_rfl) rfl) HSQ.out (But.refl _ _ _) (Nat.le_refl _) rfl
    (fun pre V => But v.heap.size wf.heap.size wf V ∧ Cnt V v.heap.size pre) ?own1 ⟨But.refl _ _ _, HCN.out⟩ ?a1 ?assign ?body ?done
  case own1 =>
    rintro s X Y row ⟨hb, hcn⟩ hg hr
    exact ⟨But.own (Nat.le_refl _) (Nat.le_refl _) s X Y row hb hg hr, hcn.block (hg.block _ (by have := hb.size; omega) (fun e => by have := (hr _ e.symm).1; omega))⟩
  case assign =>
    intro l x V K hK
    gi_wp2
    exact hK
  case body =>
    rintro l2 pre y post V hy ⟨hBt, hcn⟩
    have hym : y ∈ wkl ns (chB u) ns.length 0 := by rw [← HWK.out, hy]; simp
    obtain ⟨m, rfl, hm⟩ := wkl_lt ns (chB u) ns.length _ 0 (Nat.le_refl _) _ hym
    have hpl : pre.length < ns.length := by have h := HXL.out; rw [hy] at h; simp at h; omega
    have hcl : pre.count (m : Int) ≤ pre.length := List.count_le_length
    have hcx : V.cell? ⟨v.heap.size + 1, 0, none⟩ = some (.map (some v.heap.size)) := (hBt.cell (p := ⟨v.heap.size + 1, 0, none⟩) (by show v.heap.size + 1 < wf.heap.size; omega) (by show v.heap.size + 1 ≠ v.heap.size; omega)).trans HX2.out.one
    have hlook := hcn.look (x := m) (by omega)
    obtain ⟨V', hup, hcn', hg⟩ := hcn.bump (x := m) (by omega) (by omega) (by unfold maxLen; omega)
    have HCN' : Hid (Cnt V' v.heap.size (pre ++ [(m : Int)])) := hcn'
    have HG : Hid (V.grownBy V' (some v.heap.size)) := hg
    have HVS : Hid (v.heap.size < wf.heap.size ∧ wf.heap.size ≤ V.heap.size) := ⟨by omega, hBt.size⟩
    clear hy hym hcn hcn' hg g4
    gi_wp2
    exact ⟨Apart.of_grownBy HG.out (fun j e => by cases e; exact HVS.out.1), But.of_grown HG.out HVS.out.2, hBt.trans (But.of_grown HG.out HVS.out.2), HCN'.out⟩
  case done =>
    rintro D V hD ⟨hBt, hcn⟩ hK
    rw [HWK.out] at hcn
    have HCV : Hid (Cnt V v.heap.size (wkl ns (chB u) ns.length 0)) := hcn
    have hVs := hBt.size
    have HBt : Hid (But v.heap.size wf.heap.size wf V) := hBt
    have HLV : Hid (Lies V b2 o2 ns) := hBt.lies (HL.out.below HB04.out hbl) (by omega) (by omega)
    have HcV : Hid (V.cell? ⟨w.heap.size + 2, 0, none⟩ = some (.slice (some ⟨b2, o2, none⟩) ns.length c2)) := (hBt.cell (p := ⟨w.heap.size + 2, 0, none⟩) (by show w.heap.size + 2 < wf.heap.size; omega) (by show w.heap.size + 2 ≠ v.heap.size; omega)).trans HY4.out
    have HmV : Hid (V.cell? ⟨v.heap.size + 1, 0, none⟩ = some (.map (some v.heap.size))) := (hBt.cell (p := ⟨v.heap.size + 1, 0, none⟩) (by show v.heap.size + 1 < wf.heap.size; omega) (by show v.heap.size + 1 ≠ v.heap.size; omega)).trans HX2.out.one
    have HRV : Hid (Boxed V (w.heap.size + 1) 4 (.bool false)) := (hBt.block _ (by omega) (by omega)).trans ((HB04.out.block _ (by omega)).trans HRES.out)
    have HWV : Hid (Below w.heap.size w V) := (HBEL.out.trans (HB04.out.mono (by omega))).trans (hBt.below (by omega) (by omega))
    have HMV : Hid (Mk B V (D :: Dl)) := by
      refine Mk.cons (W0 := wf) ⟨HM.out.nodup, fun E hE => ⟨(HM.out.at_ E hE).1, ?_⟩⟩ (by omega) (fun E hE => by have := HM.out.lt hE; omega) hD hK
      have h1 := HM.out.lt hE
      exact (hBt.block E (by omega) (by omega)).trans ((HB04.out.block E h1).trans (HM.out.at_ E hE).2)
    have cV := HcV.out
    clear hcn hBt hK
    go_wp2
    clear cV
    go_loopw [14, 126] (fun hv iv wr => ∃ (n h : Nat), n ≤ ns.length ∧ hv = .int .i64 (h : Int) ∧ iv = .int .i64 (n : Int) ∧ Below V.heap.size V wr ∧ Hd ns (chB u) n h) (fun _ iv _ => ns.length - (intOf iv).toNat)
    case atStart => exact ⟨0, 0, by omega, rfl, rfl, Below.refl _ _, Hd.start _ _⟩
    case round =>
      obtain ⟨n, h, hn, rfl, rfl, hbr, hH⟩ := hrel
      have HBR : Hid (Below V.heap.size V wr) := hbr
      have HHD : Hid (Hd ns (chB u) n h) := hH
      have hrs := hbr.size
      have HLK : Hid (∀ W, Below V.heap.size V W → ∀ x : Nat, x < ns.length → (Instr.lookup 48 (.map (some v.heap.size)) (.int .i64 (x : Int)) false).run Try.prog W = .ok (.int .i64 (((wkl ns (chB u) ns.length 0).count (x : Int) : Nat) : Int)) W) := fun W hW x hx => (HCV.out.block (hW.block _ (by omega))).look (by omega)
      have HKM : Hid (∀ W, Below V.heap.size V W → W.cell? ⟨v.heap.size + 1, 0, none⟩ = some (.map (some v.heap.size)) ∧ W.cell? ⟨w.heap.size + 2, 0, none⟩ = some (.slice (some ⟨b2, o2, none⟩) ns.length c2)) := fun W hW => ⟨(hW.cell (p := ⟨v.heap.size + 1, 0, none⟩) (by show v.heap.size + 1 < V.heap.size; omega)).trans HmV.out, (hW.cell (p := ⟨w.heap.size + 2, 0, none⟩) (by show w.heap.size + 2 < V.heap.size; omega)).trans HcV.out⟩
      have hhl : h ≤ ns.length := hH.1
      clear hbr hH
      by_cases hnn : n < ns.length
      · have hn1 : (n : Int) < (ns.length : Int) := by omega
        by_cases hnh : n < h
        · have hnh1 : (n : Int) < (h : Int) := by omega
          obtain ⟨hc0, hH'⟩ := HHD.out.hid hnh
          have hlk := HLK.out wr HBR.out n hnn
          rw [hc0] at hlk
          obtain ⟨k1, k2⟩ := HKM.out wr HBR.out
          have HH' : Hid (Hd ns (chB u) (n + 1) h) := hH'
          clear hc0 hH'
          go_wp2
          go_roundw
          case rel => exact ⟨n + 1, h, by omega, rfl, by simp, HBR.out, HH'.out⟩
          case measure => simp [intOf]; omega
        · have hnh1 : ¬ (n : Int) < (h : Int) := by omega
          obtain ⟨wc, ec, bc, sc, Xc⟩ := bx1 wr #[.int .u64 u] 43
          have HEC : Hid (wr.alloc (.cells #[.int .u64 u] 43) = wc) := ec
          have HXC : Hid (Bx wc wr.heap.size #[.int .u64 u] 43) := Xc
          have HBC : Hid (Below V.heap.size V wc) := HBR.out.trans (bc.mono hrs)
          obtain ⟨x, z, l, hx, hz, hz1, hz2, -, -, -⟩ := node_of HVL.out hnn
          have HX : Hid (ns[n]? = some x) := hx
          have HZ : Hid (x.s = (z : Int)) := hz
          have m4 := ((HLV.out.below HBC.out HLV.out.1).nd (Below.refl _ _) hx).2.2.2
          rw [hz] at m4
          have hlk := HLK.out wc HBC.out n hnn
          obtain ⟨k1, k2⟩ := HKM.out wc HBC.out
          clear ec bc Xc hx hz
          cases hch : chB u n with
          | false =>
            obtain ⟨hc1, hH'⟩ := HHD.out.one (by omega) hnn hch
            rw [hc1] at hlk
            have HH' : Hid (Hd ns (chB u) (n + 1) h) := hH'
            have HCH : Hid (chB u n = false) := hch
            clear hc1 hH' hch
            go_wp2_with (first
              | (go_at_call 17; refine (chosen_any u _).mono ?_; rintro e wq ⟨rfl, hwq⟩; rw [HEC.out] at hwq; subst hwq)
              | (go_at_call 38; refine (chosen1_any u n wr.heap.size _ HXC.out.one (by omega) bu0 hbu).mono ?_; rintro e wq2 ⟨rfl, hwq⟩; subst hwq; rw [HCH.out]))
            go_roundw
            case rel => exact ⟨n + 1, h, by omega, rfl, by simp, HBC.out, HH'.out⟩
            case measure => simp [intOf]; omega
          | true =>
            obtain ⟨hc1, hH'⟩ := HHD.out.skip (by omega) HX.out HZ.out hz1 hz2 hch
            rw [hc1] at hlk
            have HH' : Hid (Hd ns (chB u) (n + 1) (n + z)) := hH'
            have HCH : Hid (chB u n = true) := hch
            clear hc1 hH' hch
            go_wp2_with (first
              | (go_at_call 17; refine (chosen_any u _).mono ?_; rintro e wq ⟨rfl, hwq⟩; rw [HEC.out] at hwq; subst hwq)
              | (go_at_call 38; refine (chosen1_any u n wr.heap.size _ HXC.out.one (by omega) bu0 hbu).mono ?_; rintro e wq2 ⟨rfl, hwq⟩; subst hwq; rw [HCH.out]))
            go_roundw
            case rel => exact ⟨n + 1, n + z, by omega, by simp, by simp, HBC.out, HH'.out⟩
            case measure => simp [intOf]; omega
      · have hne : n = ns.length := by omega
        have hn1 : ¬ (n : Int) < (ns.length : Int) := by omega
        obtain ⟨k1, k2⟩ := HKM.out wr HBR.out
        have hR : Boxed wr (w.heap.size + 1) 4 (.bool false) := (HBR.out.block _ (by omega)).trans HRV.out
        have hcr := hR.cell
        have hfr := hR.frozen
        have hKS := (kc_all HVL.out).2
        have hq : (((sm (kc ns) 0 ns.length : Nat) : Int) == (ns.length : Int) - 1) = true := by simp; omega
        have HKS : Hid (sm (kc ns) 0 ns.length + 1 = ns.length) := hKS
        clear hKS
        go_wp2
        refine leaves_marks_cell (b := w.heap.size + 1) (B := B) rfl rfl (by omega) (fun W hW => ?_) (D :: Dl) _ ?_ (hR.set (.bool true)) ?_ (fun W' h' => ?_)
        · simp [results, go_sem, hW]
        · simp; omega
        · exact ((HMV.out.below HBR.out).apart (Apart.of_grownBy (grownBy_setCell' wr _ _) (fun j e => by cases e; omega)))
        · exact ⟨rfl, ((HWV.out.trans (HBR.out.mono (by omega))).setCell (p := ⟨w.heap.size + 1, 0, none⟩) (by show _ ≤ w.heap.size + 1; omega) _).trans (h'.mono (by omega))⟩
end Go.Proofs.Ytchcmonhdgndcaa
