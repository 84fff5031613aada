import Derived.Test.YtnaipmgdipflgaaGreatDoorCt0
import Derived.Test.YtnaipmgdipflgaaGreatDoorRows
import Derived.Lib.LaidU8
import Derived.Lib.SmallJoins
import Derived.JoinedCond
import Derived.Test.YtnaipmgdipflgaaGreatDoorShowsW
import Derived.Test.YtnaipmgdipflgaaGreatDoorRds
import Derived.Test.YtnaipmgdipflgaaGreatDoorCards
import Derived.Test.YtnaipmgdipflgaaGreatDoorTie
import Derived.Deep.DeepHandedRow
import Derived.Deep.DeepWitnessRowRef
import Derived.Deep.CondSized
import Derived.Lib.LaidTab
import Derived.Lib.LaidRTab
import Derived.PinnedBridge
import Derived.Shelf.Unicode.PredsPay
import Derived.LaidSub
import Derived.Lib.AppendIntMem
import Derived.Lay
namespace Go.Proofs.YtnaipmgdipflgaaGreatDoor
open Go.ChangeShapes Go.WideShapes Go.ChangeAt Go.RowKit Go.Deep
set_option linter.unusedVariables false
set_option linter.unusedSimpArgs false

set_option maxRecDepth 100000

theorem laidOutC : laidOutB Tryz.prog = true := by kernel_rfl
theorem bnd_u8 {n : Int} (h : (Lit.int .u8 n).wf = true) : 0 ≤ n ∧ n ≤ 255 := by
  have h1 : IntKind.u8.min = 0 := rfl
  have h2 : IntKind.u8.max = 255 := rfl
  simp [Lit.wf] at h
  omega
theorem bnd_i64 {n : Int} (h : (Lit.int .i64 n).wf = true) : -9223372036854775808 ≤ n ∧ n ≤ 9223372036854775807 := by
  have h1 : IntKind.i64.min = -9223372036854775808 := rfl
  have h2 : IntKind.i64.max = 9223372036854775807 := rfl
  simp [Lit.wf] at h
  omega
theorem open_val {H : Type} {enc : TypeId × Value → H} {w : World} {r : Reach} {b0 : Nat} {v : Value} {d : DataW H} {p : List MemPlace} (hv : Value.okWide Tryz.prog w r b0 25 v) (h : DataW.Trod enc Tryz.prog w 0 (fun _ => true) true 25 v d p) :
    ∃ x : Vl, v = x.v ∧ d = .agg [.lit (.int .u8 x.k), .lit (.bool x.b), .lit (.int .i64 x.i), .lit (.string x.s.data.toList)] ∧ 0 ≤ x.k ∧ x.k ≤ 255 ∧ -9223372036854775808 ≤ x.i ∧ x.i ≤ 9223372036854775807 := by
  obtain ⟨v0, v1, v2, v3, y0, y1, y2, y3, n, rfl, rfl, _, g0, g1, g2, g3⟩ := Joins.open_agg4 Tryz.underlying25 (by kernel_rfl) (by kernel_rfl) hv h
  obtain ⟨k, e0, rfl, w0⟩ := DataW.trod_int Tryz.underlying23 g0
  obtain ⟨b, e1, rfl⟩ := DataW.trod_bool Tryz.underlying4 g1
  obtain ⟨i, e2, rfl, w2⟩ := DataW.trod_int Tryz.underlying2 g2
  obtain ⟨s, e3, rfl, w3⟩ := DataW.trod_string Tryz.underlying9 g3
  simp at e0 e1 e2 e3
  subst e0 e1 e2 e3
  exact ⟨⟨k, b, i, s⟩, rfl, rfl, (bnd_u8 w0).1, (bnd_u8 w0).2, (bnd_i64 w2).1, (bnd_i64 w2).2⟩
theorem bulk_val {H : Type} (x : Vl) : x.s.size ≤ Rows.uptoBulk (H := H) (.agg [.lit (.int .u8 x.k), .lit (.bool x.b), .lit (.int .i64 x.i), .lit (.string x.s.data.toList)]) := by
  have e2 : x.s.data.toList.length = x.s.size := by rw [Array.length_toList]; rfl
  simp only [Rows.uptoBulk, Rows.uptoBulkAll]
  omega
/-- a variable that holds an interface's value -/
theorem iface_of_reads {P : Program} {w : World} {name : String} {g : Nat} {t : TypeId} {ms : Array (String × TypeId)} {n : String} {d : DataW Unit} (hn : P.globalNamed name = some g) (hy : (P.globals[g]?).map (·.type) = some t)
    (ht : P.underlying t = some (.interface ms)) (h : Lib.VarReads P w name (.iface n d)) : ∃ tp p, w.cell? ⟨g, 0, none⟩ = some (.iface tp p) := by
  obtain ⟨g', t', cs, fuel, p, hg, hty, hvar, hd⟩ := h
  obtain rfl := Option.some.inj (hn.symm.trans hg)
  obtain rfl := Option.some.inj (hy.symm.trans hty)
  have h1 := World.var?_cell hg hvar 0
  obtain ⟨l, hl⟩ : ∃ l, cs.toList = l := ⟨_, rfl⟩
  rw [hl] at hd
  cases fuel with
  | zero => simp [DataW.trod] at hd
  | succ fuel =>
    match l, hl, hd with
    | [], hl, hd => simp [DataW.trod, ht] at hd
    | [v], hl, hd =>
      have e : cs[0]? = some v := by rw [← Array.getElem?_toList, hl]; rfl
      cases v with
      | iface u x => exact ⟨u, x, h1.trans e⟩
      | _ => simp [DataW.trod, ht] at hd
    | a :: b :: r, hl, hd => simp [DataW.trod, ht] at hd
end Go.Proofs.YtnaipmgdipflgaaGreatDoor

namespace Go.Proofs.YtnaipmgdipflgaaGreatDoor
open Go.ChangeShapes Go.WideShapes Go.ChangeAt Go.RowKit Go.Deep Go.Lib
open Go.ChangeMaps (open_string shut_string)
set_option linter.unusedVariables false
set_option linter.unusedSimpArgs false

theorem own : ownKnob Tryz.prog.godebug = none := by kernel_rfl
theorem small_of {H : Type} {ds : List (DataW H)} (hk : Rows.uptoSmall H ds = true) : Rows.uptoBulkAll ds ≤ 1048576 := of_decide_eq_true hk
theorem bounds_u8 {n : Int} (h : (Lit.int .u8 n).wf = true) : 0 ≤ n ∧ n ≤ 255 := by
  have h1 : IntKind.u8.min = 0 := rfl
  have h2 : IntKind.u8.max = 255 := rfl
  simp [Lit.wf] at h
  omega
theorem bulk_string {H : Type} (s : ByteArray) : s.size ≤ Rows.uptoBulk (H := H) (.lit (.string s.data.toList)) := by
  have e2 : s.data.toList.length = s.size := by rw [Array.length_toList]; rfl
  rw [Rows.uptoBulk, e2]; omega
theorem gSpl : Tryz.prog.globalNamed "moniker/lexer.spellings" = some 3 := by kernel_rfl
theorem gSplType : (Tryz.prog.globals[3]?).map (·.type) = some 162 := by kernel_rfl
theorem gPrp : Tryz.prog.globalNamed "unicode.properties" = some 4 := by kernel_rfl
theorem gPrpType : (Tryz.prog.globals[4]?).map (·.type) = some 158 := by kernel_rfl
theorem cellsPrp : Tryz.prog.cellsOf 158 = Lib.propertiesTab.length := by kernel_rfl
theorem cellsU8 : Tryz.prog.cellsOf 5 = 1 := by kernel_rfl
theorem cellsStrL : Tryz.prog.cellsOf 9 = 1 := by kernel_rfl
set_option maxRecDepth 100000 in
theorem u8extra : U8Extra Tryz.prog Tryz.lays260_ren := ⟨by kernel_rfl, by kernel_rfl, by kernel_rfl, by kernel_rfl, by kernel_rfl, by kernel_rfl, by kernel_rfl⟩
set_option maxRecDepth 100000 in
theorem rextra : RExtra Tryz.prog Tryz.lays261_ren := ⟨by kernel_rfl, by kernel_rfl, by kernel_rfl, by kernel_rfl, by kernel_rfl, by kernel_rfl, by kernel_rfl, by kernel_rfl⟩
theorem one_met {W : World} {L : List (String × DataW Unit)} {n : String} {d : DataW Unit} (h : laidMetH Tryz.prog L W) (e : (L.filter fun x => x.1 == n) = [(n, d)]) (hp : laidMetH Tryz.prog [(n, d)] W → laidMet Tryz.prog [(n, d)] W) : Lib.VarReads Tryz.prog W n d := by
  have h1 := h.filter (fun x => x.1 == n)
  rw [e] at h1
  exact Lib.laidMet.reads (hp h1) (List.mem_cons_self ..)
set_option maxRecDepth 100000 in
theorem spl_met {W : World} (h : laidMetH Tryz.prog Rows.constShowsUptoRow.laid W) : Spl W := by
  have e : (Rows.constShowsUptoRow.laid.filter fun x => x.1 == "moniker/lexer.spellings") = [("moniker/lexer.spellings", .agg (spl.map fun x => .lit (.string x)))] := by kernel_rfl
  have k := strTab_of_reads gSpl gSplType Tryz.underlying162 Tryz.underlying9 cellsStrL (one_met h e fun h => h)
  exact ⟨World.block_lt_of_cell? _ _ (k 0 (by decide)), k⟩
set_option maxRecDepth 100000 in
theorem tabs_met {W : World} (h : laidMetH Tryz.prog Rows.constShowsUptoRow.laid W) : Lib.Utf8Tabs 1 2 W := by
  have e1 : (Rows.constShowsUptoRow.laid.filter fun x => x.1 == "unicode/utf8.first") = [("unicode/utf8.first", Lib.firstData)] := by kernel_rfl
  have e2 : (Rows.constShowsUptoRow.laid.filter fun x => x.1 == "unicode/utf8.acceptRanges") = [("unicode/utf8.acceptRanges", Lib.acceptData)] := by kernel_rfl
  exact utf8Tabs_of_reads Tryz.lays260 u8extra (one_met h e1 fun h => h) (one_met h e2 fun h => h)
theorem tab_lt {a b : Nat} {w : World} (h : Lib.Utf8Tabs a b w) : a < w.heap.size ∧ b < w.heap.size :=
  ⟨World.block_lt_of_cell? _ _ (h.1 0 (by decide)), World.block_lt_of_cell? _ _ (h.2 0 (by decide)).1⟩
set_option maxRecDepth 100000 in
theorem prp_met {W : World} (h : laidMetH Tryz.prog Rows.constShowsUptoRow.laid W) : Lib.TabIs Tryz.prog W "unicode.properties" .u8 Lib.propertiesTab := by
  have h2 := h.filter (fun x => x.1 == "unicode.properties")
  have e : (Rows.constShowsUptoRow.laid.filter fun x => x.1 == "unicode.properties") = [("unicode.properties", Lib.tabData .u8 Lib.propertiesTab)] := by kernel_rfl
  rw [e] at h2
  exact Lib.tabIs_of_head (rest := []) gPrp gPrpType Tryz.underlying158 Tryz.underlying5 cellsU8 cellsPrp h2
set_option maxRecDepth 100000 in
theorem let_met {W : World} (h : laidMetH Tryz.prog Rows.constShowsUptoRow.laid W) : Lib.RVar 5 Lib.letterT W ∧ Lib.RVar 6 Lib.digitT W := by
  have e1 : (Rows.constShowsUptoRow.laid.filter fun x => x.1 == "unicode.Letter") = [("unicode.Letter", Pinned.letter)] := by kernel_rfl
  have e2 : (Rows.constShowsUptoRow.laid.filter fun x => x.1 == "unicode.Digit") = [("unicode.Digit", Pinned.digit)] := by kernel_rfl
  exact ⟨rvar_of_reads Tryz.lays261 rextra (by kernel_rfl) (by kernel_rfl) (Pinned.letter_eq ▸ one_met h e1 fun h => by rw [MakeChecks.laidMetH_plain _ _ _ (by kernel_rfl)] at h; exact h), rvar_of_reads Tryz.lays261 rextra (by kernel_rfl) (by kernel_rfl) (Pinned.digit_eq ▸ one_met h e2 fun h => by rw [MakeChecks.laidMetH_plain _ _ _ (by kernel_rfl)] at h; exact h)⟩
theorem lt_met {W : World} (h : laidMetH Tryz.prog Rows.constShowsUptoRow.laid W) : Lt W :=
  ⟨⟨tab_lt (tabs_met h), tabs_met h⟩, fun v hv => ⟨Lib.tabBelow_of_tabIs (prp_met h) v hv, RVar_below (let_met h).1 hv, RVar_below (let_met h).2 hv⟩⟩
theorem gPowType : (Tryz.prog.globals[0]?).map (·.type) = some 155 := by kernel_rfl
theorem cellsPow : Tryz.prog.cellsOf 155 = Lib.pow10Tab.length := by kernel_rfl
theorem cellsU64 : Tryz.prog.cellsOf 90 = 1 := by kernel_rfl
theorem pow_met {W : World} (h : laidMetH Tryz.prog Rows.constShowsUptoRow.laid W) : Lib.TabIs Tryz.prog W "internal/strconv.uint64pow10" .u64 Lib.pow10Tab := by
  have h2 := h.filter (fun x => x.1 == "internal/strconv.uint64pow10")
  have e : (Rows.constShowsUptoRow.laid.filter fun x => x.1 == "internal/strconv.uint64pow10") = [("internal/strconv.uint64pow10", Lib.tabData .u64 Lib.pow10Tab)] := by kernel_rfl
  rw [e] at h2
  exact Lib.tabIs_of_head (rest := []) gPow10 gPowType Tryz.underlying155 Tryz.underlying90 cellsU64 cellsPow h2
theorem gSyn : Tryz.prog.globalNamed "strconv.ErrSyntax" = some 7 := by kernel_rfl
theorem gSynType : (Tryz.prog.globals[7]?).map (·.type) = some 83 := by kernel_rfl
theorem gRng : Tryz.prog.globalNamed "strconv.ErrRange" = some 8 := by kernel_rfl
theorem gRngType : (Tryz.prog.globals[8]?).map (·.type) = some 83 := by kernel_rfl
set_option maxRecDepth 100000 in
theorem evs_met {W : World} (h : laidMetH Tryz.prog Rows.constShowsUptoRow.laid W) : Evs W := by
  have e1 : (Rows.constShowsUptoRow.laid.filter fun x => x.1 == "strconv.ErrSyntax") = [("strconv.ErrSyntax", Rows.laid_strconv_ErrSyntax)] := by kernel_rfl
  have e2 : (Rows.constShowsUptoRow.laid.filter fun x => x.1 == "strconv.ErrRange") = [("strconv.ErrRange", Rows.laid_strconv_ErrRange)] := by kernel_rfl
  exact ⟨iface_of_reads gSyn gSynType Tryz.underlying83 (one_met h e1 fun h => h), iface_of_reads gRng gRngType Tryz.underlying83 (one_met h e2 fun h => h)⟩
theorem tbs_met {W : World} (h : laidMetH Tryz.prog Rows.constShowsUptoRow.laid W) : Tbs W := ⟨tab_lt (tabs_met h), tabs_met h, pow_met h⟩
noncomputable def constShows_world (os : Os) : World := World.laidAll Tryz.prog os Rows.constShowsUptoRow.laid
theorem constShows_laid (os : Os) : laidMet Tryz.prog Rows.constShowsUptoRow.laid ((constShows_world os).forCall (fun _ _ => 0) ⟨#[], #[.agg #[.int .u8 0, .bool false, .int .i64 0, .string .empty], .string .empty], []⟩).memory :=
  laidMet_laidAll _ (by kernel_rfl) (by kernel_rfl)
theorem constShows_reads (os : Os) {H : Type} (enc : TypeId × Value → H) : ∃ places, DataW.whole enc Tryz.prog ((constShows_world os).forCall (fun _ _ => 0) ⟨#[], #[.agg #[.int .u8 0, .bool false, .int .i64 0, .string .empty], .string .empty], []⟩).memory Tryz.f5.params.toList (Rows.OpenSpec.upto Rows.constShowsSpec).vars false (#[.agg #[.int .u8 0, .bool false, .int .i64 0, .string .empty], .string .empty] : Array Value).toList 8 = some ([.agg [.lit (.int .u8 0), .lit (.bool false), .lit (.int .i64 0), .lit (.string [])], .lit (.string [])], [], places) :=
  ⟨[], by kernel_rfl⟩

set_option maxRecDepth 100000 in
theorem constShows_lifted (os : Os) (started : os.Started) (H : Type) (enc : TypeId × Value → H) (F : Stop.Interp) :
    ReturnsInHanded {} Tryz.checked os 5 .any ((Rows.OpenSpec.upto Rows.constShowsSpec).preRow enc Tryz.prog Tryz.f5 Rows.constShowsUptoRow.domain false Rows.constShowsUptoRow.laid) (((Rows.OpenSpec.upto Rows.constShowsSpec).at F).post enc Tryz.prog Tryz.f5 false true false false) := by
  obtain ⟨places, hx⟩ := constShows_reads os enc
  refine returnsInHanded_of_row (C := Tryz.checked) (s := Rows.OpenSpec.upto Rows.constShowsSpec) own started (by kernel_rfl) Tryz.func5
    (witness_row_atRef (enc := enc) (C := Tryz.checked) false (constShows_world os) #[.agg #[.int .u8 0, .bool false, .int .i64 0, .string .empty], .string .empty] (World.laidAll_os _ _ _) (by kernel_rfl) (by kernel_rfl) (by kernel_rfl)
      (OpenSpec.preRow_of_cond 8 hx (by kernel_rfl) (fun k hk => by cases hk; kernel_rfl) (by kernel_rfl) (constShows_laid os))) ?_
  intro W base args ds gs before hval0 hW hcnd hk0 hsz0 hL hSh _
  have hk : Rows.uptoSmall H (ds ++ gs) = true := hk0 _ rfl
  have hval : ∀ (j : Nat) t v, Tryz.f5.params[j]? = some t → args[j]? = some v → Value.okWide Tryz.prog W .any base t v := hval0
  have hW' := hW
  obtain ⟨p, q, hA0, hV, rfl, hfz, hnd⟩ := hW
  have hA : DataW.TrodAll enc Tryz.prog W 0 (fun _ => true) true Tryz.f5.params.toList args.toList ds p := hA0
  rw [Tryz.params5] at hA hval
  obtain ⟨v0, vs0, d0, ds0, p0, q0, hargs, rfl, rfl, h0, r0⟩ := trodAll_cons hA
  obtain ⟨v1, vs1, d1, ds1, p1, q1, rfl, rfl, rfl, h1, r1⟩ := trodAll_cons r0
  obtain ⟨rfl, rfl, rfl⟩ := trodAll_nil r1
  obtain rfl : args = #[v0, v1] := by cases args; simp_all
  obtain ⟨rfl, rfl⟩ := trodVars_none hV
  have k0 := h0
  have lt0 : ∀ x ∈ p0, x.block < W.heap.size := by obtain ⟨m, hm⟩ := k0; exact DataW.trod_lt m _ _ _ hm
  obtain ⟨x0, rfl, rfl, _, _, ba0, bb0⟩ := open_val (hval 0 25 v0 rfl rfl) h0
  obtain ⟨s1, rfl, rfl, rfl, hm1⟩ := open_string Tryz.underlying9 (hval 1 9 v1 rfl rfl) h1
  have hB : x0.s.size + s1.size ≤ 1048576 := by
    have h := small_of hk
    simp only [List.append_nil, Rows.uptoBulkAll] at h
    have e0 := bulk_val (H := H) x0
    have e1 := bulk_string (H := H) s1
    omega
  clear hA0 hval0
  refine (constShows_walk x0 ⟨ba0, bb0⟩ s1 hB W (spl_met hL) (lt_met hL) (Tryz.laysM143.s1_3 W hSh) (tbs_met hL) (evs_met hL)).mono fun e W' ⟨he, bel⟩ => ?_
  subst he
  exact ⟨_, rfl, _, _, _, [], _, [], hW', trodAll_mk1 (shut_bool Tryz.underlying4 _), (trodAll_cons_mk (Below.trod laidOutC (by kernel_rfl) (of_decide_eq_true (by kernel_rfl)) k0 bel lt0) (trodAll_cons_mk (shut_string Tryz.underlying9 hm1) trodAll_mk0)), rfl, bel.frame _, fun h => by cases h⟩

theorem constShows_said : Rows.ConstShowsUptoSaid :=
  OpenClaim.holds_of_cond 5 Tryz.f5 rfl rfl rfl rfl rfl rfl rfl ⟨rfl, rfl, rfl, rfl, rfl⟩ rfl rfl rfl rfl rfl (by kernel_rfl) Tryz.func5 (by kernel_rfl)
    (of_decide_eq_true (by kernel_rfl)) (by unfold Func.isWrapper; first | (rw [if_pos (by decide +kernel)]; kernel_rfl) | (rw [if_neg (by decide +kernel)]; exact ⟨rfl, rfl⟩))
    (fun os started H enc _ F => by rw [OpenClaim.pre_eq_preRow]; exact constShows_lifted os started H enc F)

theorem constShows_holds : Rows.ConstShowsUptoCardSaid :=
  Claim7.holds_tied_plain_at .later [] _ _ _ _ constShows_said (fun _ h => by cases h) (by kernel_rfl) (fun _ h => by cases h) constShowsUpto_row_tie rfl ⟨rfl, rfl⟩ (by kernel_rfl) rfl
    (fun f fn hf hfn => by
      obtain rfl : f = 5 := Option.some.inj ((show Tryz.prog.funcNamed "moniker/monikerlaw8.ConstShows" = some 5 by kernel_rfl).symm.trans hf) |>.symm
      obtain rfl : fn = Tryz.f5 := (Option.some.inj (Tryz.func5.symm.trans hfn)).symm
      refine ⟨by kernel_rfl, fun j t ht => ?_⟩
      rw [Tryz.params5] at ht
      have hm := Array.mem_of_getElem? ht
      have key : (Tryz.f5.params.toList.all fun t => !Tryz.prog.wantsStandIn t) = true := by kernel_rfl
      rw [Tryz.params5] at key
      have := List.all_eq_true.1 key t (by simpa using hm)
      show Tryz.prog.wantsStandIn t = false
      simpa using this)
    (by kernel_rfl)
end Go.Proofs.YtnaipmgdipflgaaGreatDoor
