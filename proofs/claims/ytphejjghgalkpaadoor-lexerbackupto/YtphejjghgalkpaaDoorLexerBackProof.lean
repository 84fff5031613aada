import Derived.Test.YtphejjghgalkpaaDoorBackW
import Derived.Test.YtphejjghgalkpaaDoorOpE
import Derived.Test.YtphejjghgalkpaaDoorRds
import Derived.Test.YtphejjghgalkpaaDoorCards
import Derived.Test.YtphejjghgalkpaaDoorTie
import Derived.Deep.DeepHandedRow
import Derived.Deep.DeepWitnessRowRef
import Derived.Deep.CondSized
import Derived.Lib.SmallJoins
import Derived.Lib.LaidTab
import Derived.Lib.LaidU8
import Derived.Lib.LaidRTab
import Derived.PinnedBridge
import Derived.Shelf.Unicode.PredsPay
import Derived.LaidSub
import Derived.Lib.AppendIntMem
import Derived.Lay
namespace Go.Proofs.YtphejjghgalkpaaDoor
open Go.ChangeShapes Go.WideShapes Go.ChangeAt Go.RowKit Go.Deep Go.Lib
open Go.ChangeMaps (open_string shut_string)
set_option linter.unusedVariables false
set_option linter.unusedSimpArgs false

theorem own : ownKnob Tryd.prog.godebug = none := by kernel_rfl
theorem small_of {H : Type} {ds : List (DataW H)} (hk : Rows.uptoSmall H ds = true) : Rows.uptoBulkAll ds ≤ 1048576 := of_decide_eq_true hk
theorem bulk_string {H : Type} (s : ByteArray) : s.size ≤ Rows.uptoBulk (H := H) (.lit (.string s.data.toList)) := by
  have e2 : s.data.toList.length = s.size := by rw [Array.length_toList]; rfl
  rw [Rows.uptoBulk, e2]; omega
theorem gSpl : Tryd.prog.globalNamed "moniker/lexer.spellings" = some 0 := by kernel_rfl
theorem gSplType : (Tryd.prog.globals[0]?).map (·.type) = some 88 := by kernel_rfl
theorem gPrp : Tryd.prog.globalNamed "unicode.properties" = some 4 := by kernel_rfl
theorem gPrpType : (Tryd.prog.globals[4]?).map (·.type) = some 115 := by kernel_rfl
theorem cellsPrp : Tryd.prog.cellsOf 115 = Lib.propertiesTab.length := by kernel_rfl
theorem cellsU8 : Tryd.prog.cellsOf 5 = 1 := by kernel_rfl
theorem cellsStrL : Tryd.prog.cellsOf 9 = 1 := by kernel_rfl
set_option maxRecDepth 100000 in
theorem u8extra : U8Extra Tryd.prog Tryd.lays260_ren := ⟨by kernel_rfl, by kernel_rfl, by kernel_rfl, by kernel_rfl, by kernel_rfl, by kernel_rfl, by kernel_rfl⟩
set_option maxRecDepth 100000 in
theorem rextra : RExtra Tryd.prog Tryd.lays261_ren := ⟨by kernel_rfl, by kernel_rfl, by kernel_rfl, by kernel_rfl, by kernel_rfl, by kernel_rfl, by kernel_rfl, by kernel_rfl⟩
theorem one_met {W : World} {L : List (String × DataW Unit)} {n : String} {d : DataW Unit} (h : laidMetH Tryd.prog L W) (e : (L.filter fun x => x.1 == n) = [(n, d)]) (hp : laidMetH Tryd.prog [(n, d)] W → laidMet Tryd.prog [(n, d)] W) : Lib.VarReads Tryd.prog W n d := by
  have h1 := h.filter (fun x => x.1 == n)
  rw [e] at h1
  exact Lib.laidMet.reads (hp h1) (List.mem_cons_self ..)
set_option maxRecDepth 100000 in
theorem spl_met {W : World} (h : laidMetH Tryd.prog Rows.lexerBackUptoRow.laid W) : Spl W := by
  have e : (Rows.lexerBackUptoRow.laid.filter fun x => x.1 == "moniker/lexer.spellings") = [("moniker/lexer.spellings", .agg (spl.map fun x => .lit (.string x)))] := by kernel_rfl
  have k := strTab_of_reads gSpl gSplType Tryd.underlying88 Tryd.underlying9 cellsStrL (one_met h e fun h => h)
  exact ⟨World.block_lt_of_cell? _ _ (k 0 (by decide)), k⟩
set_option maxRecDepth 100000 in
theorem tabs_met {W : World} (h : laidMetH Tryd.prog Rows.lexerBackUptoRow.laid W) : Lib.Utf8Tabs 2 3 W := by
  have e1 : (Rows.lexerBackUptoRow.laid.filter fun x => x.1 == "unicode/utf8.first") = [("unicode/utf8.first", Lib.firstData)] := by kernel_rfl
  have e2 : (Rows.lexerBackUptoRow.laid.filter fun x => x.1 == "unicode/utf8.acceptRanges") = [("unicode/utf8.acceptRanges", Lib.acceptData)] := by kernel_rfl
  exact utf8Tabs_of_reads Tryd.lays260 u8extra (one_met h e1 fun h => h) (one_met h e2 fun h => h)
theorem tab_lt {a b : Nat} {w : World} (h : Lib.Utf8Tabs a b w) : a < w.heap.size ∧ b < w.heap.size :=
  ⟨World.block_lt_of_cell? _ _ (h.1 0 (by decide)), World.block_lt_of_cell? _ _ (h.2 0 (by decide)).1⟩
set_option maxRecDepth 100000 in
theorem prp_met {W : World} (h : laidMetH Tryd.prog Rows.lexerBackUptoRow.laid W) : Lib.TabIs Tryd.prog W "unicode.properties" .u8 Lib.propertiesTab := by
  have h2 := h.filter (fun x => x.1 == "unicode.properties")
  have e : (Rows.lexerBackUptoRow.laid.filter fun x => x.1 == "unicode.properties") = [("unicode.properties", Lib.tabData .u8 Lib.propertiesTab)] := by kernel_rfl
  rw [e] at h2
  exact Lib.tabIs_of_head (rest := []) gPrp gPrpType Tryd.underlying115 Tryd.underlying5 cellsU8 cellsPrp h2
set_option maxRecDepth 100000 in
theorem let_met {W : World} (h : laidMetH Tryd.prog Rows.lexerBackUptoRow.laid W) : Lib.RVar 5 Lib.letterT W ∧ Lib.RVar 6 Lib.digitT W := by
  have e1 : (Rows.lexerBackUptoRow.laid.filter fun x => x.1 == "unicode.Letter") = [("unicode.Letter", Pinned.letter)] := by kernel_rfl
  have e2 : (Rows.lexerBackUptoRow.laid.filter fun x => x.1 == "unicode.Digit") = [("unicode.Digit", Pinned.digit)] := by kernel_rfl
  exact ⟨rvar_of_reads Tryd.lays261 rextra (by kernel_rfl) (by kernel_rfl) (Pinned.letter_eq ▸ one_met h e1 fun h => by rw [MakeChecks.laidMetH_plain _ _ _ (by kernel_rfl)] at h; exact h), rvar_of_reads Tryd.lays261 rextra (by kernel_rfl) (by kernel_rfl) (Pinned.digit_eq ▸ one_met h e2 fun h => by rw [MakeChecks.laidMetH_plain _ _ _ (by kernel_rfl)] at h; exact h)⟩
theorem lt_met {W : World} (h : laidMetH Tryd.prog Rows.lexerBackUptoRow.laid W) : Lt W :=
  ⟨⟨tab_lt (tabs_met h), tabs_met h⟩, fun v hv => ⟨Lib.tabBelow_of_tabIs (prp_met h) v hv, RVar_below (let_met h).1 hv, RVar_below (let_met h).2 hv⟩⟩
noncomputable def lexerBack_world (os : Os) : World := World.laidAll Tryd.prog os Rows.lexerBackUptoRow.laid
theorem lexerBack_laid (os : Os) : laidMet Tryd.prog Rows.lexerBackUptoRow.laid ((lexerBack_world os).forCall (fun _ _ => 0) ⟨#[], #[.string .empty, .agg #[.int .i64 0, .int .i64 0, .string .empty]], []⟩).memory :=
  laidMet_laidAll _ (by kernel_rfl) (by kernel_rfl)
theorem lexerBack_reads (os : Os) {H : Type} (enc : TypeId × Value → H) : ∃ places, DataW.whole enc Tryd.prog ((lexerBack_world os).forCall (fun _ _ => 0) ⟨#[], #[.string .empty, .agg #[.int .i64 0, .int .i64 0, .string .empty]], []⟩).memory Tryd.f3.params.toList (Rows.OpenSpec.upto Rows.lexerBackSpec).vars false (#[.string .empty, .agg #[.int .i64 0, .int .i64 0, .string .empty]] : Array Value).toList 8 = some ([.lit (.string []), .agg [.lit (.int .i64 0), .lit (.int .i64 0), .lit (.string [])]], [], places) :=
  ⟨[], by kernel_rfl⟩

set_option maxRecDepth 100000 in
theorem lexerBack_lifted (os : Os) (started : os.Started) (H : Type) (enc : TypeId × Value → H) (F : Stop.Interp) :
    ReturnsInHanded {} Tryd.checked os 3 .any ((Rows.OpenSpec.upto Rows.lexerBackSpec).preRow enc Tryd.prog Tryd.f3 Rows.lexerBackUptoRow.domain false Rows.lexerBackUptoRow.laid) (((Rows.OpenSpec.upto Rows.lexerBackSpec).at F).post enc Tryd.prog Tryd.f3 false true false false) := by
  obtain ⟨places, hx⟩ := lexerBack_reads os enc
  refine returnsInHanded_of_row (C := Tryd.checked) (s := Rows.OpenSpec.upto Rows.lexerBackSpec) own started (by kernel_rfl) Tryd.func3
    (witness_row_atRef (enc := enc) (C := Tryd.checked) false (lexerBack_world os) #[.string .empty, .agg #[.int .i64 0, .int .i64 0, .string .empty]] (World.laidAll_os _ _ _) (by kernel_rfl) (by kernel_rfl) (by kernel_rfl)
      (OpenSpec.preRow_of_cond 8 hx (by kernel_rfl) (fun k hk => by cases hk; kernel_rfl) (by kernel_rfl) (lexerBack_laid os))) ?_
  intro W base args ds gs before hval0 hW hcnd hk0 hsz0 hL hSh _
  have hk : Rows.uptoSmall H (ds ++ gs) = true := hk0 _ rfl
  have hval : ∀ (j : Nat) t v, Tryd.f3.params[j]? = some t → args[j]? = some v → Value.okWide Tryd.prog W .any base t v := hval0
  have hW' := hW
  obtain ⟨p, q, hA0, hV, rfl, hfz, hnd⟩ := hW
  have hA : DataW.TrodAll enc Tryd.prog W 0 (fun _ => true) true Tryd.f3.params.toList args.toList ds p := hA0
  rw [Tryd.params3] at hA hval
  obtain ⟨v0, vs0, d0, ds0, p0, q0, hargs, rfl, rfl, h0, r0⟩ := trodAll_cons hA
  obtain ⟨v1, vs1, d1, ds1, p1, q1, rfl, rfl, rfl, h1, r1⟩ := trodAll_cons r0
  obtain ⟨rfl, rfl, rfl⟩ := trodAll_nil r1
  obtain rfl : args = #[v0, v1] := by cases args; simp_all
  obtain ⟨rfl, rfl⟩ := trodVars_none hV
  have k1 := h1
  have lt1 : ∀ x ∈ p1, x.block < W.heap.size := by obtain ⟨m, hm⟩ := k1; exact DataW.trod_lt m _ _ _ hm
  obtain ⟨s0, rfl, rfl, rfl, hm0⟩ := open_string Tryd.underlying9 (hval 0 9 v0 rfl rfl) h0
  obtain ⟨ef, et, es, rfl, rfl, we0, we1⟩ := open_edit (hval 1 23 v1 rfl rfl) h1
  have hB : s0.size + es.size ≤ 1048576 := by
    have h := small_of hk
    simp only [List.append_nil, Rows.uptoBulkAll] at h
    have e0 := bulk_string (H := H) s0
    have e1 := bulk_edit (H := H) ef et es
    omega
  clear hA0 hval0
  refine (lexerBack_walk s0 ef et es hB W (spl_met hL) (lt_met hL) (Tryd.laysM143.s1_3 W hSh)).mono fun e W' ⟨he, bel⟩ => ?_
  subst he
  exact ⟨_, rfl, _, _, _, [], _, [], hW', trodAll_mk1 (shut_bool Tryd.underlying4 _), (trodAll_cons_mk (shut_string Tryd.underlying9 hm0) (trodAll_cons_mk (Below.trod laidOutE (by kernel_rfl) (of_decide_eq_true (by kernel_rfl)) k1 bel lt1) trodAll_mk0)), rfl, bel.frame _, fun h => by cases h⟩

theorem lexerBack_said : Rows.LexerBackUptoSaid :=
  OpenClaim.holds_of_cond 3 Tryd.f3 rfl rfl rfl rfl rfl rfl rfl ⟨rfl, rfl, rfl, rfl, rfl⟩ rfl rfl rfl rfl rfl (by kernel_rfl) Tryd.func3 (by kernel_rfl)
    (of_decide_eq_true (by kernel_rfl)) (by unfold Func.isWrapper; first | (rw [if_pos (by decide +kernel)]; kernel_rfl) | (rw [if_neg (by decide +kernel)]; exact ⟨rfl, rfl⟩))
    (fun os started H enc _ F => by rw [OpenClaim.pre_eq_preRow]; exact lexerBack_lifted os started H enc F)

theorem lexerBack_holds : Rows.LexerBackUptoCardSaid :=
  Claim7.holds_tied_plain_at .later [] _ _ _ _ lexerBack_said (fun _ h => by cases h) (by kernel_rfl) (fun _ h => by cases h) lexerBackUpto_row_tie rfl ⟨rfl, rfl⟩ (by kernel_rfl) rfl
    (fun f fn hf hfn => by
      obtain rfl : f = 3 := Option.some.inj ((show Tryd.prog.funcNamed "moniker/monikerlaw2.LexerBack" = some 3 by kernel_rfl).symm.trans hf) |>.symm
      obtain rfl : fn = Tryd.f3 := (Option.some.inj (Tryd.func3.symm.trans hfn)).symm
      refine ⟨by kernel_rfl, fun j t ht => ?_⟩
      rw [Tryd.params3] at ht
      have hm := Array.mem_of_getElem? ht
      have key : (Tryd.f3.params.toList.all fun t => !Tryd.prog.wantsStandIn t) = true := by kernel_rfl
      rw [Tryd.params3] at key
      have := List.all_eq_true.1 key t (by simpa using hm)
      show Tryd.prog.wantsStandIn t = false
      simpa using this)
    (by kernel_rfl)
end Go.Proofs.YtphejjghgalkpaaDoor
