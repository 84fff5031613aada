import Derived.Test.YtphejjghgalkpaaDoorMadeW
import Derived.Test.YtphejjghgalkpaaDoorOpZ
import Derived.Test.YtphejjghgalkpaaDoorRds
import Derived.Test.YtphejjghgalkpaaDoorCards
import Derived.Test.YtphejjghgalkpaaDoorTie
import Derived.Deep.DeepHandedRow
import Derived.Deep.DeepWitnessRowRef
import Derived.Deep.CondSized
import Derived.Lib.SmallJoins
import Derived.Lib.LaidTab
import Derived.Lib.LaidU8
import Derived.Lib.LaidRTab
import Derived.PinnedBridge
import Derived.Shelf.Unicode.PredsPay
import Derived.LaidSub
import Derived.Lib.AppendIntMem
import Derived.Lay
namespace Go.Proofs.YtphejjghgalkpaaDoor
open Go.ChangeShapes Go.WideShapes Go.ChangeAt Go.RowKit Go.Deep Go.Lib
open Go.ChangeMaps (open_string shut_string)
set_option linter.unusedVariables false
set_option linter.unusedSimpArgs false

theorem own : ownKnob Tryd.prog.godebug = none := by kernel_rfl
theorem small_of {H : Type} {ds : List (DataW H)} (hk : Rows.uptoSmall H ds = true) : Rows.uptoBulkAll ds ≤ 1048576 := of_decide_eq_true hk
theorem bulk_string {H : Type} (s : ByteArray) : s.size ≤ Rows.uptoBulk (H := H) (.lit (.string s.data.toList)) := by
  have e2 : s.data.toList.length = s.size := by rw [Array.length_toList]; rfl
  rw [Rows.uptoBulk, e2]; omega
theorem gSpl : Tryd.prog.globalNamed "moniker/lexer.spellings" = some 0 := by kernel_rfl
theorem gSplType : (Tryd.prog.globals[0]?).map (·.type) = some 88 := by kernel_rfl
theorem gPrp : Tryd.prog.globalNamed "unicode.properties" = some 4 := by kernel_rfl
theorem gPrpType : (Tryd.prog.globals[4]?).map (·.type) = some 115 := by kernel_rfl
theorem cellsPrp : Tryd.prog.cellsOf 115 = Lib.propertiesTab.length := by kernel_rfl
theorem cellsU8 : Tryd.prog.cellsOf 5 = 1 := by kernel_rfl
theorem cellsStrL : Tryd.prog.cellsOf 9 = 1 := by kernel_rfl
set_option maxRecDepth 100000 in
theorem u8extra : U8Extra Tryd.prog Tryd.lays260_ren := ⟨by kernel_rfl, by kernel_rfl, by kernel_rfl, by kernel_rfl, by kernel_rfl, by kernel_rfl, by kernel_rfl⟩
set_option maxRecDepth 100000 in
theorem rextra : RExtra Tryd.prog Tryd.lays261_ren := ⟨by kernel_rfl, by kernel_rfl, by kernel_rfl, by kernel_rfl, by kernel_rfl, by kernel_rfl, by kernel_rfl, by kernel_rfl⟩
theorem one_met {W : World} {L : List (String × DataW Unit)} {n : String} {d : DataW Unit} (h : laidMetH Tryd.prog L W) (e : (L.filter fun x => x.1 == n) = [(n, d)]) (hp : laidMetH Tryd.prog [(n, d)] W → laidMet Tryd.prog [(n, d)] W) : Lib.VarReads Tryd.prog W n d := by
  have h1 := h.filter (fun x => x.1 == n)
  rw [e] at h1
  exact Lib.laidMet.reads (hp h1) (List.mem_cons_self ..)
set_option maxRecDepth 100000 in
theorem spl_met {W : World} (h : laidMetH Tryd.prog Rows.lexerMadeUptoRow.laid W) : Spl W := by
  have e : (Rows.lexerMadeUptoRow.laid.filter fun x => x.1 == "moniker/lexer.spellings") = [("moniker/lexer.spellings", .agg (spl.map fun x => .lit (.string x)))] := by kernel_rfl
  have k := strTab_of_reads gSpl gSplType Tryd.underlying88 Tryd.underlying9 cellsStrL (one_met h e fun h => h)
  exact ⟨World.block_lt_of_cell? _ _ (k 0 (by decide)), k⟩
set_option maxRecDepth 100000 in
theorem tabs_met {W : World} (h : laidMetH Tryd.prog Rows.lexerMadeUptoRow.laid W) : Lib.Utf8Tabs 2 3 W := by
  have e1 : (Rows.lexerMadeUptoRow.laid.filter fun x => x.1 == "unicode/utf8.first") = [("unicode/utf8.first", Lib.firstData)] := by kernel_rfl
  have e2 : (Rows.lexerMadeUptoRow.laid.filter fun x => x.1 == "unicode/utf8.acceptRanges") = [("unicode/utf8.acceptRanges", Lib.acceptData)] := by kernel_rfl
  exact utf8Tabs_of_reads Tryd.lays260 u8extra (one_met h e1 fun h => h) (one_met h e2 fun h => h)
theorem tab_lt {a b : Nat} {w : World} (h : Lib.Utf8Tabs a b w) : a < w.heap.size ∧ b < w.heap.size :=
  ⟨World.block_lt_of_cell? _ _ (h.1 0 (by decide)), World.block_lt_of_cell? _ _ (h.2 0 (by decide)).1⟩
set_option maxRecDepth 100000 in
theorem prp_met {W : World} (h : laidMetH Tryd.prog Rows.lexerMadeUptoRow.laid W) : Lib.TabIs Tryd.prog W "unicode.properties" .u8 Lib.propertiesTab := by
  have h2 := h.filter (fun x => x.1 == "unicode.properties")
  have e : (Rows.lexerMadeUptoRow.laid.filter fun x => x.1 == "unicode.properties") = [("unicode.properties", Lib.tabData .u8 Lib.propertiesTab)] := by kernel_rfl
  rw [e] at h2
  exact Lib.tabIs_of_head (rest := []) gPrp gPrpType Tryd.underlying115 Tryd.underlying5 cellsU8 cellsPrp h2
set_option maxRecDepth 100000 in
theorem let_met {W : World} (h : laidMetH Tryd.prog Rows.lexerMadeUptoRow.laid W) : Lib.RVar 5 Lib.letterT W ∧ Lib.RVar 6 Lib.digitT W := by
  have e1 : (Rows.lexerMadeUptoRow.laid.filter fun x => x.1 == "unicode.Letter") = [("unicode.Letter", Pinned.letter)] := by kernel_rfl
  have e2 : (Rows.lexerMadeUptoRow.laid.filter fun x => x.1 == "unicode.Digit") = [("unicode.Digit", Pinned.digit)] := by kernel_rfl
  exact ⟨rvar_of_reads Tryd.lays261 rextra (by kernel_rfl) (by kernel_rfl) (Pinned.letter_eq ▸ one_met h e1 fun h => by rw [MakeChecks.laidMetH_plain _ _ _ (by kernel_rfl)] at h; exact h), rvar_of_reads Tryd.lays261 rextra (by kernel_rfl) (by kernel_rfl) (Pinned.digit_eq ▸ one_met h e2 fun h => by rw [MakeChecks.laidMetH_plain _ _ _ (by kernel_rfl)] at h; exact h)⟩
theorem lt_met {W : World} (h : laidMetH Tryd.prog Rows.lexerMadeUptoRow.laid W) : Lt W :=
  ⟨⟨tab_lt (tabs_met h), tabs_met h⟩, fun v hv => ⟨Lib.tabBelow_of_tabIs (prp_met h) v hv, RVar_below (let_met h).1 hv, RVar_below (let_met h).2 hv⟩⟩
noncomputable def lexerMade_world (os : Os) : World := World.laidAll Tryd.prog os Rows.lexerMadeUptoRow.laid
theorem lexerMade_laid (os : Os) : laidMet Tryd.prog Rows.lexerMadeUptoRow.laid ((lexerMade_world os).forCall (fun _ _ => 0) ⟨#[], #[.slice none 0 0], []⟩).memory :=
  laidMet_laidAll _ (by kernel_rfl) (by kernel_rfl)
theorem lexerMade_reads (os : Os) {H : Type} (enc : TypeId × Value → H) : ∃ places, DataW.whole enc Tryd.prog ((lexerMade_world os).forCall (fun _ _ => 0) ⟨#[], #[.slice none 0 0], []⟩).memory Tryd.f4.params.toList (Rows.OpenSpec.upto Rows.lexerMadeSpec).vars false (#[.slice none 0 0] : Array Value).toList 8 = some ([.nil], [], places) :=
  ⟨[], by kernel_rfl⟩

set_option maxRecDepth 100000 in
theorem lexerMade_lifted (os : Os) (started : os.Started) (H : Type) (enc : TypeId × Value → H) (F : Stop.Interp) :
    ReturnsInHanded {} Tryd.checked os 4 .any ((Rows.OpenSpec.upto Rows.lexerMadeSpec).preRow enc Tryd.prog Tryd.f4 Rows.lexerMadeUptoRow.domain false Rows.lexerMadeUptoRow.laid) (((Rows.OpenSpec.upto Rows.lexerMadeSpec).at F).post enc Tryd.prog Tryd.f4 false true false false) := by
  obtain ⟨places, hx⟩ := lexerMade_reads os enc
  refine returnsInHanded_of_row (C := Tryd.checked) (s := Rows.OpenSpec.upto Rows.lexerMadeSpec) own started (by kernel_rfl) Tryd.func4
    (witness_row_atRef (enc := enc) (C := Tryd.checked) false (lexerMade_world os) #[.slice none 0 0] (World.laidAll_os _ _ _) (by kernel_rfl) (by kernel_rfl) (by kernel_rfl)
      (OpenSpec.preRow_of_cond 8 hx (by kernel_rfl) (fun k hk => by cases hk; kernel_rfl) (by kernel_rfl) (lexerMade_laid os))) ?_
  intro W base args ds gs before hval0 hW hcnd hk0 hsz0 hL hSh _
  have hk : Rows.uptoSmall H (ds ++ gs) = true := hk0 _ rfl
  have hval : ∀ (j : Nat) t v, Tryd.f4.params[j]? = some t → args[j]? = some v → Value.okWide Tryd.prog W .any base t v := hval0
  have hW' := hW
  obtain ⟨p, q, hA0, hV, rfl, hfz, hnd⟩ := hW
  have hA : DataW.TrodAll enc Tryd.prog W 0 (fun _ => true) true Tryd.f4.params.toList args.toList ds p := hA0
  rw [Tryd.params4] at hA hval
  obtain ⟨v0, vs0, d0, ds0, p0, q0, hargs, rfl, rfl, h0, r0⟩ := trodAll_cons hA
  obtain ⟨rfl, rfl, rfl⟩ := trodAll_nil r0
  obtain rfl : args = #[v0] := by cases args; simp_all
  obtain ⟨rfl, rfl⟩ := trodVars_none hV
  have k0 := h0
  have lt0 : ∀ x ∈ p0, x.block < W.heap.size := by obtain ⟨m, hm⟩ := k0; exact DataW.trod_lt m _ _ _ hm
  obtain ⟨a0, c0, ps0, rfl, tl0, tr0⟩ := open_pieces (hval 0 34 v0 rfl rfl) h0
  have hB : ps0.length ≤ 1048576 := by
    have h := small_of hk
    simp only [List.append_nil, Rows.uptoBulkAll] at h
    have e0 := bulk_pieces tr0
    omega
  clear hA0 hval0
  refine (lexerMade_walk a0 c0 ps0 hB W tl0 (spl_met hL) (lt_met hL) (Tryd.laysM143.s1_3 W hSh)).mono fun e W' ⟨he, bel⟩ => ?_
  subst he
  exact ⟨_, rfl, _, _, _, [], _, [], hW', trodAll_mk1 (shut_bool Tryd.underlying4 _), (trodAll_cons_mk (Below.trod laidOutZ (by kernel_rfl) (of_decide_eq_true (by kernel_rfl)) k0 bel lt0) trodAll_mk0), rfl, bel.frame _, fun h => by cases h⟩

theorem lexerMade_said : Rows.LexerMadeUptoSaid :=
  OpenClaim.holds_of_cond 4 Tryd.f4 rfl rfl rfl rfl rfl rfl rfl ⟨rfl, rfl, rfl, rfl, rfl⟩ rfl rfl rfl rfl rfl (by kernel_rfl) Tryd.func4 (by kernel_rfl)
    (of_decide_eq_true (by kernel_rfl)) (by unfold Func.isWrapper; first | (rw [if_pos (by decide +kernel)]; kernel_rfl) | (rw [if_neg (by decide +kernel)]; exact ⟨rfl, rfl⟩))
    (fun os started H enc _ F => by rw [OpenClaim.pre_eq_preRow]; exact lexerMade_lifted os started H enc F)

theorem lexerMade_holds : Rows.LexerMadeUptoCardSaid :=
  Claim7.holds_tied_plain_at .later [] _ _ _ _ lexerMade_said (fun _ h => by cases h) (by kernel_rfl) (fun _ h => by cases h) lexerMadeUpto_row_tie rfl ⟨rfl, rfl⟩ (by kernel_rfl) rfl
    (fun f fn hf hfn => by
      obtain rfl : f = 4 := Option.some.inj ((show Tryd.prog.funcNamed "moniker/monikerlaw2.LexerMade" = some 4 by kernel_rfl).symm.trans hf) |>.symm
      obtain rfl : fn = Tryd.f4 := (Option.some.inj (Tryd.func4.symm.trans hfn)).symm
      refine ⟨by kernel_rfl, fun j t ht => ?_⟩
      rw [Tryd.params4] at ht
      have hm := Array.mem_of_getElem? ht
      have key : (Tryd.f4.params.toList.all fun t => !Tryd.prog.wantsStandIn t) = true := by kernel_rfl
      rw [Tryd.params4] at key
      have := List.all_eq_true.1 key t (by simpa using hm)
      show Tryd.prog.wantsStandIn t = false
      simpa using this)
    (by kernel_rfl)
end Go.Proofs.YtphejjghgalkpaaDoor
