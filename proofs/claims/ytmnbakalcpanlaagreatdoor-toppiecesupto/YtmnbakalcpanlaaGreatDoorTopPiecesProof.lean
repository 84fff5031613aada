import Derived.Test.YtmnbakalcpanlaaGreatDoorTw3
import Derived.Test.YtmnbakalcpanlaaGreatDoorRds
import Derived.Test.YtmnbakalcpanlaaGreatDoorCards
import Derived.Test.YtmnbakalcpanlaaGreatDoorTie
import Derived.Deep.DeepHandedRow
import Derived.Deep.DeepWitnessRowRef
import Derived.Deep.CondSized
import Derived.Lib.SmallJoins
import Derived.Lib.LaidTab
import Derived.Lib.LaidU8
import Derived.Lib.LaidRTab
import Derived.PinnedBridge
import Derived.Shelf.Unicode.PredsPay
import Derived.LaidSub
import Derived.Lib.AppendIntMem
import Derived.Lay
namespace Go.Proofs.YtmnbakalcpanlaaGreatDoor
open Go.ChangeShapes Go.WideShapes Go.ChangeAt Go.RowKit Go.Deep Go.Lib
open Go.ChangeMaps (open_string shut_string)
set_option linter.unusedVariables false
set_option linter.unusedSimpArgs false

theorem own : ownKnob Tryz.prog.godebug = none := by kernel_rfl
theorem small_of {H : Type} {ds : List (DataW H)} (hk : Rows.uptoSmall H ds = true) : Rows.uptoBulkAll ds ≤ 1048576 := of_decide_eq_true hk
theorem bulk_string {H : Type} (s : ByteArray) : s.size ≤ Rows.uptoBulk (H := H) (.lit (.string s.data.toList)) := by
  have e2 : s.data.toList.length = s.size := by rw [Array.length_toList]; rfl
  rw [Rows.uptoBulk, e2]; omega
theorem gSpl : Tryz.prog.globalNamed "moniker/lexer.spellings" = some 0 := by kernel_rfl
theorem gSplType : (Tryz.prog.globals[0]?).map (·.type) = some 88 := by kernel_rfl
theorem gPrp : Tryz.prog.globalNamed "unicode.properties" = some 4 := by kernel_rfl
theorem gPrpType : (Tryz.prog.globals[4]?).map (·.type) = some 116 := by kernel_rfl
theorem cellsPrp : Tryz.prog.cellsOf 116 = Lib.propertiesTab.length := by kernel_rfl
theorem cellsU8 : Tryz.prog.cellsOf 5 = 1 := by kernel_rfl
theorem cellsStrL : Tryz.prog.cellsOf 9 = 1 := by kernel_rfl
set_option maxRecDepth 100000 in
theorem u8extra : U8Extra Tryz.prog Tryz.lays260_ren := ⟨by kernel_rfl, by kernel_rfl, by kernel_rfl, by kernel_rfl, by kernel_rfl, by kernel_rfl, by kernel_rfl⟩
set_option maxRecDepth 100000 in
theorem rextra : RExtra Tryz.prog Tryz.lays261_ren := ⟨by kernel_rfl, by kernel_rfl, by kernel_rfl, by kernel_rfl, by kernel_rfl, by kernel_rfl, by kernel_rfl, by kernel_rfl⟩
theorem one_met {W : World} {L : List (String × DataW Unit)} {n : String} {d : DataW Unit} (h : laidMetH Tryz.prog L W) (e : (L.filter fun x => x.1 == n) = [(n, d)]) (hp : laidMetH Tryz.prog [(n, d)] W → laidMet Tryz.prog [(n, d)] W) : Lib.VarReads Tryz.prog W n d := by
  have h1 := h.filter (fun x => x.1 == n)
  rw [e] at h1
  exact Lib.laidMet.reads (hp h1) (List.mem_cons_self ..)
set_option maxRecDepth 100000 in
theorem spl_met {W : World} (h : laidMetH Tryz.prog Rows.topPiecesUptoRow.laid W) : Spl W := by
  have e : (Rows.topPiecesUptoRow.laid.filter fun x => x.1 == "moniker/lexer.spellings") = [("moniker/lexer.spellings", .agg (spl.map fun x => .lit (.string x)))] := by kernel_rfl
  have k := strTab_of_reads gSpl gSplType Tryz.underlying88 Tryz.underlying9 cellsStrL (one_met h e fun h => h)
  exact ⟨World.block_lt_of_cell? _ _ (k 0 (by decide)), k⟩
set_option maxRecDepth 100000 in
theorem tabs_met {W : World} (h : laidMetH Tryz.prog Rows.topPiecesUptoRow.laid W) : Lib.Utf8Tabs 2 3 W := by
  have e1 : (Rows.topPiecesUptoRow.laid.filter fun x => x.1 == "unicode/utf8.first") = [("unicode/utf8.first", Lib.firstData)] := by kernel_rfl
  have e2 : (Rows.topPiecesUptoRow.laid.filter fun x => x.1 == "unicode/utf8.acceptRanges") = [("unicode/utf8.acceptRanges", Lib.acceptData)] := by kernel_rfl
  exact utf8Tabs_of_reads Tryz.lays260 u8extra (one_met h e1 fun h => h) (one_met h e2 fun h => h)
theorem tab_lt {a b : Nat} {w : World} (h : Lib.Utf8Tabs a b w) : a < w.heap.size ∧ b < w.heap.size :=
  ⟨World.block_lt_of_cell? _ _ (h.1 0 (by decide)), World.block_lt_of_cell? _ _ (h.2 0 (by decide)).1⟩
set_option maxRecDepth 100000 in
theorem prp_met {W : World} (h : laidMetH Tryz.prog Rows.topPiecesUptoRow.laid W) : Lib.TabIs Tryz.prog W "unicode.properties" .u8 Lib.propertiesTab := by
  have h2 := h.filter (fun x => x.1 == "unicode.properties")
  have e : (Rows.topPiecesUptoRow.laid.filter fun x => x.1 == "unicode.properties") = [("unicode.properties", Lib.tabData .u8 Lib.propertiesTab)] := by kernel_rfl
  rw [e] at h2
  exact Lib.tabIs_of_head (rest := []) gPrp gPrpType Tryz.underlying116 Tryz.underlying5 cellsU8 cellsPrp h2
set_option maxRecDepth 100000 in
theorem let_met {W : World} (h : laidMetH Tryz.prog Rows.topPiecesUptoRow.laid W) : Lib.RVar 5 Lib.letterT W ∧ Lib.RVar 6 Lib.digitT W := by
  have e1 : (Rows.topPiecesUptoRow.laid.filter fun x => x.1 == "unicode.Letter") = [("unicode.Letter", Pinned.letter)] := by kernel_rfl
  have e2 : (Rows.topPiecesUptoRow.laid.filter fun x => x.1 == "unicode.Digit") = [("unicode.Digit", Pinned.digit)] := by kernel_rfl
  exact ⟨rvar_of_reads Tryz.lays261 rextra (by kernel_rfl) (by kernel_rfl) (Pinned.letter_eq ▸ one_met h e1 fun h => by rw [MakeChecks.laidMetH_plain _ _ _ (by kernel_rfl)] at h; exact h), rvar_of_reads Tryz.lays261 rextra (by kernel_rfl) (by kernel_rfl) (Pinned.digit_eq ▸ one_met h e2 fun h => by rw [MakeChecks.laidMetH_plain _ _ _ (by kernel_rfl)] at h; exact h)⟩
theorem lt_met {W : World} (h : laidMetH Tryz.prog Rows.topPiecesUptoRow.laid W) : Lt W :=
  ⟨⟨tab_lt (tabs_met h), tabs_met h⟩, fun v hv => ⟨Lib.tabBelow_of_tabIs (prp_met h) v hv, RVar_below (let_met h).1 hv, RVar_below (let_met h).2 hv⟩⟩
noncomputable def topPieces_world (os : Os) : World := World.laidAll Tryz.prog os Rows.topPiecesUptoRow.laid
theorem topPieces_laid (os : Os) : laidMet Tryz.prog Rows.topPiecesUptoRow.laid ((topPieces_world os).forCall (fun _ _ => 0) ⟨#[], #[.string .empty, .slice none 0 0, .string .empty], []⟩).memory :=
  laidMet_laidAll _ (by kernel_rfl) (by kernel_rfl)
theorem topPieces_reads (os : Os) {H : Type} (enc : TypeId × Value → H) : ∃ places, DataW.whole enc Tryz.prog ((topPieces_world os).forCall (fun _ _ => 0) ⟨#[], #[.string .empty, .slice none 0 0, .string .empty], []⟩).memory Tryz.f3.params.toList (Rows.OpenSpec.upto Rows.topPiecesSpec).vars false (#[.string .empty, .slice none 0 0, .string .empty] : Array Value).toList 8 = some ([.lit (.string []), .nil, .lit (.string [])], [], places) :=
  ⟨[], by kernel_rfl⟩

set_option maxRecDepth 100000 in
theorem topPieces_lifted (os : Os) (started : os.Started) (H : Type) (enc : TypeId × Value → H) (F : Stop.Interp) :
    ReturnsInHanded {} Tryz.checked os 3 .any ((Rows.OpenSpec.upto Rows.topPiecesSpec).preRow enc Tryz.prog Tryz.f3 Rows.topPiecesUptoRow.domain false Rows.topPiecesUptoRow.laid) (((Rows.OpenSpec.upto Rows.topPiecesSpec).at F).post enc Tryz.prog Tryz.f3 false true false false) := by
  obtain ⟨places, hx⟩ := topPieces_reads os enc
  refine returnsInHanded_of_row (C := Tryz.checked) (s := Rows.OpenSpec.upto Rows.topPiecesSpec) own started (by kernel_rfl) Tryz.func3
    (witness_row_atRef (enc := enc) (C := Tryz.checked) false (topPieces_world os) #[.string .empty, .slice none 0 0, .string .empty] (World.laidAll_os _ _ _) (by kernel_rfl) (by kernel_rfl) (by kernel_rfl)
      (OpenSpec.preRow_of_cond 8 hx (by kernel_rfl) (fun k hk => by cases hk; kernel_rfl) (by kernel_rfl) (topPieces_laid os))) ?_
  intro W base args ds gs before hval0 hW hcnd hk0 hsz0 hL hSh _
  have hk : Rows.uptoSmall H (ds ++ gs) = true := hk0 _ rfl
  have hval : ∀ (j : Nat) t v, Tryz.f3.params[j]? = some t → args[j]? = some v → Value.okWide Tryz.prog W .any base t v := hval0
  have hW' := hW
  obtain ⟨p, q, hA0, hV, rfl, hfz, hnd⟩ := hW
  have hA : DataW.TrodAll enc Tryz.prog W 0 (fun _ => true) true Tryz.f3.params.toList args.toList ds p := hA0
  rw [Tryz.params3] at hA hval
  obtain ⟨v0, vs0, d0, ds0, p0, q0, hargs, rfl, rfl, h0, r0⟩ := trodAll_cons hA
  obtain ⟨v1, vs1, d1, ds1, p1, q1, rfl, rfl, rfl, h1, r1⟩ := trodAll_cons r0
  obtain ⟨v2, vs2, d2, ds2, p2, q2, rfl, rfl, rfl, h2, r2⟩ := trodAll_cons r1
  obtain ⟨rfl, rfl, rfl⟩ := trodAll_nil r2
  obtain rfl : args = #[v0, v1, v2] := by cases args; simp_all
  obtain ⟨rfl, rfl⟩ := trodVars_none hV
  obtain ⟨a1, len1, cap1, rfl⟩ := okWide_slice Tryz.underlying22 (hval 1 22 v1 rfl rfl)
  have k1 := h1
  have lt1 : ∀ x ∈ p1, x.block < W.heap.size := by obtain ⟨m, hm⟩ := k1; exact DataW.trod_lt m _ _ _ hm
  obtain ⟨fuel1, hf1⟩ := h1
  obtain ⟨xs1, rfl, hE1, hG1, hN1, hD1, hC1⟩ := Q.open_edits hf1
  simp only at hD1
  obtain ⟨s0, rfl, rfl, rfl, hm0⟩ := open_string Tryz.underlying9 (hval 0 9 v0 rfl rfl) h0
  obtain ⟨s2, rfl, rfl, rfl, hm2⟩ := open_string Tryz.underlying9 (hval 2 9 v2 rfl rfl) h2
  have hB : s0.size + (4 * xs1.length + Q.tot xs1) + s2.size ≤ 1048576 := by
    have h := small_of hk
    simp only [List.append_nil, Rows.uptoBulkAll] at h
    have e0 := bulk_string (H := H) s0
    have e2 := bulk_string (H := H) s2
    have e1 := Q.bulk_edits hD1
    omega
  have htt := Q.tots_tot xs1
  have hF1 : ∀ e ∈ xs1, Q.EdFit e := by
    intro e he
    have h1 := hG1 e he
    have h2 := Q.mem_tots he
    unfold Q.EdFit0 at h1
    unfold Q.EdFit
    omega
  clear hA0 hval0
  refine (topPieces_walk s0 a1 cap1 xs1 s2 (by omega) (by omega) W hE1 hF1 (spl_met hL) (lt_met hL) (Tryz.laysM143.s1_3 W hSh)).mono fun e W' ⟨he, bel⟩ => ?_
  subst he
  exact ⟨_, rfl, _, _, _, [], _, [], hW', trodAll_mk1 (shut_bool Tryz.underlying4 _), (trodAll_cons_mk (shut_string Tryz.underlying9 hm0) (trodAll_cons_mk (Below.trod Q.laidOut (by kernel_rfl) (of_decide_eq_true (by kernel_rfl)) k1 bel lt1) (trodAll_cons_mk (shut_string Tryz.underlying9 hm2) trodAll_mk0))), rfl, bel.frame _, fun h => by cases h⟩

theorem topPieces_said : Rows.TopPiecesUptoSaid :=
  OpenClaim.holds_of_cond 3 Tryz.f3 rfl rfl rfl rfl rfl rfl rfl ⟨rfl, rfl, rfl, rfl, rfl⟩ rfl rfl rfl rfl rfl (by kernel_rfl) Tryz.func3 (by kernel_rfl)
    (of_decide_eq_true (by kernel_rfl)) (by unfold Func.isWrapper; first | (rw [if_pos (by decide +kernel)]; kernel_rfl) | (rw [if_neg (by decide +kernel)]; exact ⟨rfl, rfl⟩))
    (fun os started H enc _ F => by rw [OpenClaim.pre_eq_preRow]; exact topPieces_lifted os started H enc F)

theorem topPieces_holds : Rows.TopPiecesUptoCardSaid :=
  Claim7.holds_tied_plain_at .later [] _ _ _ _ topPieces_said (fun _ h => by cases h) (by kernel_rfl) (fun _ h => by cases h) topPiecesUpto_row_tie rfl ⟨rfl, rfl⟩ (by kernel_rfl) rfl
    (fun f fn hf hfn => by
      obtain rfl : f = 3 := Option.some.inj ((show Tryz.prog.funcNamed "moniker/monikertop.TopPieces" = some 3 by kernel_rfl).symm.trans hf) |>.symm
      obtain rfl : fn = Tryz.f3 := (Option.some.inj (Tryz.func3.symm.trans hfn)).symm
      refine ⟨by kernel_rfl, fun j t ht => ?_⟩
      rw [Tryz.params3] at ht
      have hm := Array.mem_of_getElem? ht
      have key : (Tryz.f3.params.toList.all fun t => !Tryz.prog.wantsStandIn t) = true := by kernel_rfl
      rw [Tryz.params3] at key
      have := List.all_eq_true.1 key t (by simpa using hm)
      show Tryz.prog.wantsStandIn t = false
      simpa using this)
    (by kernel_rfl)
end Go.Proofs.YtmnbakalcpanlaaGreatDoor
