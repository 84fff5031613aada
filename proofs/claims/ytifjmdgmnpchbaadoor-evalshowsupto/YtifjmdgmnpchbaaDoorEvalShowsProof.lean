import Derived.Test.YtifjmdgmnpchbaaDoorEvShW
import Derived.Test.YtifjmdgmnpchbaaDoorOpt
import Derived.Test.YtifjmdgmnpchbaaDoorCards
import Derived.Test.YtifjmdgmnpchbaaDoorTie
import Derived.Deep.DeepHandedRow
import Derived.Deep.CondSized
import Derived.Lib.LaidTab
import Derived.Lib.LaidU8
import Derived.LaidSub
import Derived.Lay
namespace Go.Proofs.YtifjmdgmnpchbaaDoor
open Go.ChangeShapes Go.WideShapes Go.ChangeAt Go.RowKit Go.Deep
set_option linter.unusedVariables false
set_option linter.unusedSimpArgs false

theorem gPowType : (Tryd.prog.globals[0]?).map (·.type) = some 65 := by kernel_rfl
theorem cellsPow : Tryd.prog.cellsOf 65 = Lib.pow10Tab.length := by kernel_rfl
theorem cellsU64 : Tryd.prog.cellsOf 56 = 1 := by kernel_rfl
theorem pow_met {W : World} (h : laidMetH Tryd.prog Rows.evalShowsUptoRow.laid W) : Lib.TabIs Tryd.prog W "internal/strconv.uint64pow10" .u64 Lib.pow10Tab := by
  have h2 := h.filter (fun x => x.1 == "internal/strconv.uint64pow10")
  have e : (Rows.evalShowsUptoRow.laid.filter fun x => x.1 == "internal/strconv.uint64pow10") = [("internal/strconv.uint64pow10", Lib.tabData .u64 Lib.pow10Tab)] := by kernel_rfl
  rw [e] at h2
  exact Lib.tabIs_of_head (rest := []) gPow10 gPowType Tryd.underlying65 Tryd.underlying56 cellsU64 cellsPow h2
set_option maxRecDepth 100000 in
theorem u8extra : U8Extra Tryd.prog Tryd.lays260_ren := ⟨by kernel_rfl, by kernel_rfl, by kernel_rfl, by kernel_rfl, by kernel_rfl, by kernel_rfl, by kernel_rfl⟩
set_option maxRecDepth 100000 in
theorem tabs_met {W : World} (h : laidMetH Tryd.prog Rows.evalShowsUptoRow.laid W) : Lib.Utf8Tabs 1 2 W := by
  have h1 := h.filter (fun x => x.1 == "unicode/utf8.first")
  have e1 : (Rows.evalShowsUptoRow.laid.filter fun x => x.1 == "unicode/utf8.first") = [("unicode/utf8.first", Lib.firstData)] := by kernel_rfl
  rw [e1] at h1
  have h2 := h.filter (fun x => x.1 == "unicode/utf8.acceptRanges")
  have e2 : (Rows.evalShowsUptoRow.laid.filter fun x => x.1 == "unicode/utf8.acceptRanges") = [("unicode/utf8.acceptRanges", Lib.acceptData)] := by kernel_rfl
  rw [e2] at h2
  have r1 := Lib.laidMet.reads (show laidMet Tryd.prog _ W from h1) (List.mem_cons_self ..)
  have r2 := Lib.laidMet.reads (show laidMet Tryd.prog _ W from h2) (List.mem_cons_self ..)
  exact utf8Tabs_of_reads Tryd.lays260 u8extra r1 r2
theorem tab_lt {a b : Nat} {w : World} (h : Lib.Utf8Tabs a b w) : a < w.heap.size ∧ b < w.heap.size :=
  ⟨World.block_lt_of_cell? _ _ (h.1 0 (by decide)), World.block_lt_of_cell? _ _ (h.2 0 (by decide)).1⟩
noncomputable def evalShows_world (os : Os) : World := World.laidAll Tryd.prog os Rows.evalShowsUptoRow.laid
theorem evalShows_laid (os : Os) : laidMet Tryd.prog Rows.evalShowsUptoRow.laid ((evalShows_world os).forCall (fun _ _ => 0) ⟨#[], #[.slice none 0 0], []⟩).memory :=
  laidMet_laidAll _ (by kernel_rfl) (by kernel_rfl)
theorem evalShows_reads (os : Os) {H : Type} (enc : TypeId × Value → H) : ∃ places, DataW.whole enc Tryd.prog ((evalShows_world os).forCall (fun _ _ => 0) ⟨#[], #[.slice none 0 0], []⟩).memory Tryd.f3.params.toList (Rows.OpenSpec.upto Rows.evalShowsSpec).vars false (#[.slice none 0 0] : Array Value).toList 8 = some ([.nil], [], places) :=
  ⟨[], by kernel_rfl⟩

set_option maxRecDepth 100000 in
theorem evalShows_lifted (os : Os) (started : os.Started) (H : Type) (enc : TypeId × Value → H) (F : Stop.Interp) :
    ReturnsInHanded {} Tryd.checked os 3 .any ((Rows.OpenSpec.upto Rows.evalShowsSpec).preRow enc Tryd.prog Tryd.f3 Rows.evalShowsUptoRow.domain false Rows.evalShowsUptoRow.laid) (((Rows.OpenSpec.upto Rows.evalShowsSpec).at F).post enc Tryd.prog Tryd.f3 false true false false) := by
  obtain ⟨places, hx⟩ := evalShows_reads os enc
  refine returnsInHanded_of_row (C := Tryd.checked) (s := Rows.OpenSpec.upto Rows.evalShowsSpec) own started (by kernel_rfl) Tryd.func3
    (witness_row_at (enc := enc) (C := Tryd.checked) false (evalShows_world os) #[.slice none 0 0] (World.laidAll_os _ _ _) (by kernel_rfl) (by kernel_rfl) (by kernel_rfl)
      (OpenSpec.preRow_of_cond 8 hx (by kernel_rfl) (fun k hk => by cases hk; kernel_rfl) (by kernel_rfl) (evalShows_laid os))) ?_
  intro W base args ds gs before hval0 hW hcnd hk0 hsz0 hL _ _
  have hk : Rows.uptoSmall H (ds ++ gs) = true := hk0 _ rfl
  have hval : ∀ (j : Nat) t v, Tryd.f3.params[j]? = some t → args[j]? = some v → Value.okWide Tryd.prog W .any base t v := hval0
  have hW' := hW
  obtain ⟨p, q, hA0, hV, rfl, hfz, hnd⟩ := hW
  have hA : DataW.TrodAll enc Tryd.prog W 0 (fun _ => true) true Tryd.f3.params.toList args.toList ds p := hA0
  rw [Tryd.params3] at hA hval
  obtain ⟨v0, vs0, d0, ds0, p0, q0, hargs, rfl, rfl, h0, r0⟩ := trodAll_cons hA
  obtain ⟨rfl, rfl, rfl⟩ := trodAll_nil r0
  obtain rfl : args = #[v0] := by cases args; simp_all
  obtain ⟨rfl, rfl⟩ := trodVars_none hV
  obtain ⟨a0, len0, cap0, rfl⟩ := okWide_slice Tryd.underlying22 (hval 0 22 v0 rfl rfl)
  have k0 := h0
  have lt0 : ∀ x ∈ p0, x.block < W.heap.size := by obtain ⟨m, hm⟩ := k0; exact DataW.trod_lt m _ _ _ hm
  obtain ⟨fuel0, hf0⟩ := h0
  obtain ⟨rs, rfl, hE, hG, hN, hD, hC⟩ := open_rel (EvIn W) evRel 22 23 ⟨none, 0, []⟩ Tryd.underlying22 cellsEv elem_ev hf0
  simp only at hD
  have hB : wgT (rs.map Rg.xs) ≤ 1048576 := by
    have h := small_of hk
    simp only [List.append_nil, Rows.uptoBulkAll] at h
    have e := bulk_trace hD
    omega
  have hok : ∀ l ∈ rs.map Rg.xs, ∀ x ∈ l, VlOk x := by
    intro l hl x hx
    have h1 := wgT_mem _ l hl
    have h2 := wg_text l x hx
    obtain ⟨r, hr, rfl⟩ := List.mem_map.1 hl
    have h3 := (hG r hr).2.1 x hx
    exact ⟨h3.1, h3.2, by omega⟩
  have hTb := tabs_met hL
  clear hA0 hval0
  refine (evalShows_walk a0 cap0 rs W ⟨hE, fun r hr => (hG r hr).1⟩ (fun r hr => (hG r hr).2.2) hok hB ⟨tab_lt hTb, hTb, pow_met hL⟩).mono fun e W' ⟨he, bel⟩ => ?_
  subst he
  exact ⟨_, rfl, _, _, _, [], _, [], hW', trodAll_mk1 (shut_bool Tryd.underlying4 _), (trodAll_cons_mk (Below.trod laidOut (by kernel_rfl) (of_decide_eq_true (by kernel_rfl)) k0 bel lt0) trodAll_mk0), rfl, bel.frame _, fun h => by cases h⟩

theorem evalShows_said : Rows.EvalShowsUptoSaid :=
  OpenClaim.holds_of_cond 3 Tryd.f3 rfl rfl rfl rfl rfl rfl rfl ⟨rfl, rfl, rfl, rfl, rfl⟩ rfl rfl rfl rfl rfl (by kernel_rfl) Tryd.func3 (by kernel_rfl)
    (of_decide_eq_true (by kernel_rfl)) (by unfold Func.isWrapper; first | (rw [if_pos (by decide +kernel)]; kernel_rfl) | (rw [if_neg (by decide +kernel)]; exact ⟨rfl, rfl⟩))
    (fun os started H enc _ F => by rw [OpenClaim.pre_eq_preRow]; exact evalShows_lifted os started H enc F)

theorem evalShows_holds : Rows.EvalShowsUptoCardSaid :=
  Claim7.holds_tied_plain_at .later [] _ _ _ _ evalShows_said (fun _ h => by cases h) (by kernel_rfl) (fun _ h => by cases h) evalShowsUpto_row_tie rfl ⟨rfl, rfl⟩ (by kernel_rfl) rfl
    (fun f fn hf hfn => by
      obtain rfl : f = 3 := Option.some.inj ((show Tryd.prog.funcNamed "moniker/monikerlaw14.EvalShows" = some 3 by kernel_rfl).symm.trans hf) |>.symm
      obtain rfl : fn = Tryd.f3 := (Option.some.inj (Tryd.func3.symm.trans hfn)).symm
      refine ⟨by kernel_rfl, fun j t ht => ?_⟩
      rw [Tryd.params3] at ht
      have hm := Array.mem_of_getElem? ht
      have key : (Tryd.f3.params.toList.all fun t => !Tryd.prog.wantsStandIn t) = true := by kernel_rfl
      rw [Tryd.params3] at key
      have := List.all_eq_true.1 key t (by simpa using hm)
      show Tryd.prog.wantsStandIn t = false
      simpa using this)
    (by kernel_rfl)
end Go.Proofs.YtifjmdgmnpchbaaDoor
