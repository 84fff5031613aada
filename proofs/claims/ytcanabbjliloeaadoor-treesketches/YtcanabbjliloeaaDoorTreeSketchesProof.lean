import Derived.Test.YtcanabbjliloeaaDoorSketchesW
import Derived.Test.YtcanabbjliloeaaDoorRds
import Derived.Test.YtcanabbjliloeaaDoorOpn
import Derived.Test.YtcanabbjliloeaaDoorCards
import Derived.Test.YtcanabbjliloeaaDoorTie
import Derived.Deep.DeepHandedRow
import Derived.Lib.LaidTab
import Derived.LaidSub
import Derived.Lay
namespace Go.Proofs.YtcanabbjliloeaaDoor
open Go.ChangeShapes Go.WideShapes Go.ChangeAt Go.RowKit Go.Deep
open Go.ChangeMaps (open_string shut_string)
set_option linter.unusedVariables false

theorem gC : Tryd.prog.globalNamed "moniker/tree.names" = some 0 := by kernel_rfl
theorem gCType : (Tryd.prog.globals[0]?).map (·.type) = some 50 := by kernel_rfl
theorem gR : Tryd.prog.globalNamed "moniker/monikerref4.names" = some 1 := by kernel_rfl
theorem gRType : (Tryd.prog.globals[1]?).map (·.type) = some 50 := by kernel_rfl
theorem cellsStr1 : Tryd.prog.cellsOf 9 = 1 := by kernel_rfl
theorem nms_met {W : World} (h : laidMetH Tryd.prog Rows.treeSketchesRow.laid W) : NmsAt nams W := by
  have h1 := h.filter (fun x => x.1 == "moniker/tree.names")
  have e1 : (Rows.treeSketchesRow.laid.filter fun x => x.1 == "moniker/tree.names") = [("moniker/tree.names", .agg (nams.map fun x => .lit (.string x)))] := by kernel_rfl
  rw [e1] at h1
  have h2 := h.filter (fun x => x.1 == "moniker/monikerref4.names")
  have e2 : (Rows.treeSketchesRow.laid.filter fun x => x.1 == "moniker/monikerref4.names") = [("moniker/monikerref4.names", .agg (nams.map fun x => .lit (.string x)))] := by kernel_rfl
  rw [e2] at h2
  have r1 := Lib.laidMet.reads (show laidMet Tryd.prog _ W from h1) (List.mem_cons_self ..)
  have r2 := Lib.laidMet.reads (show laidMet Tryd.prog _ W from h2) (List.mem_cons_self ..)
  exact ⟨strTab_of_reads gC gCType Tryd.underlying50 Tryd.underlying9 cellsStr1 r1, strTab_of_reads gR gRType Tryd.underlying50 Tryd.underlying9 cellsStr1 r2⟩
noncomputable def treeSketches_world (os : Os) : World := World.laidAll Tryd.prog os Rows.treeSketchesRow.laid
theorem treeSketches_laid (os : Os) : laidMet Tryd.prog Rows.treeSketchesRow.laid ((treeSketches_world os).forCall (fun _ _ => 0) ⟨#[], #[.agg #[.string .empty, .slice none 0 0, .slice none 0 0]], []⟩).memory :=
  laidMet_laidAll _ (by kernel_rfl) (by kernel_rfl)
theorem treeSketches_reads (os : Os) {H : Type} (enc : TypeId × Value → H) : ∃ places, DataW.whole enc Tryd.prog ((treeSketches_world os).forCall (fun _ _ => 0) ⟨#[], #[.agg #[.string .empty, .slice none 0 0, .slice none 0 0]], []⟩).memory Tryd.f3.params.toList (OpenSpec.ofChange Rows.treeSketchesSpec).vars false (#[.agg #[.string .empty, .slice none 0 0, .slice none 0 0]] : Array Value).toList 8 = some ([.agg [.lit (.string []), .nil, .agg [.nil]]], [], places) :=
  ⟨[], by kernel_rfl⟩

set_option maxRecDepth 100000 in
theorem treeSketches_lifted (os : Os) (started : os.Started) (H : Type) (enc : TypeId × Value → H) (F : Stop.Interp) :
    ReturnsInHanded {} Tryd.checked os 3 .any ((OpenSpec.ofChange Rows.treeSketchesSpec).preRow enc Tryd.prog Tryd.f3 Rows.treeSketchesRow.domain false Rows.treeSketchesRow.laid) (((OpenSpec.ofChange Rows.treeSketchesSpec).at F).post enc Tryd.prog Tryd.f3 false true false false) := by
  obtain ⟨places, hx⟩ := treeSketches_reads os enc
  refine returnsInHanded_of_row (C := Tryd.checked) (s := OpenSpec.ofChange Rows.treeSketchesSpec) own started (by kernel_rfl) Tryd.func3
    (witness_row_at (enc := enc) (C := Tryd.checked) false (treeSketches_world os) #[.agg #[.string .empty, .slice none 0 0, .slice none 0 0]] (World.laidAll_os _ _ _) (by kernel_rfl) (by kernel_rfl) (by kernel_rfl)
      (OpenSpec.preRow_of_cond 8 hx (by kernel_rfl) (fun k hk => by cases hk) (by kernel_rfl) (treeSketches_laid os))) ?_
  intro W base args ds gs before hval0 hW hcnd hk0 hsz0 hL _ _
  have hval : ∀ (j : Nat) t v, Tryd.f3.params[j]? = some t → args[j]? = some v → Value.okWide Tryd.prog W .any base t v := hval0
  have hsz : (DataW.weightsEach Tryd.prog (Tryd.f3.params.toList ++ (OpenSpec.ofChange Rows.treeSketchesSpec).bare.plain.varTypes Tryd.prog) (ds ++ gs)).all (· ≤ reachBytes) = true := hsz0
  have hW' := hW
  obtain ⟨p, q, hA0, hV, rfl, hfz, hnd⟩ := hW
  have hA : DataW.TrodAll enc Tryd.prog W 0 (fun _ => true) true Tryd.f3.params.toList args.toList ds p := hA0
  rw [Tryd.params3] at hA hval hsz
  obtain ⟨v0, vs0, d0, ds0, p0, q0, hargs, rfl, rfl, h0, r0⟩ := trodAll_cons hA
  obtain ⟨rfl, rfl, rfl⟩ := trodAll_nil r0
  obtain rfl : args = #[v0] := by cases args; simp_all
  obtain ⟨rfl, rfl⟩ := trodVars_none hV
  have k0 := h0
  have lt0 : ∀ x ∈ p0, x.block < W.heap.size := by obtain ⟨m, hm⟩ := k0; exact DataW.trod_lt m _ _ _ hm
  obtain ⟨s0, a0, b0, ca0, cb0, ts0, ns0, da0, db0, rfl, rfl, fin0⟩ := open_forest (hval 0 27 v0 rfl rfl) h0
  have sz0 := fin0.sizes hsz (j := 0) rfl rfl
  clear hA0 hval0
  refine (treeSketches_walk s0 a0 b0 ca0 cb0 ts0 ns0 W fin0.l1 fin0.l2 fin0.n1 fin0.n2 sz0.2.1 sz0.2.2 sz0.1 fin0.f1 fin0.f2 (nms_met hL)).mono fun e W' ⟨he, bel⟩ => ?_
  subst he
  exact ⟨_, rfl, _, _, _, [], _, [], hW', trodAll_mk1 (shut_bool Tryd.underlying4 _), (trodAll_cons_mk (Below.trod laidOut (by kernel_rfl) (of_decide_eq_true (by kernel_rfl)) k0 bel lt0) trodAll_mk0), rfl, bel.frame _, fun h => by cases h⟩

theorem treeSketches_said : Rows.TreeSketchesSaid :=
  OpenClaim.holds_of_cond 3 Tryd.f3 rfl rfl rfl rfl rfl rfl rfl ⟨rfl, rfl, rfl, rfl, rfl⟩ rfl rfl rfl rfl rfl (by kernel_rfl) Tryd.func3 (by kernel_rfl)
    (of_decide_eq_true (by kernel_rfl)) (by unfold Func.isWrapper; first | (rw [if_pos (by decide +kernel)]; kernel_rfl) | (rw [if_neg (by decide +kernel)]; exact ⟨rfl, rfl⟩))
    (fun os started H enc _ F => by rw [OpenClaim.pre_eq_preRow]; exact treeSketches_lifted os started H enc F)

theorem treeSketches_holds : Rows.TreeSketchesCardSaid :=
  Claim7.holds_tied_plain_at .later [] _ _ _ _ treeSketches_said (fun _ h => by cases h) (by kernel_rfl) (fun _ h => by cases h) treeSketches_row_tie rfl ⟨rfl, rfl⟩ (by kernel_rfl) rfl
    (fun f fn hf hfn => by
      obtain rfl : f = 3 := Option.some.inj ((show Tryd.prog.funcNamed "moniker/monikerlaw4.TreeSketches" = some 3 by kernel_rfl).symm.trans hf) |>.symm
      obtain rfl : fn = Tryd.f3 := (Option.some.inj (Tryd.func3.symm.trans hfn)).symm
      refine ⟨by kernel_rfl, fun j t ht => ?_⟩
      rw [Tryd.params3] at ht
      have hm := Array.mem_of_getElem? ht
      have key : (Tryd.f3.params.toList.all fun t => !Tryd.prog.wantsStandIn t) = true := by kernel_rfl
      rw [Tryd.params3] at key
      have := List.all_eq_true.1 key t (by simpa using hm)
      show Tryd.prog.wantsStandIn t = false
      simpa using this)
    (by kernel_rfl)
end Go.Proofs.YtcanabbjliloeaaDoor
