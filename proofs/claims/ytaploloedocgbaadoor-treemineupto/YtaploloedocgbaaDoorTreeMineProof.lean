import Derived.Test.YtaploloedocgbaaDoorMineW
import Derived.Test.YtaploloedocgbaaDoorRdb
import Derived.Test.YtaploloedocgbaaDoorOpn
import Derived.Test.YtaploloedocgbaaDoorCards
import Derived.Test.YtaploloedocgbaaDoorTie
import Derived.Deep.DeepHandedRow
import Derived.Lib.LaidTab
import Derived.LaidSub
import Derived.Lay
namespace Go.Proofs.YtaploloedocgbaaDoor
open Go.ChangeShapes Go.WideShapes Go.ChangeAt Go.RowKit Go.Deep
open Go.ChangeMaps (open_string shut_string)
set_option linter.unusedVariables false

theorem bulk_string {H : Type} (s : ByteArray) : s.size ≤ Rows.uptoBulk (H := H) (.lit (.string s.data.toList)) := by
  have e2 : s.data.toList.length = s.size := by rw [Array.length_toList]; rfl
  rw [Rows.uptoBulk, e2]; omega
theorem gC : Tryd.prog.globalNamed "moniker/tree.names" = some 0 := by kernel_rfl
theorem gCType : (Tryd.prog.globals[0]?).map (·.type) = some 81 := by kernel_rfl
theorem gR : Tryd.prog.globalNamed "moniker/monikerref4.names" = some 1 := by kernel_rfl
theorem gRType : (Tryd.prog.globals[1]?).map (·.type) = some 81 := by kernel_rfl
theorem cellsStr1 : Tryd.prog.cellsOf 9 = 1 := by kernel_rfl
theorem cellsNames : Tryd.prog.cellsOf 81 = nams.length := by kernel_rfl
theorem nms_met {W : World} (h : laidMetH Tryd.prog Rows.treeMineUptoRow.laid W) : NmsAt nams W ∧ ∃ t0 fr, W.heap[0]? = some (.cells (nmA nams) t0 fr) := by
  have h1 := h.filter (fun x => x.1 == "moniker/tree.names")
  have e1 : (Rows.treeMineUptoRow.laid.filter fun x => x.1 == "moniker/tree.names") = [("moniker/tree.names", .agg (nams.map fun x => .lit (.string x)))] := by kernel_rfl
  rw [e1] at h1
  have h2 := h.filter (fun x => x.1 == "moniker/monikerref4.names")
  have e2 : (Rows.treeMineUptoRow.laid.filter fun x => x.1 == "moniker/monikerref4.names") = [("moniker/monikerref4.names", .agg (nams.map fun x => .lit (.string x)))] := by kernel_rfl
  rw [e2] at h2
  have r1 := Lib.laidMet.reads (show laidMet Tryd.prog _ W from h1) (List.mem_cons_self ..)
  have r2 := Lib.laidMet.reads (show laidMet Tryd.prog _ W from h2) (List.mem_cons_self ..)
  refine ⟨⟨strTab_of_reads gC gCType Tryd.underlying81 Tryd.underlying9 cellsStr1 r1, strTab_of_reads gR gRType Tryd.underlying81 Tryd.underlying9 cellsStr1 r2⟩, ?_⟩
  exact strBlock_of_reads gC gCType Tryd.underlying81 Tryd.underlying9 cellsStr1 cellsNames r1
noncomputable def treeMine_world (os : Os) : World := World.laidAll Tryd.prog os Rows.treeMineUptoRow.laid
theorem treeMine_laid (os : Os) : laidMet Tryd.prog Rows.treeMineUptoRow.laid ((treeMine_world os).forCall (fun _ _ => 0) ⟨#[], #[.agg #[.string .empty, .slice none 0 0, .slice none 0 0], .int .i64 0, .string .empty], []⟩).memory :=
  laidMet_laidAll _ (by kernel_rfl) (by kernel_rfl)
theorem treeMine_reads (os : Os) {H : Type} (enc : TypeId × Value → H) : ∃ places, DataW.whole enc Tryd.prog ((treeMine_world os).forCall (fun _ _ => 0) ⟨#[], #[.agg #[.string .empty, .slice none 0 0, .slice none 0 0], .int .i64 0, .string .empty], []⟩).memory Tryd.f3.params.toList (Rows.OpenSpec.upto Rows.treeMineSpec).vars false (#[.agg #[.string .empty, .slice none 0 0, .slice none 0 0], .int .i64 0, .string .empty] : Array Value).toList 8 = some ([.agg [.lit (.string []), .nil, .agg [.nil]], .lit (.int .i64 0), .lit (.string [])], [], places) :=
  ⟨[], by kernel_rfl⟩

set_option maxRecDepth 100000 in
theorem treeMine_lifted (os : Os) (started : os.Started) (H : Type) (enc : TypeId × Value → H) (F : Stop.Interp) :
    ReturnsInHanded {} Tryd.checked os 3 .any ((Rows.OpenSpec.upto Rows.treeMineSpec).preRow enc Tryd.prog Tryd.f3 Rows.treeMineUptoRow.domain false Rows.treeMineUptoRow.laid) (((Rows.OpenSpec.upto Rows.treeMineSpec).at F).post enc Tryd.prog Tryd.f3 false true false false) := by
  obtain ⟨places, hx⟩ := treeMine_reads os enc
  refine returnsInHanded_of_row (C := Tryd.checked) (s := Rows.OpenSpec.upto Rows.treeMineSpec) own started (by kernel_rfl) Tryd.func3
    (witness_row_at (enc := enc) (C := Tryd.checked) false (treeMine_world os) #[.agg #[.string .empty, .slice none 0 0, .slice none 0 0], .int .i64 0, .string .empty] (World.laidAll_os _ _ _) (by kernel_rfl) (by kernel_rfl) (by kernel_rfl)
      (OpenSpec.preRow_of_cond 8 hx (by kernel_rfl) (fun k hk => by cases hk; kernel_rfl) (by kernel_rfl) (treeMine_laid os))) ?_
  intro W base args ds gs before hval0 hW hcnd hk0 hsz0 hL _ _
  have hk : Rows.uptoSmall H (ds ++ gs) = true := hk0 _ rfl
  have hval : ∀ (j : Nat) t v, Tryd.f3.params[j]? = some t → args[j]? = some v → Value.okWide Tryd.prog W .any base t v := hval0
  have hsz : (DataW.weightsEach Tryd.prog (Tryd.f3.params.toList ++ (Rows.OpenSpec.upto Rows.treeMineSpec).bare.plain.varTypes Tryd.prog) (ds ++ gs)).all (· ≤ reachBytes) = true := hsz0
  have hW' := hW
  obtain ⟨p, q, hA0, hV, rfl, hfz, hnd⟩ := hW
  have hA : DataW.TrodAll enc Tryd.prog W 0 (fun _ => true) true Tryd.f3.params.toList args.toList ds p := hA0
  rw [Tryd.params3] at hA hval hsz
  obtain ⟨v0, vs0, d0, ds0, p0, q0, hargs, rfl, rfl, h0, r0⟩ := trodAll_cons hA
  obtain ⟨v1, vs1, d1, ds1, p1, q1, rfl, rfl, rfl, h1, r1⟩ := trodAll_cons r0
  obtain ⟨v2, vs2, d2, ds2, p2, q2, rfl, rfl, rfl, h2, r2⟩ := trodAll_cons r1
  obtain ⟨rfl, rfl, rfl⟩ := trodAll_nil r2
  obtain rfl : args = #[v0, v1, v2] := by cases args; simp_all
  obtain ⟨rfl, rfl⟩ := trodVars_none hV
  have k0 := h0
  have lt0 : ∀ x ∈ p0, x.block < W.heap.size := by obtain ⟨m, hm⟩ := k0; exact DataW.trod_lt m _ _ _ hm
  obtain ⟨s0, a0, b0, ca0, cb0, ts0, ns0, da0, db0, rfl, rfl, fin0⟩ := open_forest (hval 0 27 v0 rfl rfl) h0
  obtain ⟨n1, rfl, rfl, rfl, ws1⟩ := open_int Tryd.underlying3 (hval 1 3 v1 rfl rfl) h1
  have bs1 := bounds_i64 ws1
  obtain ⟨s2, rfl, rfl, rfl, hm2⟩ := open_string Tryd.underlying9 (hval 2 9 v2 rfl rfl) h2
  have hB : s0.size + ts0.length + ns0.length + s2.size ≤ 1048576 := by
    have h := small_of hk
    simp only [List.append_nil, Rows.uptoBulkAll] at h
    have e0 := bulk_forest fin0
    have e2 := bulk_string (H := H) s2
    omega
  clear hA0 hval0
  obtain ⟨hN, t0, fr, hNb⟩ := nms_met hL
  refine (treeMine_walk s0 a0 b0 ca0 cb0 ts0 ns0 n1 s2 W fin0.l1 fin0.l2 fin0.n1 fin0.n2 fin0.f1 fin0.f2 hB bs1.1 bs1.2 hN t0 fr hNb).mono fun e W' ⟨he, bel⟩ => ?_
  subst he
  exact ⟨_, rfl, _, _, _, [], _, [], hW', trodAll_mk1 (shut_bool Tryd.underlying4 _), (trodAll_cons_mk (Below.trod laidOut (by kernel_rfl) (of_decide_eq_true (by kernel_rfl)) k0 bel lt0) (trodAll_cons_mk (shut_int Tryd.underlying3 ws1) (trodAll_cons_mk (shut_string Tryd.underlying9 hm2) trodAll_mk0))), rfl, bel.frame _, fun h => by cases h⟩

theorem treeMine_said : Rows.TreeMineUptoSaid :=
  OpenClaim.holds_of_cond 3 Tryd.f3 rfl rfl rfl rfl rfl rfl rfl ⟨rfl, rfl, rfl, rfl, rfl⟩ rfl rfl rfl rfl rfl (by kernel_rfl) Tryd.func3 (by kernel_rfl)
    (of_decide_eq_true (by kernel_rfl)) (by unfold Func.isWrapper; first | (rw [if_pos (by decide +kernel)]; kernel_rfl) | (rw [if_neg (by decide +kernel)]; exact ⟨rfl, rfl⟩))
    (fun os started H enc _ F => by rw [OpenClaim.pre_eq_preRow]; exact treeMine_lifted os started H enc F)

theorem treeMine_holds : Rows.TreeMineUptoCardSaid :=
  Claim7.holds_tied_plain_at .later [] _ _ _ _ treeMine_said (fun _ h => by cases h) (by kernel_rfl) (fun _ h => by cases h) treeMineUpto_row_tie rfl ⟨rfl, rfl⟩ (by kernel_rfl) rfl
    (fun f fn hf hfn => by
      obtain rfl : f = 3 := Option.some.inj ((show Tryd.prog.funcNamed "moniker/monikerlaw4.TreeMine" = some 3 by kernel_rfl).symm.trans hf) |>.symm
      obtain rfl : fn = Tryd.f3 := (Option.some.inj (Tryd.func3.symm.trans hfn)).symm
      refine ⟨by kernel_rfl, fun j t ht => ?_⟩
      rw [Tryd.params3] at ht
      have hm := Array.mem_of_getElem? ht
      have key : (Tryd.f3.params.toList.all fun t => !Tryd.prog.wantsStandIn t) = true := by kernel_rfl
      rw [Tryd.params3] at key
      have := List.all_eq_true.1 key t (by simpa using hm)
      show Tryd.prog.wantsStandIn t = false
      simpa using this)
    (by kernel_rfl)
end Go.Proofs.YtaploloedocgbaaDoor
