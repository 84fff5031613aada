import Derived.Test.YthmcdoakfmlecaaGreatDoorUnZ
import Derived.Test.YthmcdoakfmlecaaGreatDoorCards
import Derived.Test.YthmcdoakfmlecaaGreatDoorTie
import Derived.Deep.DeepHandedRow
import Derived.Deep.DeepWitnessRowRef
import Derived.Lib.SmallJoins
import Derived.Lib.LaidTab
import Derived.LaidSub
import Derived.Lay
namespace Go.Proofs.YthmcdoakfmlecaaGreatDoor
open Go.ChangeShapes Go.WideShapes Go.ChangeAt Go.RowKit Go.Deep
open Go.ChangeMaps (open_string shut_string)
set_option linter.unusedVariables false

set_option maxRecDepth 100000 in
theorem open_place {H : Type} {enc : TypeId × Value → H} {w : World} {r : Reach} {b0 : Nat} {v : Value} {d : DataW H} {p : List MemPlace} (hv : Value.okWide Tryz.prog w r b0 23 v) (h : DataW.Trod enc Tryz.prog w 0 (fun _ => true) true 23 v d p) :
    ∃ i j : Int, v = .agg #[.int .i64 i, .int .i64 j] := by
  obtain ⟨v0, v1, y0, y1, n, rfl, rfl, _, g0, g1⟩ := Joins.open_agg2 Tryz.underlying23 (by kernel_rfl) (by kernel_rfl) hv h
  obtain ⟨i, e0, rfl, w0⟩ := DataW.trod_int Tryz.underlying3 g0
  obtain ⟨j, e1, rfl, w1⟩ := DataW.trod_int Tryz.underlying3 g1
  simp at e0 e1
  subst e0 e1
  exact ⟨i, j, rfl⟩

theorem gU : Tryz.prog.globalNamed "moniker/scope.universe" = some 0 := by kernel_rfl
theorem gUType : (Tryz.prog.globals[0]?).map (·.type) = some 38 := by kernel_rfl
theorem gT : Tryz.prog.globalNamed "moniker/monikerref9.universe" = some 1 := by kernel_rfl
theorem gTType : (Tryz.prog.globals[1]?).map (·.type) = some 39 := by kernel_rfl
theorem uni_met {W : World} (h : laidMetH Tryz.prog Rows.scopeUniverseRow.laid W) : ∃ a cap, UniAt W a cap := by
  have h1 := h.filter (fun x => x.1 == "moniker/scope.universe")
  have e1 : (Rows.scopeUniverseRow.laid.filter fun x => x.1 == "moniker/scope.universe") = [("moniker/scope.universe", .slice (uni.map fun x => .lit (.string x)) [])] := by kernel_rfl
  rw [e1] at h1
  have h2 := h.filter (fun x => x.1 == "moniker/monikerref9.universe")
  have e2 : (Rows.scopeUniverseRow.laid.filter fun x => x.1 == "moniker/monikerref9.universe") = [("moniker/monikerref9.universe", .agg (uni.map fun x => .lit (.string x)))] := by kernel_rfl
  rw [e2] at h2
  have r1 := Lib.laidMet.reads (show laidMet Tryz.prog _ W from h1) (List.mem_cons_self ..)
  have r2 := Lib.laidMet.reads (show laidMet Tryz.prog _ W from h2) (List.mem_cons_self ..)
  obtain ⟨a, cap, k1, k2⟩ := strSlice_of_reads gU gUType Tryz.underlying38 Tryz.underlying9 cellsStr r1
  exact ⟨a, cap, k1, k2, strTab_of_reads gT gTType Tryz.underlying39 Tryz.underlying9 cellsStr r2⟩
noncomputable def scopeUniverse_world (os : Os) : World := World.laidAll Tryz.prog os Rows.scopeUniverseRow.laid
theorem scopeUniverse_laid (os : Os) : laidMet Tryz.prog Rows.scopeUniverseRow.laid ((scopeUniverse_world os).forCall (fun _ _ => 0) ⟨#[], #[.string .empty, .agg #[.int .i64 0, .int .i64 0]], []⟩).memory :=
  laidMet_laidAll _ (by kernel_rfl) (by kernel_rfl)
theorem scopeUniverse_reads (os : Os) {H : Type} (enc : TypeId × Value → H) : ∃ places, DataW.whole enc Tryz.prog ((scopeUniverse_world os).forCall (fun _ _ => 0) ⟨#[], #[.string .empty, .agg #[.int .i64 0, .int .i64 0]], []⟩).memory Tryz.f3.params.toList (OpenSpec.ofChange Rows.scopeUniverseSpec).vars false (#[.string .empty, .agg #[.int .i64 0, .int .i64 0]] : Array Value).toList 8 = some ([.lit (.string []), .agg [.lit (.int .i64 0), .lit (.int .i64 0)]], [], places) :=
  ⟨[], by kernel_rfl⟩

set_option maxRecDepth 100000 in
theorem scopeUniverse_lifted (os : Os) (started : os.Started) (H : Type) (enc : TypeId × Value → H) (F : Stop.Interp) :
    ReturnsInHanded {} Tryz.checked os 3 .any ((OpenSpec.ofChange Rows.scopeUniverseSpec).preRow enc Tryz.prog Tryz.f3 Rows.scopeUniverseRow.domain false Rows.scopeUniverseRow.laid) (((OpenSpec.ofChange Rows.scopeUniverseSpec).at F).post enc Tryz.prog Tryz.f3 false true false false) := by
  obtain ⟨places, hx⟩ := scopeUniverse_reads os enc
  refine returnsInHanded_of_row (C := Tryz.checked) (s := OpenSpec.ofChange Rows.scopeUniverseSpec) own started (by kernel_rfl) Tryz.func3
    (witness_row_atRef (enc := enc) (C := Tryz.checked) false (scopeUniverse_world os) #[.string .empty, .agg #[.int .i64 0, .int .i64 0]] (World.laidAll_os _ _ _) (by kernel_rfl) (by kernel_rfl) (by kernel_rfl)
      (OpenSpec.preRow_of_cond 8 hx (by kernel_rfl) (fun k hk => by cases hk) (by kernel_rfl) (scopeUniverse_laid os))) ?_
  intro W base args ds gs before hval0 hW hcnd hk0 hsz0 hL _ _
  have hval : ∀ (j : Nat) t v, Tryz.f3.params[j]? = some t → args[j]? = some v → Value.okWide Tryz.prog W .any base t v := hval0
  have hW' := hW
  obtain ⟨p, q, hA0, hV, rfl, hfz, hnd⟩ := hW
  have hA : DataW.TrodAll enc Tryz.prog W 0 (fun _ => true) true Tryz.f3.params.toList args.toList ds p := hA0
  rw [Tryz.params3] at hA hval
  obtain ⟨v0, vs0, d0, ds0, p0, q0, hargs, rfl, rfl, h0, r0⟩ := trodAll_cons hA
  obtain ⟨v1, vs1, d1, ds1, p1, q1, rfl, rfl, rfl, h1, r1⟩ := trodAll_cons r0
  obtain ⟨rfl, rfl, rfl⟩ := trodAll_nil r1
  obtain rfl : args = #[v0, v1] := by cases args; simp_all
  obtain ⟨rfl, rfl⟩ := trodVars_none hV
  have k1 := h1
  have lt1 : ∀ x ∈ p1, x.block < W.heap.size := by obtain ⟨m, hm⟩ := k1; exact DataW.trod_lt m _ _ _ hm
  obtain ⟨i1, j1, rfl⟩ := open_place (hval 1 23 v1 rfl rfl) h1
  obtain ⟨s0, rfl, rfl, rfl, hm0⟩ := open_string Tryz.underlying9 (hval 0 9 v0 rfl rfl) h0
  obtain ⟨a, cap, hU⟩ := uni_met hL
  clear hA0 hval0
  refine (scopeUniverse_walk s0 i1 j1 a cap W hU).mono fun e W' ⟨he, bel⟩ => ?_
  subst he
  exact ⟨_, rfl, _, _, _, [], _, [], hW', trodAll_mk1 (shut_bool Tryz.underlying4 _), (trodAll_cons_mk (shut_string Tryz.underlying9 hm0) (trodAll_cons_mk (Below.trod laidOut (by kernel_rfl) (of_decide_eq_true (by kernel_rfl)) k1 bel lt1) trodAll_mk0)), rfl, bel.frame _, fun h => by cases h⟩

theorem scopeUniverse_said : Rows.ScopeUniverseSaid :=
  OpenClaim.holds_of_cond 3 Tryz.f3 rfl rfl rfl rfl rfl rfl rfl ⟨rfl, rfl, rfl, rfl, rfl⟩ rfl rfl rfl rfl rfl (by kernel_rfl) Tryz.func3 (by kernel_rfl)
    (of_decide_eq_true (by kernel_rfl)) (by unfold Func.isWrapper; first | (rw [if_pos (by decide +kernel)]; kernel_rfl) | (rw [if_neg (by decide +kernel)]; exact ⟨rfl, rfl⟩))
    (fun os started H enc _ F => by rw [OpenClaim.pre_eq_preRow]; exact scopeUniverse_lifted os started H enc F)

theorem scopeUniverse_holds : Rows.ScopeUniverseCardSaid :=
  Claim7.holds_tied_plain_at .later [] _ _ _ _ scopeUniverse_said (fun _ h => by cases h) (by kernel_rfl) (fun _ h => by cases h) scopeUniverse_row_tie rfl ⟨rfl, rfl⟩ (by kernel_rfl) rfl
    (fun f fn hf hfn => by
      obtain rfl : f = 3 := Option.some.inj ((show Tryz.prog.funcNamed "moniker/monikerlaw9.ScopeUniverse" = some 3 by kernel_rfl).symm.trans hf) |>.symm
      obtain rfl : fn = Tryz.f3 := (Option.some.inj (Tryz.func3.symm.trans hfn)).symm
      refine ⟨by kernel_rfl, fun j t ht => ?_⟩
      rw [Tryz.params3] at ht
      have hm := Array.mem_of_getElem? ht
      have key : (Tryz.f3.params.toList.all fun t => !Tryz.prog.wantsStandIn t) = true := by kernel_rfl
      rw [Tryz.params3] at key
      have := List.all_eq_true.1 key t (by simpa using hm)
      show Tryz.prog.wantsStandIn t = false
      simpa using this)
    (by kernel_rfl)
end Go.Proofs.YthmcdoakfmlecaaGreatDoor
