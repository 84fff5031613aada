import Derived.Test.YtniamjbieciilaaComposesW2
import Derived.Test.YtniamjbieciilaaOpen
import Derived.Deep.CondSized
namespace Go.Proofs.Ytniamjbieciilaa
open Go.ChangeShapes Go.WideShapes Go.ChangeAt Go.RowKit Go.Deep
open Go.ChangeMaps (open_string shut_string)
set_option linter.unusedVariables false

set_option maxRecDepth 100000 in
theorem editsComposes_lifted (os : Os) (started : os.Started) (H : Type) (enc : TypeId × Value → H) (F : Stop.Interp) :
    ReturnsInHanded {} Try.checked os 7 .any ((Rows.OpenSpec.upto Rows.editsComposesSpec).pre6 enc Try.prog Try.f7 Rows.editsComposesUptoRow.domain false) (((Rows.OpenSpec.upto Rows.editsComposesSpec).at F).post enc Try.prog Try.f7 false true false false) := by
  refine returnsInHanded_of_cond_sized (C := Try.checked) (s := Rows.OpenSpec.upto Rows.editsComposesSpec) (k := Rows.uptoSmall) rfl own started (by kernel_rfl) Try.func7
    (OpenSpec.witness (enc := enc) (C := Try.checked) (s := Rows.OpenSpec.upto Rows.editsComposesSpec) (k := Rows.uptoSmall) rfl false ⟨#[], #[.int .i64 0, .slice none 0 0, .slice none 0 0], []⟩ 8 (by kernel_rfl) (by kernel_rfl) (by kernel_rfl)
      (x := ([.lit (.int .i64 0), .nil, .nil], [], [])) (by kernel_rfl) rfl (by kernel_rfl)) ?_
  intro W base args ds gs before hval0 hW hcnd hk hsz0 _
  have hval : ∀ (j : Nat) t v, Try.f7.params[j]? = some t → args[j]? = some v → Value.okWide Try.prog W .any base t v := hval0
  have hsz : (DataW.weightsEach Try.prog (Try.f7.params.toList ++ (Rows.OpenSpec.upto Rows.editsComposesSpec).bare.plain.varTypes Try.prog) (ds ++ gs)).all (· ≤ reachBytes) = true := hsz0
  have hW' := hW
  obtain ⟨p, q, hA0, hV, rfl, hfz, hnd⟩ := hW
  have hA : DataW.TrodAll enc Try.prog W 0 (fun _ => true) true Try.f7.params.toList args.toList ds p := hA0
  rw [Try.params7] at hA hval hsz
  obtain ⟨v0, vs0, d0, ds0, p0, q0, hargs, rfl, rfl, h0, r0⟩ := trodAll_cons hA
  obtain ⟨v1, vs1, d1, ds1, p1, q1, rfl, rfl, rfl, h1, r1⟩ := trodAll_cons r0
  obtain ⟨v2, vs2, d2, ds2, p2, q2, rfl, rfl, rfl, h2, r2⟩ := trodAll_cons r1
  obtain ⟨rfl, rfl, rfl⟩ := trodAll_nil r2
  obtain rfl : args = #[v0, v1, v2] := by cases args; simp_all
  obtain ⟨rfl, rfl⟩ := trodVars_none hV
  obtain ⟨a1, len1, cap1, rfl⟩ := okWide_slice Try.underlying22 (hval 1 22 v1 rfl rfl)
  have k1 := h1
  have lt1 : ∀ x ∈ p1, x.block < W.heap.size := by obtain ⟨m, hm⟩ := k1; exact DataW.trod_lt m _ _ _ hm
  obtain ⟨fuel1, hf1⟩ := h1
  obtain ⟨xs1, rfl, hE1, hG1, hN1, hD1, hC1⟩ := open_edits hf1
  simp only at hD1
  have hF1 := fit_of hsz (j := 1) rfl rfl hD1 hG1
  obtain ⟨a2, len2, cap2, rfl⟩ := okWide_slice Try.underlying22 (hval 2 22 v2 rfl rfl)
  have k2 := h2
  have lt2 : ∀ x ∈ p2, x.block < W.heap.size := by obtain ⟨m, hm⟩ := k2; exact DataW.trod_lt m _ _ _ hm
  obtain ⟨fuel2, hf2⟩ := h2
  obtain ⟨xs2, rfl, hE2, hG2, hN2, hD2, hC2⟩ := open_edits hf2
  simp only at hD2
  have hF2 := fit_of hsz (j := 2) rfl rfl hD2 hG2
  obtain ⟨n0, rfl, rfl, rfl, ws0⟩ := open_int Try.underlying3 (hval 0 3 v0 rfl rfl) h0
  have bs0 := bounds_i64 ws0
  have hl1 : xs1.length * 32 ≤ 140737488351232 := by
    rcases hD1 with ⟨_, rfl⟩ | ⟨sp, hd⟩
    · simp
    · have := sized_slice hsz (j := 1) (t := 22) (e := 33) rfl (by rw [hd]; rfl) Try.underlying22
      rw [bytesEd] at this
      simp only [List.length_map, reachBytes] at this
      omega
  have hl2 : xs2.length * 32 ≤ 140737488351232 := by
    rcases hD2 with ⟨_, rfl⟩ | ⟨sp, hd⟩
    · simp
    · have := sized_slice hsz (j := 2) (t := 22) (e := 33) rfl (by rw [hd]; rfl) Try.underlying22
      rw [bytesEd] at this
      simp only [List.length_map, reachBytes] at this
      omega
  have hB : (4 * xs1.length + tot xs1) + (4 * xs2.length + tot xs2) ≤ 1048576 := by
    have h := small_of hk
    simp only [List.append_nil, Rows.uptoBulkAll] at h
    have e1 := bulk_edits hD1
    have e2 := bulk_edits hD2
    omega
  clear hA0 hval0
  refine (editsComposes_walk n0 a1 cap1 xs1 a2 cap2 xs2 W bs0.1 bs0.2 hE1 hF1 hN1 hl1 hE2 hF2 hN2 hl2 hB).mono fun e W' ⟨he, bel⟩ => ?_
  subst he
  exact ⟨_, rfl, _, _, _, [], _, [], hW', trodAll_mk1 (shut_bool Try.underlying4 _), (trodAll_cons_mk (shut_int Try.underlying3 ws0) (trodAll_cons_mk (Below.trod laidOut (by kernel_rfl) (of_decide_eq_true (by kernel_rfl)) k1 bel lt1) (trodAll_cons_mk (Below.trod laidOut (by kernel_rfl) (of_decide_eq_true (by kernel_rfl)) k2 bel lt2) trodAll_mk0))), rfl, bel.frame _, fun h => by cases h⟩

theorem editsComposes_holds : Rows.EditsComposesUptoSaid :=
  OpenClaim.holds_of_cond 7 Try.f7 rfl rfl rfl rfl rfl rfl rfl ⟨rfl, rfl, rfl, rfl, rfl⟩ rfl rfl rfl rfl rfl (by kernel_rfl) Try.func7 (by kernel_rfl)
    (of_decide_eq_true (by kernel_rfl)) (by unfold Func.isWrapper; first | (rw [if_pos (by decide +kernel)]; kernel_rfl) | (rw [if_neg (by decide +kernel)]; exact ⟨rfl, rfl⟩))
    (fun os started H enc _ F => editsComposes_lifted os started H enc F)
end Go.Proofs.Ytniamjbieciilaa
