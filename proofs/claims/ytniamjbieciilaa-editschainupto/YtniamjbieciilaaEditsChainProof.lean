import Derived.Test.YtniamjbieciilaaChainW2
import Derived.Test.YtniamjbieciilaaOpen
import Derived.Deep.CondSized
namespace Go.Proofs.Ytniamjbieciilaa
open Go.ChangeShapes Go.WideShapes Go.ChangeAt Go.RowKit Go.Deep
open Go.ChangeMaps (open_string shut_string)
set_option linter.unusedVariables false

set_option maxRecDepth 100000 in
theorem editsChain_lifted (os : Os) (started : os.Started) (H : Type) (enc : TypeId × Value → H) (F : Stop.Interp) :
    ReturnsInHanded {} Try.checked os 4 .any ((Rows.OpenSpec.upto Rows.editsChainSpec).pre6 enc Try.prog Try.f4 Rows.editsChainUptoRow.domain false) (((Rows.OpenSpec.upto Rows.editsChainSpec).at F).post enc Try.prog Try.f4 false true false false) := by
  refine returnsInHanded_of_cond_sized (C := Try.checked) (s := Rows.OpenSpec.upto Rows.editsChainSpec) (k := Rows.uptoSmall) rfl own started (by kernel_rfl) Try.func4
    (OpenSpec.witness (enc := enc) (C := Try.checked) (s := Rows.OpenSpec.upto Rows.editsChainSpec) (k := Rows.uptoSmall) rfl false ⟨#[], #[.string .empty, .slice none 0 0, .slice none 0 0, .slice none 0 0], []⟩ 8 (by kernel_rfl) (by kernel_rfl) (by kernel_rfl)
      (x := ([.lit (.string []), .nil, .nil, .nil], [], [])) (by kernel_rfl) rfl (by kernel_rfl)) ?_
  intro W base args ds gs before hval0 hW hcnd hk hsz0 _
  have hval : ∀ (j : Nat) t v, Try.f4.params[j]? = some t → args[j]? = some v → Value.okWide Try.prog W .any base t v := hval0
  have hsz : (DataW.weightsEach Try.prog (Try.f4.params.toList ++ (Rows.OpenSpec.upto Rows.editsChainSpec).bare.plain.varTypes Try.prog) (ds ++ gs)).all (· ≤ reachBytes) = true := hsz0
  have hW' := hW
  obtain ⟨p, q, hA0, hV, rfl, hfz, hnd⟩ := hW
  have hA : DataW.TrodAll enc Try.prog W 0 (fun _ => true) true Try.f4.params.toList args.toList ds p := hA0
  rw [Try.params4] at hA hval hsz
  obtain ⟨v0, vs0, d0, ds0, p0, q0, hargs, rfl, rfl, h0, r0⟩ := trodAll_cons hA
  obtain ⟨v1, vs1, d1, ds1, p1, q1, rfl, rfl, rfl, h1, r1⟩ := trodAll_cons r0
  obtain ⟨v2, vs2, d2, ds2, p2, q2, rfl, rfl, rfl, h2, r2⟩ := trodAll_cons r1
  obtain ⟨v3, vs3, d3, ds3, p3, q3, rfl, rfl, rfl, h3, r3⟩ := trodAll_cons r2
  obtain ⟨rfl, rfl, rfl⟩ := trodAll_nil r3
  obtain rfl : args = #[v0, v1, v2, v3] := by cases args; simp_all
  obtain ⟨rfl, rfl⟩ := trodVars_none hV
  obtain ⟨a1, len1, cap1, rfl⟩ := okWide_slice Try.underlying22 (hval 1 22 v1 rfl rfl)
  have k1 := h1
  have lt1 : ∀ x ∈ p1, x.block < W.heap.size := by obtain ⟨m, hm⟩ := k1; exact DataW.trod_lt m _ _ _ hm
  obtain ⟨fuel1, hf1⟩ := h1
  obtain ⟨xs1, rfl, hE1, hG1, hN1, hD1, hC1⟩ := open_edits hf1
  simp only at hD1
  have hF1 := fit_of hsz (j := 1) rfl rfl hD1 hG1
  obtain ⟨a2, len2, cap2, rfl⟩ := okWide_slice Try.underlying22 (hval 2 22 v2 rfl rfl)
  have k2 := h2
  have lt2 : ∀ x ∈ p2, x.block < W.heap.size := by obtain ⟨m, hm⟩ := k2; exact DataW.trod_lt m _ _ _ hm
  obtain ⟨fuel2, hf2⟩ := h2
  obtain ⟨xs2, rfl, hE2, hG2, hN2, hD2, hC2⟩ := open_edits hf2
  simp only at hD2
  have hF2 := fit_of hsz (j := 2) rfl rfl hD2 hG2
  obtain ⟨a3, len3, cap3, rfl⟩ := okWide_slice Try.underlying22 (hval 3 22 v3 rfl rfl)
  have k3 := h3
  have lt3 : ∀ x ∈ p3, x.block < W.heap.size := by obtain ⟨m, hm⟩ := k3; exact DataW.trod_lt m _ _ _ hm
  obtain ⟨fuel3, hf3⟩ := h3
  obtain ⟨xs3, rfl, hE3, hG3, hN3, hD3, hC3⟩ := open_edits hf3
  simp only at hD3
  have hF3 := fit_of hsz (j := 3) rfl rfl hD3 hG3
  obtain ⟨s0, rfl, rfl, rfl, hm0⟩ := open_string Try.underlying9 (hval 0 9 v0 rfl rfl) h0
  have hs0 : s0.size ≤ 140737488351232 := by
    have := sized_string hsz (j := 0) (t := 9) rfl rfl
    have e : s0.data.toList.length = s0.size := by rw [Array.length_toList]; rfl
    simp only [reachBytes] at this
    omega
  have hl1 : xs1.length * 32 ≤ 140737488351232 := by
    rcases hD1 with ⟨_, rfl⟩ | ⟨sp, hd⟩
    · simp
    · have := sized_slice hsz (j := 1) (t := 22) (e := 33) rfl (by rw [hd]; rfl) Try.underlying22
      rw [bytesEd] at this
      simp only [List.length_map, reachBytes] at this
      omega
  have hl2 : xs2.length * 32 ≤ 140737488351232 := by
    rcases hD2 with ⟨_, rfl⟩ | ⟨sp, hd⟩
    · simp
    · have := sized_slice hsz (j := 2) (t := 22) (e := 33) rfl (by rw [hd]; rfl) Try.underlying22
      rw [bytesEd] at this
      simp only [List.length_map, reachBytes] at this
      omega
  have hl3 : xs3.length * 32 ≤ 140737488351232 := by
    rcases hD3 with ⟨_, rfl⟩ | ⟨sp, hd⟩
    · simp
    · have := sized_slice hsz (j := 3) (t := 22) (e := 33) rfl (by rw [hd]; rfl) Try.underlying22
      rw [bytesEd] at this
      simp only [List.length_map, reachBytes] at this
      omega
  have hB : s0.size + (4 * xs1.length + tot xs1) + (4 * xs2.length + tot xs2) + (4 * xs3.length + tot xs3) ≤ 1048576 := by
    have h := small_of hk
    simp only [List.append_nil, Rows.uptoBulkAll] at h
    have e0 := bulk_string (H := H) s0
    have e1 := bulk_edits hD1
    have e2 := bulk_edits hD2
    have e3 := bulk_edits hD3
    omega
  clear hA0 hval0
  refine (editsChain_walk s0 a1 cap1 xs1 a2 cap2 xs2 a3 cap3 xs3 W hs0 hE1 hF1 hN1 hl1 hC1 hE2 hF2 hN2 hl2 hC2 hE3 hF3 hN3 hl3 hC3 hB).mono fun e W' ⟨he, bel⟩ => ?_
  subst he
  exact ⟨_, rfl, _, _, _, [], _, [], hW', trodAll_mk1 (shut_bool Try.underlying4 _), (trodAll_cons_mk (shut_string Try.underlying9 hm0) (trodAll_cons_mk (Below.trod laidOut (by kernel_rfl) (of_decide_eq_true (by kernel_rfl)) k1 bel lt1) (trodAll_cons_mk (Below.trod laidOut (by kernel_rfl) (of_decide_eq_true (by kernel_rfl)) k2 bel lt2) (trodAll_cons_mk (Below.trod laidOut (by kernel_rfl) (of_decide_eq_true (by kernel_rfl)) k3 bel lt3) trodAll_mk0)))), rfl, bel.frame _, fun h => by cases h⟩

theorem editsChain_holds : Rows.EditsChainUptoSaid :=
  OpenClaim.holds_of_cond 4 Try.f4 rfl rfl rfl rfl rfl rfl rfl ⟨rfl, rfl, rfl, rfl, rfl⟩ rfl rfl rfl rfl rfl (by kernel_rfl) Try.func4 (by kernel_rfl)
    (of_decide_eq_true (by kernel_rfl)) (by unfold Func.isWrapper; first | (rw [if_pos (by decide +kernel)]; kernel_rfl) | (rw [if_neg (by decide +kernel)]; exact ⟨rfl, rfl⟩))
    (fun os started H enc _ F => editsChain_lifted os started H enc F)
end Go.Proofs.Ytniamjbieciilaa
