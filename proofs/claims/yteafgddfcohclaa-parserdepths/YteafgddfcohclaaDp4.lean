import Derived.Test.YteafgddfcohclaaDp3
import Derived.Test.YteafgddfcohclaaDp1
import Derived.Test.YteafgddfcohclaaApA
import Derived.Test.YteafgddfcohclaaCls
namespace Go.Proofs.Yteafgddfcohclaa
open Go.ChangeShapes Go.WideShapes Go.ChangeAt Go.RowKit
set_option linter.unusedVariables false

set_option maxRecDepth 1000000 in
set_option maxHeartbeats 1000000 in
theorem copyTree_any (a : Option Addr) (cap : Nat) (ns : List Nd) (w : World) (h : LiesA w a ns) (hn : a = none → ns.length = 0 ∧ cap = 0) (hl : ns.length * 32 ≤ 140737488351232) :
    Calls Try.prog 9 #[.agg #[.slice a ns.length cap]] w fun e w' => ∃ a' c', e = .returned (.agg #[.slice a' ns.length c']) ∧ LiesA w' a' ns ∧ Below w.heap.size w w' := by
  obtain ⟨i1, hj, hy0, hy1, hy2⟩ := info_parts infoNd
  have HL : Hid (LiesA w a ns) := h
  have HN : Hid (a = none → ns.length = 0 ∧ cap = 0) := hn
  obtain ⟨w2, e2, hw, hs2, B0, C0⟩ := bx2 w #[.slice a ns.length cap] #[.slice none 0 0] 24 24
  have HB0 : Hid (Below w.heap.size w w2) := hw
  have HX0 : Hid (Bx w2 w.heap.size #[.slice a ns.length cap] 24) := B0
  have HC0 : Hid (Bx w2 (w.heap.size + 1) #[.slice none 0 0] 24) := C0
  have HS2 : Hid (w2.heap.size = w.heap.size + 2) := hs2
  have HE2 : Hid ((w.alloc (.cells #[.slice a ns.length cap] 24)).alloc (.cells #[.slice none 0 0] 24) = w2) := e2
  have x0 := B0.one
  have hs2' : w.heap.size + 1 < w2.heap.size := by omega
  clear h hn hw hs2 B0 C0 e2
  go_enter Try.func9, Try.ntmps9
  go_upto_region 1 with fail
  rw [HE2.out]
  have hs2a : w.heap.size < w2.heap.size := by omega
  have own0 : (w2.alloc (.cells #[] 44)).ownsRow (w.heap.size + 2) 44 4 (.slice (some ⟨w2.heap.size, 0, none⟩) 0 0) 0 [] :=
    ⟨rfl, .inr ⟨w2.heap.size, 0, #[], rfl, by have := HS2.out; omega, heap_alloc_new w2 _, Nat.le_refl _, by unfold maxLen; omega, rfl, rfl⟩⟩
  have HO0 : Hid ((w2.alloc (.cells #[] 44)).ownsRow (w.heap.size + 2) 44 4 (.slice (some ⟨w2.heap.size, 0, none⟩) 0 0) 0 []) := own0
  clear own0
  go_wp2_with (at_builtin; (refine wpList_append_own_any _ rfl (.tmp 3) (.tmp 5) 22 rfl (w.heap.size + 2) 44 i1 (.agg #[.int .u8 0, .int .i64 0, .int .i64 0, .int .i64 0]) 4 32 Try.underlying22 hj hy0 hy1 hy2 rfl (by decide) _ _ _ rfl HO0.out a ns.length cap (flat ns) rfl (flat_length ns) HN.out ?c1 (flat_oneCell ns) ?c2 ?c3 ?c4 ?_))
  case c1 =>
    intro ad had
    rcases HL.out with h | ⟨b, o, hab, h⟩
    · intro j u hj; rw [h] at hj; simp [flat] at hj
    · rw [hab] at had; cases had
      have hb := HB0.out.alloc HB0.out.size (.cells #[] 44)
      exact (h.below hb h.1).flat
  case c2 => unfold maxLen; omega
  case c3 => omega
  case c4 => simp; omega
  intro v5 w5 hown5 hgrow5
  have hown5' : w5.ownsRow (w.heap.size + 2) 44 4 v5 ns.length (flat ns) := by
    simpa using hown5
  have b5 : Below (w.heap.size + 2) w2 w5 := ((Below.refl _ w2).alloc (by omega) _).grown hgrow5 (by simp; omega) (fun k h => by simp [Value.ownBlock] at h; omega)
  have HB5 : Hid (Below (w.heap.size + 2) w2 w5) := b5
  have HLT5 : Hid (∀ k, v5.ownBlock = some k → w.heap.size + 2 ≤ k ∧ k < w5.heap.size) := hown5'.lt
  obtain ⟨a5, c5, rfl, hli, _, _⟩ := own_form hown5'
  have HL5 : Hid (LiesA w5 a5 ns) := hli
  have r0 := (HC0.out.below b5 (by omega)).one
  have r1 := (HC0.out.below b5 (by omega)).free 0
  have hs5 : w.heap.size + 2 ≤ w5.heap.size := by have := b5.size; omega
  clear hgrow5 hown5 hown5' hli b5 HO0
  go_wp2
  refine bodyPost_ret (v := .agg #[.slice a5 ns.length c5]) (by simp [results, Try.results9, go_sem, r0]) rfl ?_
  refine ⟨a5, ⟨c5, rfl⟩, ?_, ?_⟩
  · rcases HL5.out with h | ⟨b, o, rfl, h⟩
    · exact .inl h
    · refine .inr ⟨b, o, rfl, ?_⟩
      have hb := HLT5.out b rfl
      have hx : Below (w.heap.size + 1) w5 (w5.setCell ⟨w.heap.size + 1, 0, none⟩ (.slice (some ⟨b, o, none⟩) ns.length c5)) := (Below.refl _ w5).setCell (p := ⟨w.heap.size + 1, 0, none⟩) (Nat.le_refl _) _
      refine ⟨by simpa using h.1, fun j u hj => ?_⟩
      have := h.2 j u hj
      rw [← this]
      exact World.cell?_of_block (Below.heap_setCell w5 ⟨w.heap.size + 1, 0, none⟩ _ b (by show b ≠ w.heap.size + 1; omega))
  · have h5 : Below w.heap.size w w5 := HB0.out.trans (HB5.out.mono (by omega))
    exact h5.setCell (p := ⟨w.heap.size + 1, 0, none⟩) (by show w.heap.size ≤ w.heap.size + 1; omega) _

set_option maxHeartbeats 1000000 in
theorem rdepth_any (a : Option Addr) (cap : Nat) (ns : List Nd) (w : World) (h : LiesA w a ns) (hl : ns.length * 32 ≤ 140737488351232) :
    Calls Try.prog 11 #[.agg #[.slice a ns.length cap]] w fun e w' => e = .returned (.int .i64 (dpt ns : Int)) ∧ Below w.heap.size w w' := by
  obtain ⟨w2, e2, hw, hs2, B0⟩ := bx1 w #[.slice a ns.length cap] 24
  have HB0 : Hid (Below w.heap.size w w2) := hw
  have HE2 : Hid (w.alloc (.cells #[.slice a ns.length cap] 24) = w2) := e2
  have x0 := B0.one
  have hs2a : w.heap.size < w2.heap.size := by omega
  rcases h with rfl | ⟨b, o, rfl, hL⟩
  · have HR : Hid (dpt [] = 0) := rfl
    clear hw B0 e2 hs2
    rw [List.length_nil] at *
    go_enter Try.func11, Try.ntmps11
    go_upto_region 1 with fail
    rw [HE2.out]
    go_quiet (fail)
    go_wp2
    go_ret
    exact ⟨ret_n HR.out.symm, below_drewN HB0.out _⟩
  · by_cases h0 : 0 < ns.length
    · obtain ⟨x, hx⟩ : ∃ e, ns[0]? = some e := ⟨_, List.getElem?_eq_getElem h0⟩
      have y1 := (hL.nd hw hx).2.2.2
      simp only [Nat.zero_mul, Nat.add_zero] at y1
      have HL : Hid (Lies w2 b o ns) := hL.below hw hL.1
      have HX : Hid (ns[0]? = some x) := hx
      have h0' : ((ns.length : Int) == 0) = false := by rw [beq_eq_false_iff_ne]; omega
      have h0i : (0 : Int) < (ns.length : Int) := by omega
      clear hL hx hw B0 e2 hs2
      by_cases hg : x.s = (ns.length : Int)
      · have HR : Hid (dpt ns = dp1 (dp ns 1 ns.length)) := by unfold Hid dpt; rw [HX.out]; simp only; rw [if_pos hg]
        rw [hg] at y1
        have hne : ((ns.length : Int) != (ns.length : Int)) = false := by simp
        have hcall : ∀ v : World, Below w2.heap.size w2 v → Calls Try.prog 24 #[.slice (some ⟨b, o, none⟩) ns.length cap, .int .i64 0] v fun e w' => e = .returned (.tuple #[.int .i64 (dp1 (dp ns 1 ns.length) : Int), .bool (dp ns 1 ns.length).isSome]) ∧ v = w' := by
          intro v hv
          have := below_any b o cap ns v (HL.out.below hv HL.out.1) hl ns.length 0 ns.length x (Nat.le_refl _) HX.out hg (by omega) (by omega)
          simpa using this
        have HC : Hid (∀ v : World, Below w2.heap.size w2 v → Calls Try.prog 24 #[.slice (some ⟨b, o, none⟩) ns.length cap, .int .i64 0] v fun e w' => e = .returned (.tuple #[.int .i64 (dp1 (dp ns 1 ns.length) : Int), .bool (dp ns 1 ns.length).isSome]) ∧ v = w') := hcall
        clear hcall hg
        cases hd : dp ns 1 ns.length with
        | none =>
          rw [hd] at HC HR
          go_enter Try.func11, Try.ntmps11
          go_upto_region 1 with fail
          rw [HE2.out]
          go_quiet (fail)
          go_wp2_with (first | (go_at_call 24; refine (HC.out _ (below_drewN (Below.refl _ _) _)).mono ?_; rintro e w3 ⟨rfl, rfl⟩) | fail)
          go_ret
          exact ⟨ret_n HR.out.symm, below_drewN HB0.out _⟩
        | some d =>
          rw [hd] at HC HR
          go_enter Try.func11, Try.ntmps11
          go_upto_region 1 with fail
          rw [HE2.out]
          go_quiet (fail)
          go_wp2_with (first | (go_at_call 24; refine (HC.out _ (below_drewN (Below.refl _ _) _)).mono ?_; rintro e w3 ⟨rfl, rfl⟩) | fail)
          go_ret
          exact ⟨ret_n HR.out.symm, below_drewN HB0.out _⟩
      · have HR : Hid (dpt ns = 0) := dpt_bad HX.out hg
        have hne : (x.s != (ns.length : Int)) = true := by simp [hg]
        clear hg
        go_enter Try.func11, Try.ntmps11
        go_upto_region 1 with fail
        rw [HE2.out]
        go_quiet (fail)
        go_wp2
        go_ret
        exact ⟨ret_n HR.out.symm, below_drewN HB0.out _⟩
    · have hnil : ns = [] := List.eq_nil_of_length_eq_zero (by omega)
      subst hnil
      have HR : Hid (dpt [] = 0) := rfl
      clear hw B0 e2 hs2 hL
      rw [List.length_nil] at *
      go_enter Try.func11, Try.ntmps11
      go_upto_region 1 with fail
      rw [HE2.out]
      go_quiet (fail)
      go_wp2
      go_ret
      exact ⟨ret_n HR.out.symm, below_drewN HB0.out _⟩
end Go.Proofs.Yteafgddfcohclaa
