import Derived.Test.YteolfolkolpehaaDoorShn
namespace Go.Proofs.YteolfolkolpehaaDoor
open Go.ChangeShapes Go.WideShapes Go.ChangeAt Go.RowKit
set_option linter.unusedVariables false
set_option linter.unusedSimpArgs false

theorem region_classE {P : Program} {X : Type} (F : X → World) {id : Nat} {Q : Exit → Act → World → Prop} {a : Act} {w : World} {l : List Oper} (hm : P.follows .mixedOrders = true) (hB : Region.lexB .any l.toArray = true)
    (hx : ∃ x, F x = w.drew) (h : wpQuiet P l.toArray (fun w' => ∃ n, w' = F n) (fun a' => ∀ w', (∃ n, w' = F n) → Q .normal a' w') l a) : (Code.region id l.toArray true).wp P Q a w :=
  wp_region_quiet (C := fun w' => ∃ n, w' = F n) hm hB (by obtain ⟨x, hx⟩ := hx; exact ⟨x, hx.symm⟩) (by simpa using h)

/-- the worlds of which D holds, as a row of worlds -/
theorem class_ofE (D : World → Prop) {w : World} (hw : D w) : ∃ (X : Type) (F : X → World), Nonempty X ∧ (∀ x, D (F x)) ∧ ∀ v, D v → ∃ x, F x = v :=
  ⟨{v : World // D v}, Subtype.val, ⟨⟨w, hw⟩⟩, fun x => x.2, fun v h => ⟨⟨v, h⟩, rfl⟩⟩
/-- what stands on the shelf is what it was -/
def Sti (rs us : List Rr) : Prop := rs.length = us.length ∧ ∀ (i : Nat) r u, rs[i]? = some r → us[i]? = some u → ∃ E : List Ed, r.n = E.length ∧ r.xs = flat E ∧ u.n = E.length ∧ u.xs = flat E ∧ E.length ≤ 1000000
theorem edsA_own {w : World} {B n c : Nat} {a : Option Addr} {xs : List Ed} (h : w.ownsRow B 45 3 (.slice a n c) n (flat xs)) : EdsA w a xs := by
  rcases h.2 with ⟨hv, h0⟩ | ⟨g, cap, cur, hv, _⟩
  · left
    have := h.1
    rw [flat_length] at this
    exact List.eq_nil_of_length_eq_zero (by omega)
  · right
    simp only [Value.slice.injEq] at hv
    obtain ⟨ha, -, hc⟩ := hv
    subst hc
    subst ha
    exact ⟨g, 0, rfl, Eds.own h⟩

set_option maxRecDepth 1000000 in
set_option maxHeartbeats 2000000 in
theorem still_any (b B : Nat) (w : World) (V U : Value) (rs us : List Rr) (hbx : Bx w b (bxA V U) 54) (hS : She 45 22 3 B w V U rs us) (hE : Sti rs us) (hrs : rs.length ≤ 1000) :
    Calls Tryd.prog 53 #[.pointer (some ⟨b, 0, none⟩)] w fun e w' => e = .returned (.bool true) ∧ Below w.heap.size w w' := by
  have HX : Hid (∀ v, Below w.heap.size w v → Bx v b (bxA V U) 54) := fun v hv => hbx.below hv hbx.lt
  have HS : Hid (She 45 22 3 B w V U rs us) := hS
  have HE : Hid (Sti rs us) := hE
  have c0 : w.cell? ⟨b, 0, none⟩ = some (.slice none 0 0) := hbx.cell 0
  clear hbx hS hE
  obtain ⟨aV, cV, rfl, -, -⟩ := own_slice HS.out.outV
  obtain ⟨aU, cU, rfl, -, -⟩ := own_slice HS.out.outU
  have hul : us.length = rs.length := HE.out.1.symm
  rw [hul] at HX HS
  have c2 : w.cell? ⟨b, 2, none⟩ = some (.slice none 0 0) := (HX.out w (Below.refl _ _)).cell 2
  have c4 : w.cell? ⟨b, 4, none⟩ = some (.slice aV rs.length cV) := (HX.out w (Below.refl _ _)).cell 4
  go_enter Tryd.func53, Tryd.ntmps53
  go_wp2
  refine wp_loop_rounds 1 ?_
  rw [rounds_succ]
  go_wp2
  refine wp_loop_rounds 1 ?_
  rw [rounds_succ]
  go_wp2
  clear c0 c2 c4
  go_loopg [66] rs.length (fun gk si wr => ∃ k : Nat, gk = rs.length - k ∧ k ≤ rs.length ∧ si = .int .i64 (k : Int) ∧ Below w.heap.size w wr)
  case atStart => exact ⟨0, rfl, Nat.zero_le _, rfl, Below.refl _ _⟩
  case round =>
    obtain ⟨k, rfl, hk, rfl, hbel⟩ := hrel
    have HB : Hid (Below w.heap.size w wr) := hbel
    have SR : Hid (She 45 22 3 B wr (.slice aV rs.length cV) (.slice aU rs.length cU) rs us) := HS.out.below hbel
    clear hbel
    by_cases hlt : k < rs.length
    · have hlt' : (k : Int) < (rs.length : Int) := by omega
      have hk0 : (0 : Int) ≤ (k : Int) := by omega
      obtain ⟨r, hr⟩ : ∃ r, rs[k]? = some r := ⟨_, List.getElem?_eq_getElem hlt⟩
      obtain ⟨u, hu⟩ : ∃ u, us[k]? = some u := ⟨_, List.getElem?_eq_getElem (by omega)⟩
      obtain ⟨E, hn1, hx1, hn2, hx2, hEl⟩ := HE.out.2 k r u hr hu
      obtain ⟨gV, cV', hV, cv, -⟩ := SR.out.cellV hr
      obtain ⟨gU, cU', hU, cu⟩ := SR.out.cellU hu
      simp only [Value.slice.injEq] at hV hU
      obtain ⟨rfl, -, rfl⟩ := hV
      obtain ⟨rfl, -, rfl⟩ := hU
      have hro := SR.out.get hr
      have huo := SR.out.getU hu
      obtain ⟨a1, c1, hv1, -, -⟩ := own_slice hro
      obtain ⟨a2, c2, hv2, -, -⟩ := own_slice huo
      rw [hv1, hn1, hx1] at hro
      rw [hv2, hn2, hx2] at huo
      rw [hv1, hn1] at cv
      rw [hv2, hn2] at cu
      have HSE : Hid (∀ v, Below wr.heap.size wr v → Calls Tryd.prog 10 #[.slice a1 E.length c1, .slice a2 E.length c2] v fun e w' => e = .returned (.bool true) ∧ Below v.heap.size v w') := fun v hv =>
        same_any a1 a2 c1 c2 E v ((edsA_own hro).below hv) ((edsA_own huo).below hv) (by unfold maxLen; omega)
      obtain ⟨X, F, hX, hF, onto⟩ := class_ofE (fun v => Below wr.heap.size wr v) (Below.refl _ wr)
      have HF : Hid (∀ y, Below wr.heap.size wr (F y)) := hF
      have HO : Hid (∀ v, Below wr.heap.size wr v → ∃ x, v = F x) := fun v h => by obtain ⟨x, hx⟩ := onto v h; exact ⟨x, hx.symm⟩
      have f4 : ∀ y, (F y).cell? ⟨b, 4, none⟩ = some (.slice (some ⟨gV, 0, none⟩) rs.length cV) := fun y => (HX.out _ (HB.out.trans ((hF y).mono HB.out.size))).cell 4
      have f5 : ∀ y, (F y).cell? ⟨b, 5, none⟩ = some (.slice (some ⟨gU, 0, none⟩) rs.length cU) := fun y => (HX.out _ (HB.out.trans ((hF y).mono HB.out.size))).cell 5
      have fv : ∀ y, (F y).cell? ⟨gV, k, none⟩ = some (.slice a1 E.length c1) := fun y => ((hF y).cell (World.block_lt_of_cell? _ _ cv)).trans cv
      have fu : ∀ y, (F y).cell? ⟨gU, k, none⟩ = some (.slice a2 E.length c2) := fun y => ((hF y).cell (World.block_lt_of_cell? _ _ cu)).trans cu
      clear hF onto hro huo hr hu cv cu hv1 hv2 hn1 hn2 hx1 hx2
      go_upto_region 16 with fail
      refine region_classE F (by kernel_rfl) (by kernel_rfl) (by obtain ⟨x, hx⟩ := HO.out _ (Below.refl _ _).drew; exact ⟨x, hx.symm⟩) ?_
      repeat (go_big_quiet_step (first | (go_at_call 10; with_reducible refine (HSE.out _ (HF.out _)).mono ?_; rintro e w5 ⟨rfl, hb5⟩; exact ⟨rfl, HO.out _ ((HF.out _).trans (hb5.mono (HF.out _).size))⟩)))
      refine wpQuiet_nil ?_
      rintro _ ⟨nq, rfl⟩
      have HB2 : Hid (Below w.heap.size w (F nq)) := HB.out.trans ((HF.out nq).mono HB.out.size)
      go_wp2
      go_roundg (rs.length - (k + 1))
      case measure => omega
      case rel => exact ⟨k + 1, rfl, by omega, by go_num, HB2.out⟩
    · have hlt' : ¬ (k : Int) < (rs.length : Int) := by omega
      have d6 : wr.cell? ⟨b, 6, none⟩ = some (.slice none 0 0) := (HX.out _ HB.out).cell 6
      have d8 : wr.cell? ⟨b, 8, none⟩ = some (.slice none 0 0) := (HX.out _ HB.out).cell 8
      have d10 : wr.cell? ⟨b, 10, none⟩ = some (.slice none 0 0) := (HX.out _ HB.out).cell 10
      go_wp2
      refine wp_loop_rounds 1 ?_
      rw [rounds_succ]
      go_wp2
      refine wp_loop_rounds 1 ?_
      rw [rounds_succ]
      go_wp2
      refine wp_loop_rounds 1 ?_
      rw [rounds_succ]
      go_wp2
      go_ret
      exact ⟨rfl, HB.out⟩
end Go.Proofs.YteolfolkolpehaaDoor
