import Derived.Test.YtaploloedocgbaaDoorTso
import Derived.Test.YtaploloedocgbaaDoorDw
import Derived.Test.YtaploloedocgbaaDoorNam
namespace Go.Proofs.YtaploloedocgbaaDoor
open Go.ChangeShapes Go.WideShapes Go.ChangeAt Go.RowKit
set_option linter.unusedVariables false
set_option linter.unusedSimpArgs false

/-- what stands on the shelf is what it was -/
def Sti (α : Type) [Rw α] (rs us : List Rr) : Prop := rs.length = us.length ∧ ∀ (i : Nat) r u, rs[i]? = some r → us[i]? = some u → ∃ E : List α, r.n = E.length ∧ r.xs = flat E ∧ u.n = E.length ∧ u.xs = flat E ∧ E.length ≤ 4194304
theorem liesA_own {α : Type} [Rw α] {w : World} {B e n c : Nat} {a : Option Addr} {xs : List α} (h : w.ownsRow B e (Rw.k α) (.slice a n c) n (flat xs)) : LiesA w a xs := by
  obtain ⟨a9, c9, h1, h2, -⟩ := own_form h
  simp only [Value.slice.injEq] at h1
  obtain ⟨rfl, -, -⟩ := h1
  exact h2

set_option maxRecDepth 1000000 in
set_option maxHeartbeats 2000000 in
theorem still_any (b B : Nat) (w : World) (V U I J : Value) (rn un ri ui : List Rr) (hT : ShT b B w V U I J rn un ri ui) (hE : Sti Nd rn un) (hF : Sti Int ri ui) (hrn : rn.length ≤ 1000) (hri : ri.length ≤ 1000) :
    Calls Tryd.prog 50 #[.pointer (some ⟨b, 0, none⟩)] w fun e w' => e = .returned (.bool true) ∧ Below w.heap.size w w' := by
  obtain ⟨aV, cV, rfl, -, -⟩ := own_slice hT.n.outV
  obtain ⟨aU, cU, rfl, -, -⟩ := own_slice hT.n.outU
  obtain ⟨aI, cI, rfl, -, -⟩ := own_slice hT.i.outV
  obtain ⟨aJ, cJ, rfl, -, -⟩ := own_slice hT.i.outU
  have hul : un.length = rn.length := hE.1.symm
  have hjl : ui.length = ri.length := hF.1.symm
  rw [hul, hjl] at hT
  have HT : Hid (∀ v, Below w.heap.size w v → ShT b B v (.slice aV rn.length cV) (.slice aU rn.length cU) (.slice aI ri.length cI) (.slice aJ ri.length cJ) rn un ri ui) := fun v hv => hT.below hv
  have HE : Hid (Sti Nd rn un) := hE
  have HF2 : Hid (Sti Int ri ui) := hF
  have c0 : w.cell? ⟨b, 0, none⟩ = some (.slice none 0 0) := hT.box.cell 0
  have c2 : w.cell? ⟨b, 2, none⟩ = some (.slice aV rn.length cV) := hT.box.cell 2
  clear hT hE hF
  go_enter Tryd.func50, Tryd.ntmps50
  go_wp2
  refine wp_loop_rounds 1 ?_
  rw [rounds_succ]
  go_wp2
  clear c0 c2
  go_loopg [39] rn.length (fun gk si wr => ∃ k : Nat, gk = rn.length - k ∧ k ≤ rn.length ∧ si = .int .i64 (k : Int) ∧ Below w.heap.size w wr)
  case atStart => exact ⟨0, rfl, Nat.zero_le _, rfl, Below.refl _ _⟩
  case round =>
    obtain ⟨k, rfl, hk, rfl, hbel⟩ := hrel
    have HB : Hid (Below w.heap.size w wr) := hbel
    have SR : Hid (ShT b B wr (.slice aV rn.length cV) (.slice aU rn.length cU) (.slice aI ri.length cI) (.slice aJ ri.length cJ) rn un ri ui) := HT.out _ hbel
    clear hbel
    by_cases hlt : k < rn.length
    · have hlt' : (k : Int) < (rn.length : Int) := by omega
      have hk0 : (0 : Int) ≤ (k : Int) := by omega
      obtain ⟨r, hr⟩ : ∃ r, rn[k]? = some r := ⟨_, List.getElem?_eq_getElem hlt⟩
      obtain ⟨u, hu⟩ : ∃ u, un[k]? = some u := ⟨_, List.getElem?_eq_getElem (by omega)⟩
      obtain ⟨E, hn1, hx1, hn2, hx2, hEl⟩ := HE.out.2 k r u hr hu
      obtain ⟨gV, cV', hV, cv, -⟩ := SR.out.n.cellV hr
      obtain ⟨gU, cU', hU, cu⟩ := SR.out.n.cellU hu
      simp only [Value.slice.injEq] at hV hU
      obtain ⟨rfl, -, rfl⟩ := hV
      obtain ⟨rfl, -, rfl⟩ := hU
      have hro := SR.out.n.get hr
      have huo := SR.out.n.getU hu
      obtain ⟨a1, c1, hv1, -, -⟩ := own_slice hro
      obtain ⟨a2, c2, hv2, -, -⟩ := own_slice huo
      rw [hv1, hn1, hx1] at hro
      rw [hv2, hn2, hx2] at huo
      rw [hv1, hn1] at cv
      rw [hv2, hn2] at cu
      have HSE : Hid (∀ v, Below wr.heap.size wr v → Calls Tryd.prog 62 #[.agg #[.slice a1 E.length c1], .agg #[.slice a2 E.length c2]] v fun e w' => e = .returned (.bool true) ∧ Below v.heap.size v w') := fun v hv =>
        same_tree a1 a2 c1 c2 E v ((liesA_own hro).below hv) ((liesA_own huo).below hv) (by unfold maxLen; omega)
      obtain ⟨X, F, hX, hF, onto⟩ := class_of (fun v => Below wr.heap.size wr v) (Below.refl _ wr)
      have HF : Hid (∀ y, Below wr.heap.size wr (F y)) := hF
      have HO : Hid (∀ v, Below wr.heap.size wr v → ∃ x, v = F x) := fun v h => by obtain ⟨x, hx⟩ := onto v h; exact ⟨x, hx.symm⟩
      have f4 : ∀ y, (F y).cell? ⟨b, 2, none⟩ = some (.slice (some ⟨gV, 0, none⟩) rn.length cV) := fun y => (HT.out _ (HB.out.trans ((hF y).mono HB.out.size))).box.cell 2
      have f5 : ∀ y, (F y).cell? ⟨b, 3, none⟩ = some (.slice (some ⟨gU, 0, none⟩) rn.length cU) := fun y => (HT.out _ (HB.out.trans ((hF y).mono HB.out.size))).box.cell 3
      have fv : ∀ y, (F y).cell? ⟨gV, k, none⟩ = some (.slice a1 E.length c1) := fun y => ((hF y).cell (World.block_lt_of_cell? _ _ cv)).trans cv
      have fu : ∀ y, (F y).cell? ⟨gU, k, none⟩ = some (.slice a2 E.length c2) := fun y => ((hF y).cell (World.block_lt_of_cell? _ _ cu)).trans cu
      clear hF onto hro huo hr hu cv cu hv1 hv2 hn1 hn2 hx1 hx2
      go_upto_region 10 with fail
      refine region_class F (by kernel_rfl) (by kernel_rfl) (by obtain ⟨x, hx⟩ := HO.out _ (Below.refl _ _).drew; exact ⟨x, hx.symm⟩) ?_
      repeat (go_big_quiet_step (first | (go_at_call 62; with_reducible refine (HSE.out _ (HF.out _)).mono ?_; rintro e w5 ⟨rfl, hb5⟩; exact ⟨rfl, HO.out _ ((HF.out _).trans (hb5.mono (HF.out _).size))⟩)))
      refine wpQuiet_nil ?_
      rintro _ ⟨nq, rfl⟩
      have HB2 : Hid (Below w.heap.size w (F nq)) := HB.out.trans ((HF.out nq).mono HB.out.size)
      go_wp2
      go_roundg (rn.length - (k + 1))
      case measure => omega
      case rel => exact ⟨k + 1, rfl, by omega, by go_num, HB2.out⟩
    · have hlt' : ¬ (k : Int) < (rn.length : Int) := by omega
      have d4 : wr.cell? ⟨b, 4, none⟩ = some (.slice none 0 0) := SR.out.box.cell 4
      have d6 : wr.cell? ⟨b, 6, none⟩ = some (.slice aI ri.length cI) := SR.out.box.cell 6
      clear hlt
      go_wp2
      refine wp_loop_rounds 1 ?_
      rw [rounds_succ]
      go_wp2
      clear d4 d6 hlt' hk SR
      obtain ⟨wo, rfl⟩ : ∃ wo, wo = wr := ⟨_, rfl⟩
      go_loopg [91] ri.length (fun gk si wr => ∃ k : Nat, gk = ri.length - k ∧ k ≤ ri.length ∧ si = .int .i64 (k : Int) ∧ Below w.heap.size w wr)
      case atStart => exact ⟨0, rfl, Nat.zero_le _, rfl, HB.out⟩
      case round =>
        obtain ⟨k, rfl, hk, rfl, hbel⟩ := hrel
        clear HB
        have HB : Hid (Below w.heap.size w wr) := hbel
        have SR : Hid (ShT b B wr (.slice aV rn.length cV) (.slice aU rn.length cU) (.slice aI ri.length cI) (.slice aJ ri.length cJ) rn un ri ui) := HT.out _ hbel
        clear hbel
        by_cases hlt : k < ri.length
        · have hlt' : (k : Int) < (ri.length : Int) := by omega
          have hk0 : (0 : Int) ≤ (k : Int) := by omega
          obtain ⟨r, hr⟩ : ∃ r, ri[k]? = some r := ⟨_, List.getElem?_eq_getElem hlt⟩
          obtain ⟨u, hu⟩ : ∃ u, ui[k]? = some u := ⟨_, List.getElem?_eq_getElem (by omega)⟩
          obtain ⟨E, hn1, hx1, hn2, hx2, hEl⟩ := HF2.out.2 k r u hr hu
          obtain ⟨gV, cV', hV, cv, -⟩ := SR.out.i.cellV hr
          obtain ⟨gU, cU', hU, cu⟩ := SR.out.i.cellU hu
          simp only [Value.slice.injEq] at hV hU
          obtain ⟨rfl, -, rfl⟩ := hV
          obtain ⟨rfl, -, rfl⟩ := hU
          have hro := SR.out.i.get hr
          have huo := SR.out.i.getU hu
          obtain ⟨a1, c1, hv1, -, -⟩ := own_slice hro
          obtain ⟨a2, c2, hv2, -, -⟩ := own_slice huo
          rw [hv1, hn1, hx1] at hro
          rw [hv2, hn2, hx2] at huo
          rw [hv1, hn1] at cv
          rw [hv2, hn2] at cu
          have HSE : Hid (∀ v, Below wr.heap.size wr v → Calls Tryd.prog 12 #[.slice a1 E.length c1, .slice a2 E.length c2] v fun e w' => e = .returned (.bool true) ∧ Below v.heap.size v w') := fun v hv =>
            same_ints a1 a2 c1 c2 E v ((liesA_own hro).below hv) ((liesA_own huo).below hv) (by unfold maxLen; omega)
          obtain ⟨X, F, hX, hF, onto⟩ := class_of (fun v => Below wr.heap.size wr v) (Below.refl _ wr)
          have HF : Hid (∀ y, Below wr.heap.size wr (F y)) := hF
          have HO : Hid (∀ v, Below wr.heap.size wr v → ∃ x, v = F x) := fun v h => by obtain ⟨x, hx⟩ := onto v h; exact ⟨x, hx.symm⟩
          have f4 : ∀ y, (F y).cell? ⟨b, 6, none⟩ = some (.slice (some ⟨gV, 0, none⟩) ri.length cI) := fun y => (HT.out _ (HB.out.trans ((hF y).mono HB.out.size))).box.cell 6
          have f5 : ∀ y, (F y).cell? ⟨b, 7, none⟩ = some (.slice (some ⟨gU, 0, none⟩) ri.length cJ) := fun y => (HT.out _ (HB.out.trans ((hF y).mono HB.out.size))).box.cell 7
          have fv : ∀ y, (F y).cell? ⟨gV, k, none⟩ = some (.slice a1 E.length c1) := fun y => ((hF y).cell (World.block_lt_of_cell? _ _ cv)).trans cv
          have fu : ∀ y, (F y).cell? ⟨gU, k, none⟩ = some (.slice a2 E.length c2) := fun y => ((hF y).cell (World.block_lt_of_cell? _ _ cu)).trans cu
          clear hF onto hro huo hr hu cv cu hv1 hv2 hn1 hn2 hx1 hx2
          go_upto_region 22 with fail
          refine region_class F (by kernel_rfl) (by kernel_rfl) (by obtain ⟨x, hx⟩ := HO.out _ (Below.refl _ _).drew; exact ⟨x, hx.symm⟩) ?_
          repeat (go_big_quiet_step (first | (go_at_call 12; with_reducible refine (HSE.out _ (HF.out _)).mono ?_; rintro e w5 ⟨rfl, hb5⟩; exact ⟨rfl, HO.out _ ((HF.out _).trans (hb5.mono (HF.out _).size))⟩)))
          refine wpQuiet_nil ?_
          rintro _ ⟨nq, rfl⟩
          have HB2 : Hid (Below w.heap.size w (F nq)) := HB.out.trans ((HF.out nq).mono HB.out.size)
          go_wp2
          go_roundg (ri.length - (k + 1))
          case measure => omega
          case rel => exact ⟨k + 1, rfl, by omega, by go_num, HB2.out⟩
        · have hlt' : ¬ (k : Int) < (ri.length : Int) := by omega
          have d8 : wr.cell? ⟨b, 8, none⟩ = some (.slice none 0 0) := SR.out.box.cell 8
          have d10 : wr.cell? ⟨b, 10, none⟩ = some (.slice none 0 0) := SR.out.box.cell 10
          go_wp2
          refine wp_loop_rounds 1 ?_
          rw [rounds_succ]
          go_wp2
          refine wp_loop_rounds 1 ?_
          rw [rounds_succ]
          go_wp2
          go_ret
          exact ⟨rfl, HB.out⟩
end Go.Proofs.YtaploloedocgbaaDoor
