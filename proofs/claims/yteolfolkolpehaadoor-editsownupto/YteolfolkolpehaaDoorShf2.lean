import Derived.Test.YteolfolkolpehaaDoorShf1
namespace Go.Proofs.YteolfolkolpehaaDoor
open Go.ChangeShapes Go.WideShapes Go.ChangeAt Go.RowKit
set_option linter.unusedVariables false
set_option linter.unusedSimpArgs false

set_option maxRecDepth 1000000 in
set_option maxHeartbeats 2000000 in
theorem others_any (b : Nat) (more : Nat) (w : World) (V U : Value) (hbx : Bx w b (bxA V U) 54) :
    Calls Tryd.prog 77 #[.pointer (some ⟨b, 0, none⟩), .int .i64 (more : Int)] w fun e w' => e = .returned (.bool true) ∧ Below w.heap.size w w' := by
  have d6 : w.cell? ⟨b, 6, none⟩ = some (.slice none 0 0) := hbx.cell 6
  have d8 : w.cell? ⟨b, 8, none⟩ = some (.slice none 0 0) := hbx.cell 8
  have d10 : w.cell? ⟨b, 10, none⟩ = some (.slice none 0 0) := hbx.cell 10
  clear hbx
  go_enter Tryd.func77, Tryd.ntmps77
  go_wp2
  refine wp_loop_rounds 1 ?_
  rw [rounds_succ]
  go_wp2
  refine wp_loop_rounds 1 ?_
  rw [rounds_succ]
  go_wp2
  refine wp_loop_rounds 1 ?_
  rw [rounds_succ]
  go_wp2
  go_ret
  exact ⟨rfl, Below.refl _ _⟩
/-- every list has its marks alone, and more things than it had -/
def Mkd (more : Nat) (ts us : List Rr) : Prop := ts.length = us.length ∧ ∀ (j : Nat) t u, ts[j]? = some t → us[j]? = some u → t.n = u.n + more ∧ t.xs = flat (List.replicate t.n (mkE j)) ∧ t.n ≤ 2000000

set_option maxRecDepth 1000000 in
set_option maxHeartbeats 2000000 in
theorem marked_any (b B more : Nat) (w : World) (V U : Value) (ts us : List Rr) (hbx : Bx w b (bxA V U) 54) (hS : She 45 22 3 B w V U ts us) (hM : Mkd more ts us) (hts : ts.length ≤ 1000) (hmo : more ≤ 100) :
    Calls Tryd.prog 55 #[.pointer (some ⟨b, 0, none⟩), .int .i64 (more : Int)] w fun e w' => e = .returned (.bool true) ∧ Below w.heap.size w w' := by
  have HX : Hid (∀ v, Below w.heap.size w v → Bx v b (bxA V U) 54) := fun v hv => hbx.below hv hbx.lt
  have HS : Hid (She 45 22 3 B w V U ts us) := hS
  have HM : Hid (Mkd more ts us) := hM
  have c0 : w.cell? ⟨b, 0, none⟩ = some (.slice none 0 0) := hbx.cell 0
  clear hbx hS hM
  obtain ⟨aV, cV, rfl, -, -⟩ := own_slice HS.out.outV
  obtain ⟨aU, cU, rfl, -, -⟩ := own_slice HS.out.outU
  have hul : us.length = ts.length := HM.out.1.symm
  rw [hul] at HX HS
  have c2 : w.cell? ⟨b, 2, none⟩ = some (.slice none 0 0) := (HX.out w (Below.refl _ _)).cell 2
  have c4 : w.cell? ⟨b, 4, none⟩ = some (.slice aV ts.length cV) := (HX.out w (Below.refl _ _)).cell 4
  go_enter Tryd.func55, Tryd.ntmps55
  go_wp2
  refine wp_loop_rounds 1 ?_
  rw [rounds_succ]
  go_wp2
  refine wp_loop_rounds 1 ?_
  rw [rounds_succ]
  go_wp2
  clear c0 c2 c4
  go_loopg [94] ts.length (fun gk si wr => ∃ k : Nat, gk = ts.length - k ∧ k ≤ ts.length ∧ si = .int .i64 (k : Int) ∧ Below w.heap.size w wr)
  case atStart => exact ⟨0, rfl, Nat.zero_le _, rfl, Below.refl _ _⟩
  case round =>
    obtain ⟨k, rfl, hk, rfl, hbel⟩ := hrel
    have HB : Hid (Below w.heap.size w wr) := hbel
    have SR : Hid (She 45 22 3 B wr (.slice aV ts.length cV) (.slice aU ts.length cU) ts us) := HS.out.below hbel
    clear hbel
    by_cases hlt : k < ts.length
    · have hlt' : (k : Int) < (ts.length : Int) := by omega
      have hk0 : (0 : Int) ≤ (k : Int) := by omega
      obtain ⟨r, hr⟩ : ∃ r, ts[k]? = some r := ⟨_, List.getElem?_eq_getElem hlt⟩
      obtain ⟨u, hu⟩ : ∃ u, us[k]? = some u := ⟨_, List.getElem?_eq_getElem (by omega)⟩
      obtain ⟨hn1, hx1, hnb⟩ := HM.out.2 k r u hr hu
      obtain ⟨gV, cV', hV, cv, -⟩ := SR.out.cellV hr
      obtain ⟨gU, cU', hU, cu⟩ := SR.out.cellU hu
      simp only [Value.slice.injEq] at hV hU
      obtain ⟨rfl, -, rfl⟩ := hV
      obtain ⟨rfl, -, rfl⟩ := hU
      have hro := SR.out.get hr
      obtain ⟨a1, c1, hv1, hpos, -⟩ := own_slice hro
      obtain ⟨a2, c2, hv2, -, -⟩ := own_slice (SR.out.getU hu)
      rw [hv1, hx1] at hro
      rw [hv1] at cv
      rw [hv2] at cu
      obtain ⟨rn, hrn⟩ : ∃ n, r.n = n := ⟨_, rfl⟩
      obtain ⟨un, hun⟩ : ∃ n, u.n = n := ⟨_, rfl⟩
      rw [hrn] at hn1 hnb hro cv hpos
      rw [hun] at hn1 cu
      have HRO : Hid (wr.ownsRow B 45 3 (.slice a1 rn c1) rn (flat (List.replicate rn (mkE k)))) := hro
      have HP : Hid (0 < rn → ∃ g, a1 = some ⟨g, 0, none⟩) := hpos
      have c5 : wr.cell? ⟨b, 5, none⟩ = some (.slice (some ⟨gU, 0, none⟩) ts.length cU) := (HX.out _ HB.out).cell 5
      have mk1 : IntKind.i64.wrap ((un : Int) + (more : Int)) = (rn : Int) := by rw [IntWalk.i64_in _ ⟨by omega, by omega⟩]; omega
      have hne : ((rn : Int) != (rn : Int)) = false := by simp
      clear hr hu hro hpos hv1 hv2 hx1 hrn hun hn1
      go_wp2
      clear cv cu c5 mk1 hne
      obtain ⟨wo, rfl⟩ : ∃ wo, wo = wr := ⟨_, rfl⟩
      go_loopg [114] rn (fun gi si wi => ∃ i : Nat, gi = rn - i ∧ i ≤ rn ∧ si = .int .i64 (i : Int) ∧ Below wo.heap.size wo wi)
      case atStart => exact ⟨0, rfl, Nat.zero_le _, rfl, Below.refl _ _⟩
      case round =>
        obtain ⟨i, rfl, hi, rfl, hbel⟩ := hrel
        have HI : Hid (Below wo.heap.size wo wr) := hbel
        clear hbel
        by_cases hli : i < rn
        · have hli' : (i : Int) < (rn : Int) := by omega
          obtain ⟨g, rfl⟩ := HP.out (by omega)
          have hro := own_belowR HRO.out HI.out (Nat.le_refl _)
          have hrep : (List.replicate rn (mkE k))[i]? = some (mkE k) := by rw [List.getElem?_replicate, if_pos hli]
          have cc : ∀ m, m < 3 → wr.cell? ⟨g, i * 3 + m, none⟩ = some (if m = 0 then .int .i64 (mkE k).f else if m = 1 then .int .i64 (mkE k).t else .string (mkE k).s) := fun m hm => by
            have := hro.cells rfl (i * 3 + m) _ (by rw [flat_get _ i m hm, hrep]; rfl)
            rw [addr_addR] at this
            exact this
          have d0 : wr.cell? ⟨g, i * 3, none⟩ = some (.int .i64 (-7777 - (k : Int))) := cc 0 (by omega)
          have d1 : wr.cell? ⟨g, i * 3 + 1, none⟩ = some (.int .i64 0) := cc 1 (by omega)
          have d2 : wr.cell? ⟨g, i * 3 + 2, none⟩ = some (.string ⟨#[]⟩) := cc 2 (by omega)
          obtain ⟨w8, e8⟩ : ∃ w8, wr.alloc (.cells #[.int .i64 (-7777 - (k : Int)), .int .i64 0, .string ⟨#[]⟩] 45) = w8 := ⟨_, rfl⟩
          have HE8 : Hid (wr.alloc (.cells #[.int .i64 (-7777 - (k : Int)), .int .i64 0, .string ⟨#[]⟩] 45) = w8) := e8
          have X8 : Hid (Bx w8 wr.heap.size #[.int .i64 (-7777 - (k : Int)), .int .i64 0, .string ⟨#[]⟩] 45) := by unfold Hid; rw [← e8]; exact Bx.new _ _ _
          have B8 : Hid (Below wo.heap.size wo w8) := by unfold Hid; rw [← e8]; exact HI.out.alloc HI.out.size _
          obtain ⟨X, F, hX, hF, onto⟩ := class_ofE (fun v => Below w8.heap.size w8 v) (Below.refl _ w8)
          have HF : Hid (∀ y, Below w8.heap.size w8 (F y)) := hF
          have HO : Hid (∀ v, Below w8.heap.size w8 v → ∃ x, v = F x) := fun v h => by obtain ⟨x, hx⟩ := onto v h; exact ⟨x, hx.symm⟩
          have f0 : ∀ y, (F y).cell? ⟨wr.heap.size, 0, none⟩ = some (.int .i64 (-7777 - (k : Int))) := fun y => (X8.out.below (hF y) X8.out.lt).t0
          have f1 : ∀ y, (F y).cell? ⟨wr.heap.size, 1, none⟩ = some (.int .i64 0) := fun y => (X8.out.below (hF y) X8.out.lt).t1
          have f2 : ∀ y, (F y).cell? ⟨wr.heap.size, 2, none⟩ = some (.string ⟨#[]⟩) := fun y => (X8.out.below (hF y) X8.out.lt).t2
          clear hF onto hro hrep cc e8
          go_upto_region 33 with fail
          rw [HE8.out]
          clear d0 d1 d2
          refine region_classE F (by kernel_rfl) (by kernel_rfl) (by obtain ⟨x, hx⟩ := HO.out _ (Below.refl _ _).drew; exact ⟨x, hx.symm⟩) ?_
          repeat (go_big_quiet_step (first | (go_at_call 76; refine (mark_any k _ (by omega)).mono ?_; rintro e w5 ⟨rfl, rfl⟩; exact ⟨rfl, HO.out _ (HF.out _)⟩)))
          refine wpQuiet_nil ?_
          rintro _ ⟨nq, rfl⟩
          have HB2 : Hid (Below wo.heap.size wo (F nq)) := B8.out.trans ((HF.out nq).mono B8.out.size)
          go_wp2
          go_roundg (rn - (i + 1))
          case measure => omega
          case rel => exact ⟨i + 1, rfl, by omega, by go_num, HB2.out⟩
        · have hli' : ¬ (i : Int) < (rn : Int) := by omega
          go_wp2
          go_roundg (ts.length - (k + 1))
          case measure => omega
          case rel => exact ⟨k + 1, rfl, by omega, by go_num, HB.out.trans (HI.out.mono HB.out.size)⟩
    · have hlt' : ¬ (k : Int) < (ts.length : Int) := by omega
      go_wp2_with (go_at_call 77; (with_reducible refine (others_any b more _ _ _ (HX.out _ HB.out)).mono ?_); rintro e w5 ⟨rfl, hb5⟩; have HB5 : Hid (Below w.heap.size w w5) := HB.out.trans (hb5.mono HB.out.size); clear hb5)
      go_ret
      exact ⟨rfl, HB5.out⟩
end Go.Proofs.YteolfolkolpehaaDoor
