import Derived.Test.YtaploloedocgbaaDoorTsq
namespace Go.Proofs.YtaploloedocgbaaDoor
open Go.ChangeShapes Go.WideShapes Go.ChangeAt Go.RowKit
set_option linter.unusedVariables false
set_option linter.unusedSimpArgs false

/-- every list has its marks alone, and more things than it had -/
def Mkd (α : Type) [Rw α] (mk : Nat → α) (more : Nat) (ts us : List Rr) : Prop := ts.length = us.length ∧ ∀ (j : Nat) t u, ts[j]? = some t → us[j]? = some u → t.n = u.n + more ∧ t.xs = flat (List.replicate t.n (mk j)) ∧ t.n ≤ 8388608

set_option maxRecDepth 1000000 in
set_option maxHeartbeats 2000000 in
theorem others_any (b B more : Nat) (w : World) (V U I J : Value) (tn un ti ui : List Rr) (hT : ShT b B w V U I J tn un ti ui) (hM : Mkd Nd mkNd more tn un) (hN : Mkd Int mkI more ti ui) (htn : tn.length ≤ 1000) (hti : ti.length ≤ 1000) (hmo : more ≤ 100) :
    Calls Tryd.prog 67 #[.pointer (some ⟨b, 0, none⟩), .int .i64 (more : Int)] w fun e w' => e = .returned (.bool true) ∧ Below w.heap.size w w' := by
  obtain ⟨aV, cV, rfl, -, -⟩ := own_slice hT.n.outV
  obtain ⟨aU, cU, rfl, -, -⟩ := own_slice hT.n.outU
  obtain ⟨aI, cI, rfl, -, -⟩ := own_slice hT.i.outV
  obtain ⟨aJ, cJ, rfl, -, -⟩ := own_slice hT.i.outU
  have hul : un.length = tn.length := hM.1.symm
  have hjl : ui.length = ti.length := hN.1.symm
  rw [hul, hjl] at hT
  have HT : Hid (∀ v, Below w.heap.size w v → ShT b B v (.slice aV tn.length cV) (.slice aU tn.length cU) (.slice aI ti.length cI) (.slice aJ ti.length cJ) tn un ti ui) := fun v hv => hT.below hv
  have HM : Hid (Mkd Nd mkNd more tn un) := hM
  have HN : Hid (Mkd Int mkI more ti ui) := hN
  have c6 : w.cell? ⟨b, 6, none⟩ = some (.slice aI ti.length cI) := hT.box.cell 6
  clear hT hM hN
  go_enter Tryd.func67, Tryd.ntmps67
  go_wp2
  clear c6
  go_loopg [22] ti.length (fun gk si wr => ∃ k : Nat, gk = ti.length - k ∧ k ≤ ti.length ∧ si = .int .i64 (k : Int) ∧ Below w.heap.size w wr)
  case atStart => exact ⟨0, rfl, Nat.zero_le _, rfl, Below.refl _ _⟩
  case round =>
    obtain ⟨k, rfl, hk, rfl, hbel⟩ := hrel
    have HB : Hid (Below w.heap.size w wr) := hbel
    have SR : Hid (ShT b B wr (.slice aV tn.length cV) (.slice aU tn.length cU) (.slice aI ti.length cI) (.slice aJ ti.length cJ) tn un ti ui) := HT.out _ hbel
    clear hbel
    by_cases hlt : k < ti.length
    · have hlt' : (k : Int) < (ti.length : Int) := by omega
      have hk0 : (0 : Int) ≤ (k : Int) := by omega
      obtain ⟨r, hr⟩ : ∃ r, ti[k]? = some r := ⟨_, List.getElem?_eq_getElem hlt⟩
      obtain ⟨u, hu⟩ : ∃ u, ui[k]? = some u := ⟨_, List.getElem?_eq_getElem (by omega)⟩
      obtain ⟨hn1, hx1, hnb⟩ := HN.out.2 k r u hr hu
      obtain ⟨gV, cV', hV, cv, -⟩ := SR.out.i.cellV hr
      obtain ⟨gU, cU', hU, cu⟩ := SR.out.i.cellU hu
      simp only [Value.slice.injEq] at hV hU
      obtain ⟨rfl, -, rfl⟩ := hV
      obtain ⟨rfl, -, rfl⟩ := hU
      have hro := SR.out.i.get hr
      obtain ⟨a1, c1, hv1, hpos, -⟩ := own_slice hro
      obtain ⟨a2, c2, hv2, -, -⟩ := own_slice (SR.out.i.getU hu)
      rw [hv1, hx1] at hro
      rw [hv1] at cv
      rw [hv2] at cu
      obtain ⟨rn, hrn⟩ : ∃ n, r.n = n := ⟨_, rfl⟩
      obtain ⟨uk, hun⟩ : ∃ n, u.n = n := ⟨_, rfl⟩
      rw [hrn] at hn1 hnb hro cv hpos
      rw [hun] at hn1 cu
      have HRO : Hid (wr.ownsRow B 3 1 (.slice a1 rn c1) rn (flat (List.replicate rn (mkI k)))) := hro
      have HP : Hid (0 < rn → ∃ g, a1 = some ⟨g, 0, none⟩) := hpos
      have c5 : wr.cell? ⟨b, 7, none⟩ = some (.slice (some ⟨gU, 0, none⟩) ti.length cJ) := SR.out.box.cell 7
      have mk1 : IntKind.i64.wrap ((uk : Int) + (more : Int)) = (rn : Int) := by rw [IntWalk.i64_in _ ⟨by omega, by omega⟩]; omega
      have hne : ((rn : Int) != (rn : Int)) = false := by simp
      clear hr hu hro hpos hv1 hv2 hx1 hrn hun hn1
      go_wp2
      clear cv cu c5 mk1 hne
      obtain ⟨wo, rfl⟩ : ∃ wo, wo = wr := ⟨_, rfl⟩
      go_loopg [42] rn (fun gi si wi => ∃ i : Nat, gi = rn - i ∧ i ≤ rn ∧ si = .int .i64 (i : Int) ∧ Below wo.heap.size wo wi)
      case atStart => exact ⟨0, rfl, Nat.zero_le _, rfl, Below.refl _ _⟩
      case round =>
        obtain ⟨i, rfl, hi, rfl, hbel⟩ := hrel
        have HI : Hid (Below wo.heap.size wo wr) := hbel
        clear hbel
        by_cases hli : i < rn
        · have hli' : (i : Int) < (rn : Int) := by omega
          have hi0 : (0 : Int) ≤ (i : Int) := by omega
          obtain ⟨g, rfl⟩ := HP.out (by omega)
          have hro := own_belowR HRO.out HI.out (Nat.le_refl _)
          have d0 : wr.cell? ⟨g, i, none⟩ = some (.int .i64 (-7777 - (k : Int))) := by
            have hrep : (List.replicate rn (mkI k))[i]? = some (mkI k) := by rw [List.getElem?_replicate, if_pos hli]
            have := hro.cells rfl (i * 1 + 0) _ (by rw [show (1 : Nat) = Rw.k Int from rfl, flat_get _ i 0 (by decide), hrep]; rfl)
            rw [addr_addR, Nat.mul_one, Nat.add_zero] at this
            exact this
          have hne : ((-7777 - (k : Int)) != (-7777 - (k : Int))) = false := by simp
          clear hro
          go_wp2_with (go_at_call 66; (with_reducible refine (mark_any k _ (by omega)).mono ?_); rintro e w5 ⟨rfl, rfl⟩)
          go_roundg (rn - (i + 1))
          case measure => omega
          case rel => exact ⟨i + 1, rfl, by omega, by go_num, HI.out⟩
        · have hli' : ¬ (i : Int) < (rn : Int) := by omega
          go_wp2
          go_roundg (ti.length - (k + 1))
          case measure => omega
          case rel => exact ⟨k + 1, rfl, by omega, by go_num, HB.out.trans (HI.out.mono HB.out.size)⟩
    · have hlt' : ¬ (k : Int) < (ti.length : Int) := by omega
      have d8 : wr.cell? ⟨b, 8, none⟩ = some (.slice none 0 0) := SR.out.box.cell 8
      have d10 : wr.cell? ⟨b, 10, none⟩ = some (.slice none 0 0) := SR.out.box.cell 10
      go_wp2
      refine wp_loop_rounds 1 ?_
      rw [rounds_succ]
      go_wp2
      refine wp_loop_rounds 1 ?_
      rw [rounds_succ]
      go_wp2
      go_ret
      exact ⟨rfl, HB.out⟩
set_option maxRecDepth 1000000 in
set_option maxHeartbeats 2000000 in
theorem marked_any (b B more : Nat) (w : World) (V U I J : Value) (tn un ti ui : List Rr) (hT : ShT b B w V U I J tn un ti ui) (hM : Mkd Nd mkNd more tn un) (hN : Mkd Int mkI more ti ui) (htn : tn.length ≤ 1000) (hti : ti.length ≤ 1000) (hmo : more ≤ 100) :
    Calls Tryd.prog 52 #[.pointer (some ⟨b, 0, none⟩), .int .i64 (more : Int)] w fun e w' => e = .returned (.bool true) ∧ Below w.heap.size w w' := by
  obtain ⟨aV, cV, rfl, -, -⟩ := own_slice hT.n.outV
  obtain ⟨aU, cU, rfl, -, -⟩ := own_slice hT.n.outU
  obtain ⟨aI, cI, rfl, -, -⟩ := own_slice hT.i.outV
  obtain ⟨aJ, cJ, rfl, -, -⟩ := own_slice hT.i.outU
  have hul : un.length = tn.length := hM.1.symm
  have hjl : ui.length = ti.length := hN.1.symm
  rw [hul, hjl] at hT
  have HT : Hid (∀ v, Below w.heap.size w v → ShT b B v (.slice aV tn.length cV) (.slice aU tn.length cU) (.slice aI ti.length cI) (.slice aJ ti.length cJ) tn un ti ui) := fun v hv => hT.below hv
  have HM : Hid (Mkd Nd mkNd more tn un) := hM
  have HN : Hid (Mkd Int mkI more ti ui) := hN
  have HOT : Hid (∀ v, Below w.heap.size w v → Calls Tryd.prog 67 #[.pointer (some ⟨b, 0, none⟩), .int .i64 (more : Int)] v fun e w' => e = .returned (.bool true) ∧ Below v.heap.size v w') := fun v hv => others_any b B more v _ _ _ _ tn un ti ui (hT.below hv) hM hN htn hti hmo
  have c0 : w.cell? ⟨b, 0, none⟩ = some (.slice none 0 0) := hT.box.cell 0
  have c2 : w.cell? ⟨b, 2, none⟩ = some (.slice aV tn.length cV) := hT.box.cell 2
  clear hT hM hN
  go_enter Tryd.func52, Tryd.ntmps52
  go_wp2
  refine wp_loop_rounds 1 ?_
  rw [rounds_succ]
  go_wp2
  clear c0 c2
  go_loopg [58] tn.length (fun gk si wr => ∃ k : Nat, gk = tn.length - k ∧ k ≤ tn.length ∧ si = .int .i64 (k : Int) ∧ Below w.heap.size w wr)
  case atStart => exact ⟨0, rfl, Nat.zero_le _, rfl, Below.refl _ _⟩
  case round =>
    obtain ⟨k, rfl, hk, rfl, hbel⟩ := hrel
    have HB : Hid (Below w.heap.size w wr) := hbel
    have SR : Hid (ShT b B wr (.slice aV tn.length cV) (.slice aU tn.length cU) (.slice aI ti.length cI) (.slice aJ ti.length cJ) tn un ti ui) := HT.out _ hbel
    clear hbel
    by_cases hlt : k < tn.length
    · have hlt' : (k : Int) < (tn.length : Int) := by omega
      have hk0 : (0 : Int) ≤ (k : Int) := by omega
      obtain ⟨r, hr⟩ : ∃ r, tn[k]? = some r := ⟨_, List.getElem?_eq_getElem hlt⟩
      obtain ⟨u, hu⟩ : ∃ u, un[k]? = some u := ⟨_, List.getElem?_eq_getElem (by omega)⟩
      obtain ⟨hn1, hx1, hnb⟩ := HM.out.2 k r u hr hu
      obtain ⟨gV, cV', hV, cv, -⟩ := SR.out.n.cellV hr
      obtain ⟨gU, cU', hU, cu⟩ := SR.out.n.cellU hu
      simp only [Value.slice.injEq] at hV hU
      obtain ⟨rfl, -, rfl⟩ := hV
      obtain ⟨rfl, -, rfl⟩ := hU
      have hro := SR.out.n.get hr
      obtain ⟨a1, c1, hv1, hpos, -⟩ := own_slice hro
      obtain ⟨a2, c2, hv2, -, -⟩ := own_slice (SR.out.n.getU hu)
      rw [hv1, hx1] at hro
      rw [hv1] at cv
      rw [hv2] at cu
      obtain ⟨rn, hrn⟩ : ∃ n, r.n = n := ⟨_, rfl⟩
      obtain ⟨uk, hun⟩ : ∃ n, u.n = n := ⟨_, rfl⟩
      rw [hrn] at hn1 hnb hro cv hpos
      rw [hun] at hn1 cu
      have HRO : Hid (wr.ownsRow B 57 4 (.slice a1 rn c1) rn (flat (List.replicate rn (mkNd k)))) := hro
      have HP : Hid (0 < rn → ∃ g, a1 = some ⟨g, 0, none⟩) := hpos
      have c5 : wr.cell? ⟨b, 3, none⟩ = some (.slice (some ⟨gU, 0, none⟩) tn.length cU) := SR.out.box.cell 3
      have mk1 : IntKind.i64.wrap ((uk : Int) + (more : Int)) = (rn : Int) := by rw [IntWalk.i64_in _ ⟨by omega, by omega⟩]; omega
      have hne : ((rn : Int) != (rn : Int)) = false := by simp
      clear hr hu hro hpos hv1 hv2 hx1 hrn hun hn1
      go_wp2
      clear cv cu c5 mk1 hne
      obtain ⟨wo, rfl⟩ : ∃ wo, wo = wr := ⟨_, rfl⟩
      go_loopg [78] rn (fun gi si wi => ∃ i : Nat, gi = rn - i ∧ i ≤ rn ∧ si = .int .i64 (i : Int) ∧ Below wo.heap.size wo wi)
      case atStart => exact ⟨0, rfl, Nat.zero_le _, rfl, Below.refl _ _⟩
      case round =>
        obtain ⟨i, rfl, hi, rfl, hbel⟩ := hrel
        have HI : Hid (Below wo.heap.size wo wr) := hbel
        clear hbel
        by_cases hli : i < rn
        · have hli' : (i : Int) < (rn : Int) := by omega
          obtain ⟨g, rfl⟩ := HP.out (by omega)
          have hro := own_belowR HRO.out HI.out (Nat.le_refl _)
          have hrep : (List.replicate rn (mkNd k))[i]? = some (mkNd k) := by rw [List.getElem?_replicate, if_pos hli]
          have cc : ∀ m (hm : m < 4) u, (Rw.cs (mkNd k))[m]? = some u → wr.cell? ⟨g, i * 4 + m, none⟩ = some u := fun m hm u hu => by
            have := hro.cells rfl (i * 4 + m) u (by rw [show (4 : Nat) = Rw.k Nd from rfl, flat_get _ i m hm, hrep]; exact hu)
            rw [addr_addR] at this
            exact this
          have d0 : wr.cell? ⟨g, i * 4, none⟩ = some (.int .u8 0) := cc 0 (by omega) _ rfl
          have d1 : wr.cell? ⟨g, i * 4 + 1, none⟩ = some (.int .i64 (-7777 - (k : Int))) := cc 1 (by omega) _ rfl
          have d2 : wr.cell? ⟨g, i * 4 + 2, none⟩ = some (.int .i64 0) := cc 2 (by omega) _ rfl
          have d3 : wr.cell? ⟨g, i * 4 + 3, none⟩ = some (.int .i64 0) := cc 3 (by omega) _ rfl
          obtain ⟨w8, e8⟩ : ∃ w8, wr.alloc (.cells #[.int .u8 0, .int .i64 (-7777 - (k : Int)), .int .i64 0, .int .i64 0] 57) = w8 := ⟨_, rfl⟩
          have HE8 : Hid (wr.alloc (.cells #[.int .u8 0, .int .i64 (-7777 - (k : Int)), .int .i64 0, .int .i64 0] 57) = w8) := e8
          have X8 : Hid (Bx w8 wr.heap.size #[.int .u8 0, .int .i64 (-7777 - (k : Int)), .int .i64 0, .int .i64 0] 57) := by unfold Hid; rw [← e8]; exact Bx.new _ _ _
          have B8 : Hid (Below wo.heap.size wo w8) := by unfold Hid; rw [← e8]; exact HI.out.alloc HI.out.size _
          obtain ⟨X, F, hX, hF, onto⟩ := class_of (fun v => Below w8.heap.size w8 v) (Below.refl _ w8)
          have HF : Hid (∀ y, Below w8.heap.size w8 (F y)) := hF
          have HO : Hid (∀ v, Below w8.heap.size w8 v → ∃ x, v = F x) := fun v h => by obtain ⟨x, hx⟩ := onto v h; exact ⟨x, hx.symm⟩
          have f0 : ∀ y, (F y).cell? ⟨wr.heap.size, 0, none⟩ = some (.int .u8 0) := fun y => (X8.out.below (hF y) X8.out.lt).cell 0
          have f1 : ∀ y, (F y).cell? ⟨wr.heap.size, 1, none⟩ = some (.int .i64 (-7777 - (k : Int))) := fun y => (X8.out.below (hF y) X8.out.lt).cell 1
          have f2 : ∀ y, (F y).cell? ⟨wr.heap.size, 2, none⟩ = some (.int .i64 0) := fun y => (X8.out.below (hF y) X8.out.lt).cell 2
          have f3 : ∀ y, (F y).cell? ⟨wr.heap.size, 3, none⟩ = some (.int .i64 0) := fun y => (X8.out.below (hF y) X8.out.lt).cell 3
          clear hF onto hro hrep cc e8
          go_upto_region 21 with fail
          rw [HE8.out]
          clear d0 d1 d2 d3
          refine region_class F (by kernel_rfl) (by kernel_rfl) (by obtain ⟨x, hx⟩ := HO.out _ (Below.refl _ _).drew; exact ⟨x, hx.symm⟩) ?_
          repeat (go_big_quiet_step (first | (go_at_call 66; refine (mark_any k _ (by omega)).mono ?_; rintro e w5 ⟨rfl, rfl⟩; exact ⟨rfl, HO.out _ (HF.out _)⟩)))
          refine wpQuiet_nil ?_
          rintro _ ⟨nq, rfl⟩
          have HB2 : Hid (Below wo.heap.size wo (F nq)) := B8.out.trans ((HF.out nq).mono B8.out.size)
          go_wp2
          go_roundg (rn - (i + 1))
          case measure => omega
          case rel => exact ⟨i + 1, rfl, by omega, by go_num, HB2.out⟩
        · have hli' : ¬ (i : Int) < (rn : Int) := by omega
          go_wp2
          go_roundg (tn.length - (k + 1))
          case measure => omega
          case rel => exact ⟨k + 1, rfl, by omega, by go_num, HB.out.trans (HI.out.mono HB.out.size)⟩
    · have hlt' : ¬ (k : Int) < (tn.length : Int) := by omega
      have d4 : wr.cell? ⟨b, 4, none⟩ = some (.slice none 0 0) := SR.out.box.cell 4
      go_wp2
      refine wp_loop_rounds 1 ?_
      rw [rounds_succ]
      go_wp2_with (go_at_call 67; (with_reducible refine (HOT.out _ HB.out).mono ?_); rintro e w5 ⟨rfl, hb5⟩; have HB5 : Hid (Below w.heap.size w w5) := HB.out.trans (hb5.mono HB.out.size); clear hb5)
      go_ret
      exact ⟨rfl, HB5.out⟩
end Go.Proofs.YtaploloedocgbaaDoor
