import Derived.Test.YteolfolkolpehaaDoorShf1
namespace Go.Proofs.YteolfolkolpehaaDoor
open Go.ChangeShapes Go.WideShapes Go.ChangeAt Go.RowKit
set_option linter.unusedVariables false
set_option linter.unusedSimpArgs false

set_option maxRecDepth 1000000 in
set_option maxHeartbeats 2000000 in
theorem others_any (b : Nat) (more : Nat) (w : World) (V U : Value) (hbx : Bx w b (bxA V U) 54) :
    Calls Tryd.prog 77 #[.pointer (some ⟨b, 0, none⟩), .int .i64 (more : Int)] w fun e w' => e = .returned (.bool true) ∧ Below w.heap.size w w' := by
  have d6 : w.cell? ⟨b, 6, none⟩ = some (.slice none 0 0) := hbx.cell 6
  have d8 : w.cell? ⟨b, 8, none⟩ = some (.slice none 0 0) := hbx.cell 8
  have d10 : w.cell? ⟨b, 10, none⟩ = some (.slice none 0 0) := hbx.cell 10
  clear hbx
  go_enter Tryd.func77, Tryd.ntmps77
  go_wp2
  refine wp_loop_rounds 1 ?_
  rw [rounds_succ]
  go_wp2
  refine wp_loop_rounds 1 ?_
  rw [rounds_succ]
  go_wp2
  refine wp_loop_rounds 1 ?_
  rw [rounds_succ]
  go_wp2
  go_ret
  exact ⟨rfl, Below.refl _ _⟩
/-- every list has its marks alone, and more things than it had -/
def Mkd (more : Nat) (ts us : List Rr) : Prop := ts.length = us.length ∧ ∀ (j : Nat) t u, ts[j]? = some t → us[j]? = some u → t.n = u.n + more ∧ t.xs = flat (List.replicate t.n (mkE j)) ∧ t.n ≤ 2000000

set_option maxRecDepth 1000000 in
set_option maxHeartbeats 2000000 in
theorem marked_any (b B more : Nat) (w : World) (V U : Value) (ts us : List Rr) (hbx : Bx w b (bxA V U) 54) (hS : She 45 22 3 B w V U ts us) (hM : Mkd more ts us) (hts : ts.length ≤ 1000) (hmo : more ≤ 100) :
    Calls Tryd.prog 55 #[.pointer (some ⟨b, 0, none⟩), .int .i64 (more : Int)] w fun e w' => e = .returned (.bool true) ∧ Below w.heap.size w w' := by
  have HX : Hid (∀ v, Below w.heap.size w v → Bx v b (bxA V U) 54) := fun v hv => hbx.below hv hbx.lt
  have HS : Hid (She 45 22 3 B w V U ts us) := hS
  have HM : Hid (Mkd more ts us) := hM
  have c0 : w.cell? ⟨b, 0, none⟩ = some (.slice none 0 0) := hbx.cell 0
  clear hbx hS hM
  obtain ⟨aV, cV, rfl, -, -⟩ := own_slice HS.out.outV
  obtain ⟨aU, cU, rfl, -, -⟩ := own_slice HS.out.outU
  have hul : us.length = ts.length := HM.out.1.symm
  rw [hul] at HX HS
  have c2 : w.cell? ⟨b, 2, none⟩ = some (.slice none 0 0) := (HX.out w (Below.refl _ _)).cell 2
  have c4 : w.cell? ⟨b, 4, none⟩ = some (.slice aV ts.length cV) := (HX.out w (Below.refl _ _)).cell 4
  go_enter Tryd.func55, Tryd.ntmps55
  go_wp2
  refine wp_loop_rounds 1 ?_
  rw [rounds_succ]
  go_wp2
  refine wp_loop_rounds 1 ?_
  rw [rounds_succ]
  go_wp2
  clear c0 c2 c4
  go_loopg [94] ts.length (fun gk si wr => ∃ k : Nat, gk = ts.length - k ∧ k ≤ ts.length ∧ si = .int .i64 (k : Int) ∧ Below w.heap.size w wr)
  case atStart => exact ⟨0, rfl, Nat.zero_le _, rfl, Below.refl _ _⟩
  case round =>
    obtain ⟨k, rfl, hk, rfl, hbel⟩ := hrel
    have HB : Hid (Below w.heap.size w wr) := hbel
    have SR : Hid (She 45 22 3 B wr (.slice aV ts.length cV) (.slice aU ts.length cU) ts us) := HS.out.below hbel
    clear hbel
    by_cases hlt : k < ts.length
    · have hlt' : (k : Int) < (ts.length : Int) := by omega
      have hk0 : (0 : Int) ≤ (k : Int) := by omega
      obtain ⟨r, hr⟩ : ∃ r, ts[k]? = some r := ⟨_, List.getElem?_eq_getElem hlt⟩
      obtain ⟨u, hu⟩ : ∃ u, us[k]? = some u := ⟨_, List.getElem?_eq_getElem (by omega)⟩
      obtain ⟨hn1, hx1, hnb⟩ := HM.out.2 k r u hr hu
      obtain ⟨gV, cV', hV, cv, -⟩ := SR.out.cellV hr
      obtain ⟨gU, cU', hU, cu⟩ := SR.out.cellU hu
      simp only [Value.slice.injEq] at hV hU
      obtain ⟨rfl, -, rfl⟩ := hV
      obtain ⟨rfl, -, rfl⟩ := hU
      have hro := SR.out.get hr
      obtain ⟨a1, c1, hv1, hpos, -⟩ := own_slice hro
      obtain ⟨a2, c2, hv2, -, -⟩ := own_slice (SR.out.getU hu)
      rw [hv1, hx1] at hro
      rw [hv1] at cv
      rw [hv2] at cu
      obtain ⟨rn, hrn⟩ : ∃ n, r.n = n := ⟨_, rfl⟩
      obtain ⟨un, hun⟩ : ∃ n, u.n = n := ⟨_, rfl⟩
      rw [hrn] at hn1 hnb hro cv hpos
      rw [hun] at hn1 cu
      have HRO : Hid (wr.ownsRow B 45 3 (.slice a1 rn c1) rn (flat (List.replicate rn (mkE k)))) := hro
      have HP : Hid (0 < rn → ∃ g, a1 = some ⟨g, 0, none⟩) := hpos
      have c5 : wr.cell? ⟨b, 5, none⟩ = some (.slice (some ⟨gU, 0, none⟩) ts.length cU) := (HX.out _ HB.out).cell 5
      have mk1 : IntKind.i64.wrap ((un : Int) + (more : Int)) = (rn : Int) := by rw [IntWalk.i64_in _ ⟨by omega, by omega⟩]; omega
      have hne : ((rn : Int) != (rn : Int)) = false := by simp
      clear hr hu hro hpos hv1 hv2 hx1 hrn hun hn1
      go_wp2
      clear cv cu c5 mk1 hne
      obtain ⟨wo, rfl⟩ : ∃ wo, wo = wr := ⟨_, rfl⟩
      go_loopg [114] rn (fun gi si wi => ∃ i : Nat, gi = rn - i ∧ i ≤ rn ∧ si = .int .i64 (i : Int) ∧ Below wo.heap.size wo wi)
      case atStart => exact ⟨0, rfl, Nat.zero_le _, rfl, Below.refl _ _⟩
      case round =>
        obtain ⟨i, rfl, hi, rfl, hbel⟩ := hrel
        have HI : Hid (Below wo.heap.size wo wr) := hbel
        clear hbel
        by_cases hli : i < rn
        · have hli' : (i : Int) < (rn : Int) := by omega
          obtain ⟨g, rfl⟩ := HP.out (by omega)
          have hro := own_belowR HRO.out HI.out (Nat.le_refl _)
          have hrep : (List.replicate rn (mkE k))[i]? = some (mkE k) := by rw [List.getElem?_replicate, if_pos hli]
          have cc : ∀ m, m < 3 → wr.cell? ⟨g, i * 3 + m, none⟩ = some (if m = 0 then .int .i64 (mkE k).f else if m = 1 then .int .i64 (mkE k).t else .string (mkE k).s) := fun m hm => by
            have := hro.cells rfl (i * 3 + m) _ (by rw [flat_get _ i m hm, hrep]; rfl)
            rw [addr_addR] at this
            exact this
          have d0 : wr.cell? ⟨g, i * 3, none⟩ = some (.int .i64 (-7777 - (k : Int))) := cc 0 (by omega)
          have d1 : wr.cell? ⟨g, i * 3 + 1, none⟩ = some (.int .i64 0) := cc 1 (by omega)
          have d2 : wr.cell? ⟨g, i * 3 + 2, none⟩ = some (.string ⟨#[]⟩) := cc 2 (by omega)
          obtain ⟨w8, e8⟩ : ∃ w8, wr.alloc (.cells #[.int .i64 (-7777 - (k : Int)), .int .i64 0, .string ⟨#[]⟩] 45) = w8 := ⟨_, rfl⟩
          have HE8 : Hid (wr.alloc (.cells #[.int .i64 (-7777 - (k : Int)), .int .i64 0, .string ⟨#[]⟩] 45) = w8) := e8
          have X8 : Hid (Bx w8 wr.heap.size #[.int .i64 (-7777 - (k : Int)), .int .i64 0, .string ⟨#[]⟩] 45) := by unfold Hid; rw [← e8]; exact Bx.new _ _ _
          have B8 : Hid (Below wo.heap.size wo w8) := by unfold Hid; rw [← e8]; exact HI.out.alloc HI.out.size _
          obtain ⟨X, F, hX, hF, onto⟩ := class_ofE (fun v => Below w8.heap.size w8 v) (Below.refl _ w8)
          have HF : Hid (∀ y, Below w8.heap.size w8 (F y)) := hF
          have HO : Hid (∀ v, Below w8.heap.size w8 v → ∃ x, v = F x) := fun v h => by obtain ⟨x, hx⟩ := onto v h; exact ⟨x, hx.symm⟩
          have f0 : ∀ y, (F y).cell? ⟨wr.heap.size, 0, none⟩ = some (.int .i64 (-7777 - (k : Int))) := fun y => (X8.out.below (hF y) X8.out.lt).t0
          have f1 : ∀ y, (F y).cell? ⟨wr.heap.size, 1, none⟩ = some (.int .i64 0) := fun y => (X8.out.below (hF y) X8.out.lt).t1
          have f2 : ∀ y, (F y).cell? ⟨wr.heap.size, 2, none⟩ = some (.string ⟨#[]⟩) := fun y => (X8.out.below (hF y) X8.out.lt).t2
          clear hF onto hro hrep cc e8
          go_upto_region 33 with fail
          rw [HE8.out]
          clear d0 d1 d2
          refine region_classE F (by kernel_rfl) (by kernel_rfl) (by obtain ⟨x, hx⟩ := HO.out _ (Below.refl _ _).drew; exact ⟨x, hx.symm⟩) ?_
          repeat (go_big_quiet_step (first | (go_at_call 76; refine (mark_any k _ (by omega)).mono ?_; rintro e w5 ⟨rfl, rfl⟩; exact ⟨rfl, HO.out _ (HF.out _)⟩)))
          refine wpQuiet_nil ?_
          rintro _ ⟨nq, rfl⟩
          have HB2 : Hid (Below wo.heap.size wo (F nq)) := B8.out.trans ((HF.out nq).mono B8.out.size)
          go_wp2
          go_roundg (rn - (i + 1))
          case measure => omega
          case rel => exact ⟨i + 1, rfl, by omega, by go_num, HB2.out⟩
        · have hli' : ¬ (i : Int) < (rn : Int) := by omega
          go_wp2
          go_roundg (ts.length - (k + 1))
          case measure => omega
          case rel => exact ⟨k + 1, rfl, by omega, by go_num, HB.out.trans (HI.out.mono HB.out.size)⟩
    · have hlt' : ¬ (k : Int) < (ts.length : Int) := by omega
      go_wp2_with (go_at_call 77; (with_reducible refine (others_any b more _ _ _ (HX.out _ HB.out)).mono ?_); rintro e w5 ⟨rfl, hb5⟩; have HB5 : Hid (Below w.heap.size w w5) := HB.out.trans (hb5.mono HB.out.size); clear hb5)
      go_ret
      exact ⟨rfl, HB5.out⟩
end Go.Proofs.YteolfolkolpehaaDoor

namespace Go.Proofs.YteolfolkolpehaaDoor
open Go.ChangeShapes Go.WideShapes Go.ChangeAt Go.RowKit
set_option linter.unusedVariables false
set_option linter.unusedSimpArgs false

/-- the lists after m marks more, and one more for those below k -/
def Grn (m k : Nat) (rs ts : List Rr) : Prop := ts.length = rs.length ∧ ∀ (j : Nat) r t, rs[j]? = some r → ts[j]? = some t → t.n = r.n + m + (if j < k then 1 else 0) ∧ t.xs = flat (List.replicate t.n (mkE j))

set_option maxRecDepth 1000000 in
set_option maxHeartbeats 2000000 in
theorem grow_any (b B : Nat) (w : World) (V U : Value) (rs us : List Rr) (hbx : Bx w b (bxA V U) 54) (hS : She 45 22 3 B w V U rs us) (hrs : rs.length ≤ 1000) (hn : ∀ r ∈ rs, r.n ≤ 1000000) (hM : Grn 0 0 rs rs) (hbB : b < B) (hBw : B ≤ w.heap.size) :
    Calls Tryd.prog 56 #[.pointer (some ⟨b, 0, none⟩)] w fun e w' => (∃ x, e = .returned x) ∧ ∃ ts, Bx w' b (bxA V U) 54 ∧ She 45 22 3 B w' V U ts us ∧ Grn 70 0 rs ts ∧ Below b w w' := by
  obtain ⟨i0, hi0, hz0, hz1, hz2⟩ := info_parts infoEdR
  have HX : Hid (Bx w b (bxA V U) 54) := hbx
  have HS : Hid (She 45 22 3 B w V U rs us) := hS
  have HN : Hid (∀ r ∈ rs, r.n ≤ 1000000) := hn
  have HM : Hid (Grn 0 0 rs rs) := hM
  clear hbx hS hn hM
  obtain ⟨aV, cV, rfl, -, -⟩ := own_slice HS.out.outV
  obtain ⟨aU, cU, rfl, -, -⟩ := own_slice HS.out.outU
  go_enter Tryd.func56, Tryd.ntmps56
  go_wp2
  go_loopg [2] 70 (fun gk si wr => ∃ (m : Nat) (ts : List Rr), gk = 70 - m ∧ m ≤ 70 ∧ si = .int .i64 (m : Int) ∧ Bx wr b (bxA (.slice aV rs.length cV) (.slice aU us.length cU)) 54 ∧ She 45 22 3 B wr (.slice aV rs.length cV) (.slice aU us.length cU) ts us ∧ Grn m 0 rs ts ∧ Below b w wr ∧ B ≤ wr.heap.size)
  case atStart => exact ⟨0, rs, rfl, Nat.zero_le _, rfl, HX.out, HS.out, HM.out, Below.refl _ _, hBw⟩
  case round =>
    obtain ⟨m, ts, rfl, hm, rfl, hX, hSr, hG, hbel, hBr⟩ := hrel
    have XR : Hid (Bx wr b (bxA (.slice aV rs.length cV) (.slice aU us.length cU)) 54) := hX
    have SR : Hid (She 45 22 3 B wr (.slice aV rs.length cV) (.slice aU us.length cU) ts us) := hSr
    have HG : Hid (Grn m 0 rs ts) := hG
    have HB : Hid (Below b w wr) := hbel
    have HZ : Hid (B ≤ wr.heap.size) := hBr
    clear hX hSr hG hbel hBr
    by_cases hm70 : m < 70
    · have hm70' : (m : Int) < 70 := by omega
      have c0 : wr.cell? ⟨b, 0, none⟩ = some (.slice none 0 0) := XR.out.cell 0
      have c2 : wr.cell? ⟨b, 2, none⟩ = some (.slice none 0 0) := XR.out.cell 2
      have c4 : wr.cell? ⟨b, 4, none⟩ = some (.slice aV rs.length cV) := XR.out.cell 4
      go_wp2
      refine wp_loop_rounds 1 ?_
      rw [rounds_succ]
      go_wp2
      refine wp_loop_rounds 1 ?_
      rw [rounds_succ]
      go_wp2
      clear c0 c2 c4
      go_loopg [72] rs.length (fun gi si wi => ∃ (n : Nat) (ts : List Rr), gi = rs.length - n ∧ n ≤ rs.length ∧ si = .int .i64 (n : Int) ∧ Bx wi b (bxA (.slice aV rs.length cV) (.slice aU us.length cU)) 54 ∧ She 45 22 3 B wi (.slice aV rs.length cV) (.slice aU us.length cU) ts us ∧ Grn m n rs ts ∧ Below b w wi ∧ B ≤ wi.heap.size)
      case atStart => exact ⟨0, ts, rfl, Nat.zero_le _, rfl, XR.out, SR.out, HG.out, HB.out, HZ.out⟩
      case round =>
        obtain ⟨n, ts, rfl, hn, rfl, hX, hSr, hG, hbel, hBr⟩ := hrel
        clear XR SR HG HB HZ
        have XR : Hid (Bx wr b (bxA (.slice aV rs.length cV) (.slice aU us.length cU)) 54) := hX
        have SR : Hid (She 45 22 3 B wr (.slice aV rs.length cV) (.slice aU us.length cU) ts us) := hSr
        have HG : Hid (Grn m n rs ts) := hG
        have HB : Hid (Below b w wr) := hbel
        have HZ : Hid (B ≤ wr.heap.size) := hBr
        clear hX hSr hG hbel hBr
        by_cases hlt : n < rs.length
        · have hlt' : (n : Int) < (rs.length : Int) := by omega
          have hn0 : (0 : Int) ≤ (n : Int) := by omega
          obtain ⟨r0, hr0⟩ : ∃ r, rs[n]? = some r := ⟨_, List.getElem?_eq_getElem hlt⟩
          obtain ⟨t, ht⟩ : ∃ t, ts[n]? = some t := ⟨_, List.getElem?_eq_getElem (by have := HG.out.1; omega)⟩
          obtain ⟨htn, htx⟩ := HG.out.2 n r0 t hr0 ht
          rw [if_neg (Nat.lt_irrefl n)] at htn
          have hr0n := HN.out r0 (List.mem_of_getElem? hr0)
          obtain ⟨gV, cV', hV, cv, fv⟩ := SR.out.cellV ht
          rw [HG.out.1] at hV
          simp only [Value.slice.injEq] at hV
          obtain ⟨rfl, -, rfl⟩ := hV
          have hro := SR.out.get ht
          obtain ⟨a1, c1, hv1, -, -⟩ := own_slice hro
          obtain ⟨tv, tn, tx⟩ := t
          simp only at htn htx hv1 hro cv
          subst hv1
          subst htx
          have HT : Hid (ts[n]? = some ⟨(.slice a1 tn c1), tn, flat (List.replicate tn (mkE n))⟩) := ht
          have HRO : Hid (wr.ownsRow B 45 3 (.slice a1 tn c1) tn (flat (List.replicate tn (mkE n)))) := hro
          have HR0 : Hid (rs[n]? = some r0) := hr0
          have c4 : wr.cell? ⟨b, 4, none⟩ = some (.slice (some ⟨gV, 0, none⟩) rs.length cV) := XR.out.cell 4
          have htb : tn ≤ 1000100 := by omega
          have HTN : Hid (tn = r0.n + m + 0) := htn
          have HSr : wr.cell? ⟨b, 4, none⟩ = some (.slice (some ⟨gV, 0, none⟩) rs.length cV) ∧ wr.cell? ⟨gV, n, none⟩ = some (.slice a1 tn c1) := ⟨c4, cv⟩
          clear hr0 ht hro hr0n htn
          · go_upto_region 16 with fail
            refine wp_region_G (fun z => z.cell? ⟨b, 4, none⟩ = some (.slice (some ⟨gV, 0, none⟩) rs.length cV) ∧ z.cell? ⟨gV, n, none⟩ = some (.slice a1 tn c1)) 18 (by kernel_rfl) ?_
            refine wpAnyG_take (i := 0) (v := .pointer (some ⟨b, 0, none⟩)) rfl (by kernel_rfl) (by kernel_rfl) (by kernel_rfl) (fun _ _ _ h => h) (by kernel_rfl) (by kernel_rfl) (by kernel_rfl) (Or.inl ⟨by rfl, fun z hz => ?_⟩) HSr ?_
            · obtain ⟨hz4, hzr⟩ := hz
              go_simp
            try simp only [Act.put, List.setIfInBounds_toArray, List.set_cons_zero, List.set_cons_succ]
            refine wpAnyG_take (i := 1) (v := .pointer (some ⟨b, 0, none⟩)) rfl (by kernel_rfl) (by kernel_rfl) (by kernel_rfl) (fun _ _ _ h => h) (by kernel_rfl) (by kernel_rfl) (by kernel_rfl) (Or.inl ⟨by rfl, fun z hz => ?_⟩) HSr ?_
            · obtain ⟨hz4, hzr⟩ := hz
              go_simp
            try simp only [Act.put, List.setIfInBounds_toArray, List.set_cons_zero, List.set_cons_succ]
            refine wpAnyG_take (i := 2) (v := .pointer (some ⟨b, 4, none⟩)) rfl (by kernel_rfl) (by kernel_rfl) (by kernel_rfl) (fun _ _ _ h => h) (by kernel_rfl) (by kernel_rfl) (by kernel_rfl) (Or.inl ⟨by rfl, fun z hz => ?_⟩) HSr ?_
            · obtain ⟨hz4, hzr⟩ := hz
              go_simp
            try simp only [Act.put, List.setIfInBounds_toArray, List.set_cons_zero, List.set_cons_succ]
            refine wpAnyG_take (i := 3) (v := .slice (some ⟨gV, 0, none⟩) rs.length cV) rfl (by kernel_rfl) (by kernel_rfl) (by kernel_rfl) (fun _ _ _ h => h) (by kernel_rfl) (by kernel_rfl) (by kernel_rfl) (Or.inl ⟨by rfl, fun z hz => ?_⟩) HSr ?_
            · obtain ⟨hz4, hzr⟩ := hz
              go_simp
            try simp only [Act.put, List.setIfInBounds_toArray, List.set_cons_zero, List.set_cons_succ]
            refine wpAnyG_take (i := 4) (v := .int .i64 (n : Int)) rfl (by kernel_rfl) (by kernel_rfl) (by kernel_rfl) (fun _ _ _ h => h) (by kernel_rfl) (by kernel_rfl) (by kernel_rfl) (Or.inl ⟨by rfl, fun z hz => ?_⟩) HSr ?_
            · obtain ⟨hz4, hzr⟩ := hz
              go_simp
            try simp only [Act.put, List.setIfInBounds_toArray, List.set_cons_zero, List.set_cons_succ]
            refine wpAnyG_take (i := 5) (v := .pointer (some ⟨b, 0, none⟩)) rfl (by kernel_rfl) (by kernel_rfl) (by kernel_rfl) (fun _ _ _ h => h) (by kernel_rfl) (by kernel_rfl) (by kernel_rfl) (Or.inl ⟨by rfl, fun z hz => ?_⟩) HSr ?_
            · obtain ⟨hz4, hzr⟩ := hz
              go_simp
            try simp only [Act.put, List.setIfInBounds_toArray, List.set_cons_zero, List.set_cons_succ]
            refine wpAnyG_take (i := 6) (v := .pointer (some ⟨b, 0, none⟩)) rfl (by kernel_rfl) (by kernel_rfl) (by kernel_rfl) (fun _ _ _ h => h) (by kernel_rfl) (by kernel_rfl) (by kernel_rfl) (Or.inl ⟨by rfl, fun z hz => ?_⟩) HSr ?_
            · obtain ⟨hz4, hzr⟩ := hz
              go_simp
            try simp only [Act.put, List.setIfInBounds_toArray, List.set_cons_zero, List.set_cons_succ]
            refine wpAnyG_take (i := 7) (v := .pointer (some ⟨b, 4, none⟩)) rfl (by kernel_rfl) (by kernel_rfl) (by kernel_rfl) (fun _ _ _ h => h) (by kernel_rfl) (by kernel_rfl) (by kernel_rfl) (Or.inl ⟨by rfl, fun z hz => ?_⟩) HSr ?_
            · obtain ⟨hz4, hzr⟩ := hz
              go_simp
            try simp only [Act.put, List.setIfInBounds_toArray, List.set_cons_zero, List.set_cons_succ]
            refine wpAnyG_take (i := 8) (v := .slice (some ⟨gV, 0, none⟩) rs.length cV) rfl (by kernel_rfl) (by kernel_rfl) (by kernel_rfl) (fun _ _ _ h => h) (by kernel_rfl) (by kernel_rfl) (by kernel_rfl) (Or.inl ⟨by rfl, fun z hz => ?_⟩) HSr ?_
            · obtain ⟨hz4, hzr⟩ := hz
              go_simp
            try simp only [Act.put, List.setIfInBounds_toArray, List.set_cons_zero, List.set_cons_succ]
            refine wpAnyG_take (i := 9) (v := .int .i64 (n : Int)) rfl (by kernel_rfl) (by kernel_rfl) (by kernel_rfl) (fun _ _ _ h => h) (by kernel_rfl) (by kernel_rfl) (by kernel_rfl) (Or.inl ⟨by rfl, fun z hz => ?_⟩) HSr ?_
            · obtain ⟨hz4, hzr⟩ := hz
              go_simp
            try simp only [Act.put, List.setIfInBounds_toArray, List.set_cons_zero, List.set_cons_succ]
            refine wpAnyG_take (i := 10) (v := .pointer (some ⟨gV, n, none⟩)) rfl (by kernel_rfl) (by kernel_rfl) (by kernel_rfl) (fun _ _ _ h => h) (by kernel_rfl) (by kernel_rfl) (by kernel_rfl) (Or.inl ⟨by rfl, fun z hz => ?_⟩) HSr ?_
            · obtain ⟨hz4, hzr⟩ := hz
              go_simp
            try simp only [Act.put, List.setIfInBounds_toArray, List.set_cons_zero, List.set_cons_succ]
            refine wpAnyG_take (i := 11) (v := .slice a1 tn c1) rfl (by kernel_rfl) (by kernel_rfl) (by kernel_rfl) (fun _ _ _ h => h) (by kernel_rfl) (by kernel_rfl) (by kernel_rfl) (Or.inl ⟨by rfl, fun z hz => ?_⟩) HSr ?_
            · obtain ⟨hz4, hzr⟩ := hz
              go_simp
            try simp only [Act.put, List.setIfInBounds_toArray, List.set_cons_zero, List.set_cons_succ]
            refine wpAnyG_take (i := 12) (v := .int .i64 (n : Int)) rfl (by kernel_rfl) (by kernel_rfl) (by kernel_rfl) (fun _ _ _ h => h) (by kernel_rfl) (by kernel_rfl) (by kernel_rfl) (Or.inl ⟨by rfl, fun z hz => ?_⟩) HSr ?_
            · obtain ⟨hz4, hzr⟩ := hz
              go_simp
            try simp only [Act.put, List.setIfInBounds_toArray, List.set_cons_zero, List.set_cons_succ]
            refine wpAnyG_one (i := 13) (by kernel_rfl) rfl (fun K hK0 => ?_)
            have hK : Hid _ := hK0
            clear hK0
            go_simp
            refine (mark_any n _ (by omega)).mono ?_
            rintro e w5 ⟨rfl, rfl⟩
            refine hK.out _ _ (fun _ => HSr) ?_
            clear hK K
            try simp only [Act.put, List.setIfInBounds_toArray, List.set_cons_zero, List.set_cons_succ]
            refine wpAnyG_one (i := 14) (by kernel_rfl) rfl (fun K hK0 => ?_)
            have hK : Hid _ := hK0
            clear hK0
            go_simp
            refine hK.out _ _ (fun _ => HSr) ?_
            clear hK K
            try simp only [Act.put, List.setIfInBounds_toArray, List.set_cons_zero, List.set_cons_succ]
            refine wpAnyG_one (i := 15) (by kernel_rfl) rfl (fun K hK0 => ?_)
            have hK : Hid _ := hK0
            clear hK0
            go_simp
            obtain ⟨WA, hWA⟩ : ∃ WA, (wr.alloc (.cells #[Value.int .i64 (-7777 - (n : Int)), .int .i64 0, .string ⟨#[]⟩] 45)).drew = WA := ⟨_, rfl⟩
            have hA : Below wr.heap.size wr WA := by rw [← hWA]; exact ((Below.refl _ wr).alloc (Nat.le_refl _) _).drew
            have HNW : Hid (∀ j u, [Value.int .i64 (-7777 - (n : Int)), .int .i64 0, .string ⟨#[]⟩][j]? = some u → WA.cell? ((⟨wr.heap.size, 0, none⟩ : Addr).add j) = some u) := by unfold Hid; rw [← hWA]; exact cells_newR wr [Value.int .i64 (-7777 - (n : Int)), .int .i64 0, .string ⟨#[]⟩] 45
            have HZA : Hid (WA.heap.size = wr.heap.size + 1) := by unfold Hid; rw [← hWA]; show (wr.alloc _).heap.size = _; simp
            have SA : Hid (She 45 22 3 B WA (.slice (some ⟨gV, 0, none⟩) rs.length cV) (.slice aU us.length cU) ts us) := SR.out.below hA
            have XA : Hid (Bx WA b (bxA (.slice (some ⟨gV, 0, none⟩) rs.length cV) (.slice aU us.length cU)) 54) := XR.out.below hA XR.out.lt
            have HSa : WA.cell? ⟨b, 4, none⟩ = some (.slice (some ⟨gV, 0, none⟩) rs.length cV) ∧ WA.cell? ⟨gV, n, none⟩ = some (.slice a1 tn c1) := ⟨XA.out.cell 4, (hA.cell (World.block_lt_of_cell? _ _ cv)).trans cv⟩
            rw [hWA]
            clear hWA
            refine hK.out _ _ (fun _ => HSa) ?_
            clear hK K
            try simp only [Act.put, List.setIfInBounds_toArray, List.set_cons_zero, List.set_cons_succ]
            refine wpAnyG_one (i := 16) (by kernel_rfl) rfl (fun K hK0 => ?_)
            have hK : Hid _ := hK0
            clear hK0
            refine step_append_lies _ (by rfl) _ _ _ (by rfl) B 45 i0 (.agg #[.int .i64 0, .int .i64 0, .string ⟨#[]⟩]) 3 32 Tryd.underlying22 hi0 hz0 hz1 hz2 rfl (by omega) (.slice a1 tn c1) tn (flat (List.replicate tn (mkE n))) (by rfl) (SA.out.get HT.out) ⟨wr.heap.size, 0, none⟩ 1 1 [Value.int .i64 (-7777 - (n : Int)), .int .i64 0, .string ⟨#[]⟩] (by rfl) (by rfl) HNW.out (by intro u hu; simp at hu; rcases hu with rfl | rfl | rfl <;> rfl) (by omega) (by unfold maxLen; omega) (by omega) (by have := HZ.out; have := HZA.out; omega) (wr.heap.size + 1) HZA.out ?_
            intro gg cp w9 hown9 hgrow9 hat9 hlt9
            have hVo : (Value.slice (some ⟨gV, 0, none⟩) rs.length cV).ownBlock = some gV := rfl
            have hrowV : ∀ g, (Value.slice a1 tn c1).ownBlock = some g → g ≠ gV := fun g hg e => own_otherR SR.out.outV (SR.out.get HT.out) (by decide) hg (by rw [e]; rfl)
            have hrowb : (Value.slice a1 tn c1).ownBlock ≠ some b := fun h => by have := (HRO.out.lt b h).1; omega
            have X9 : Hid (Bx w9 b (bxA (.slice (some ⟨gV, 0, none⟩) rs.length cV) (.slice aU us.length cU)) 54) := XA.out.grw hgrow9 hrowb
            have G9 : Hid (She 45 22 3 B (w9.setCell ⟨gV, n, none⟩ (.slice (some ⟨gg, 0, none⟩) (tn + 1) cp)) (.slice (some ⟨gV, 0, none⟩) rs.length cV) (.slice aU us.length cU) (ts.set n ⟨.slice (some ⟨gg, 0, none⟩) (tn + 1) cp, tn + 1, flat (List.replicate tn (mkE n)) ++ [Value.int .i64 (-7777 - (n : Int)), .int .i64 0, .string ⟨#[]⟩]⟩) us) :=
              SA.out.grow (by decide) (m := 1) HT.out hown9 hgrow9 (hat9.elim (fun h => .inl h.symm) (fun h => .inr (by rw [h, HZA.out]; rfl))) (by rw [HG.out.1])
            have hgVb : b ≠ gV := fun e => by have := (SR.out.outV.lt gV rfl).1; omega
            have cv9 : w9.cell? ⟨gV, n, none⟩ = some (.slice a1 tn c1) := by
              have hlV := (SR.out.outV.lt gV rfl).2
              unfold World.cell?
              rw [hgrow9.block gV (by rw [HZA.out]; omega) (fun e => hrowV gV e.symm rfl)]
              exact HSa.2
            have fv9 : w9.frozen? ⟨gV, n, none⟩ = false := by
              have hlV := (SR.out.outV.lt gV rfl).2
              unfold World.frozen?
              rw [hgrow9.block gV (by rw [HZA.out]; omega) (fun e => hrowV gV e.symm rfl), hA.block gV hlV]
              exact fv
            have HS9 : w9.cell? ⟨b, 4, none⟩ = some (.slice (some ⟨gV, 0, none⟩) rs.length cV) ∧ w9.cell? ⟨gV, n, none⟩ = some (.slice a1 tn c1) := ⟨X9.out.cell 4, cv9⟩
            have B9 : Hid (Below b w w9) := (HB.out.trans (hA.mono (by have := HZ.out; omega))).grown hgrow9 (by rw [HZA.out]; have := HZ.out; omega) (fun g h => by have := (HRO.out.lt g h).1; omega)
            have Z9 : Hid (B ≤ w9.heap.size) := by unfold Hid; have := HZ.out; have := hgrow9.size; have := HZA.out; omega
            clear hown9 hgrow9 hat9 hlt9
            refine hK.out _ _ (fun _ => HS9) ?_
            clear hK K
            try simp only [Act.put, List.setIfInBounds_toArray, List.set_cons_zero, List.set_cons_succ]
            refine wpAnyG_one (i := 17) (by kernel_rfl) rfl (fun K hK0 => ?_)
            have hK : Hid _ := hK0
            clear hK0
            go_simp
            refine hK.out _ _ (fun _ => HS9) ?_
            clear hK K
            try simp only [Act.put, List.setIfInBounds_toArray, List.set_cons_zero, List.set_cons_succ]
            refine wpAnyG_one (i := 18) (by kernel_rfl) rfl (fun K hK0 => ?_)
            have hK : Hid _ := hK0
            clear hK0
            go_simp
            refine hK.out _ _ (fun h => Bool.noConfusion (show true = false from h)) ?_
            clear hK K
            try simp only [Act.put, List.setIfInBounds_toArray, List.set_cons_zero, List.set_cons_succ]
            refine wpAnyG_done (by kernel_rfl) ?_ _
            go_wp2
            go_roundg (rs.length - (n + 1))
            case measure => omega
            case rel =>
              refine ⟨n + 1, _, rfl, by omega, by go_num, X9.out.other ⟨gV, n, none⟩ hgVb _, G9.out, ⟨by rw [List.length_set]; exact HG.out.1, fun j r t hr ht => ?_⟩, B9.out.setCell (p := ⟨gV, n, none⟩) (by show b ≤ gV; have := (SR.out.outV.lt gV rfl).1; omega) _, by have := Z9.out; simpa using this⟩
              rw [List.getElem?_set] at ht
              by_cases hjn : n = j
              · subst hjn
                rw [if_pos rfl, if_pos (by have := HG.out.1; omega)] at ht
                rw [← Option.some.inj ht]
                have hrr : r = r0 := by rw [HR0.out] at hr; exact (Option.some.inj hr).symm
                rw [hrr, if_pos (Nat.lt_succ_self _)]
                refine ⟨?_, ?_⟩
                · show tn + 1 = _
                  have := HTN.out
                  omega
                · show _ = flat (List.replicate (tn + 1) (mkE n))
                  rw [flat_snoc]
                  rfl
              · rw [if_neg hjn] at ht
                obtain ⟨h1, h2⟩ := HG.out.2 j r t hr ht
                refine ⟨?_, h2⟩
                rw [h1]
                by_cases hj : j < n
                · rw [if_pos hj, if_pos (by omega)]
                · rw [if_neg hj, if_neg (by omega)]
        · have hlt' : ¬ (n : Int) < (rs.length : Int) := by omega
          have d6 : wr.cell? ⟨b, 6, none⟩ = some (.slice none 0 0) := XR.out.cell 6
          have d8 : wr.cell? ⟨b, 8, none⟩ = some (.slice none 0 0) := XR.out.cell 8
          have d10 : wr.cell? ⟨b, 10, none⟩ = some (.slice none 0 0) := XR.out.cell 10
          go_wp2
          refine wp_loop_rounds 1 ?_
          rw [rounds_succ]
          go_wp2
          refine wp_loop_rounds 1 ?_
          rw [rounds_succ]
          go_wp2
          refine wp_loop_rounds 1 ?_
          rw [rounds_succ]
          go_wp2
          go_roundg (70 - (m + 1))
          case measure => omega
          case rel =>
            refine ⟨m + 1, ts, rfl, by omega, by go_num, XR.out, SR.out, ⟨HG.out.1, fun j r t hr ht => ?_⟩, HB.out, HZ.out⟩
            obtain ⟨h1, h2⟩ := HG.out.2 j r t hr ht
            refine ⟨?_, h2⟩
            have hj := (List.getElem?_eq_some_iff.1 hr).1
            rw [if_pos (by omega)] at h1
            rw [if_neg (by omega)]
            omega
    · have hm70' : ¬ (m : Int) < 70 := by omega
      go_wp2
      go_end0
      have he : m = 70 := by omega
      subst he
      first
        | exact ⟨⟨_, rfl⟩, ts, XR.out, SR.out, HG.out, HB.out⟩
        | exact ⟨⟨_, rfl⟩, XR.out, ts, SR.out, HG.out, HB.out⟩
        | exact ⟨⟨_, rfl⟩, XR.out, ⟨ts, SR.out, HG.out⟩, HB.out⟩
end Go.Proofs.YteolfolkolpehaaDoor
