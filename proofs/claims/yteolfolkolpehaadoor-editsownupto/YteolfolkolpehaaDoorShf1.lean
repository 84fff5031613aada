import Derived.Test.YteolfolkolpehaaDoorShn
namespace Go.Proofs.YteolfolkolpehaaDoor
open Go.ChangeShapes Go.WideShapes Go.ChangeAt Go.RowKit
set_option linter.unusedVariables false
set_option linter.unusedSimpArgs false

theorem region_classE {P : Program} {X : Type} (F : X → World) {id : Nat} {Q : Exit → Act → World → Prop} {a : Act} {w : World} {l : List Oper} (hm : P.follows .mixedOrders = true) (hB : Region.lexB .any l.toArray = true)
    (hx : ∃ x, F x = w.drew) (h : wpQuiet P l.toArray (fun w' => ∃ n, w' = F n) (fun a' => ∀ w', (∃ n, w' = F n) → Q .normal a' w') l a) : (Code.region id l.toArray true).wp P Q a w :=
  wp_region_quiet (C := fun w' => ∃ n, w' = F n) hm hB (by obtain ⟨x, hx⟩ := hx; exact ⟨x, hx.symm⟩) (by simpa using h)

/-- the worlds of which D holds, as a row of worlds -/
theorem class_ofE (D : World → Prop) {w : World} (hw : D w) : ∃ (X : Type) (F : X → World), Nonempty X ∧ (∀ x, D (F x)) ∧ ∀ v, D v → ∃ x, F x = v :=
  ⟨{v : World // D v}, Subtype.val, ⟨⟨w, hw⟩⟩, fun x => x.2, fun v h => ⟨⟨v, h⟩, rfl⟩⟩
/-- what stands on the shelf is what it was -/
def Sti (rs us : List Rr) : Prop := rs.length = us.length ∧ ∀ (i : Nat) r u, rs[i]? = some r → us[i]? = some u → ∃ E : List Ed, r.n = E.length ∧ r.xs = flat E ∧ u.n = E.length ∧ u.xs = flat E ∧ E.length ≤ 1000000
theorem edsA_own {w : World} {B n c : Nat} {a : Option Addr} {xs : List Ed} (h : w.ownsRow B 45 3 (.slice a n c) n (flat xs)) : EdsA w a xs := by
  rcases h.2 with ⟨hv, h0⟩ | ⟨g, cap, cur, hv, _⟩
  · left
    have := h.1
    rw [flat_length] at this
    exact List.eq_nil_of_length_eq_zero (by omega)
  · right
    simp only [Value.slice.injEq] at hv
    obtain ⟨ha, -, hc⟩ := hv
    subst hc
    subst ha
    exact ⟨g, 0, rfl, Eds.own h⟩

set_option maxRecDepth 1000000 in
set_option maxHeartbeats 2000000 in
theorem still_any (b B : Nat) (w : World) (V U : Value) (rs us : List Rr) (hbx : Bx w b (bxA V U) 54) (hS : She 45 22 3 B w V U rs us) (hE : Sti rs us) (hrs : rs.length ≤ 1000) :
    Calls Tryd.prog 53 #[.pointer (some ⟨b, 0, none⟩)] w fun e w' => e = .returned (.bool true) ∧ Below w.heap.size w w' := by
  have HX : Hid (∀ v, Below w.heap.size w v → Bx v b (bxA V U) 54) := fun v hv => hbx.below hv hbx.lt
  have HS : Hid (She 45 22 3 B w V U rs us) := hS
  have HE : Hid (Sti rs us) := hE
  have c0 : w.cell? ⟨b, 0, none⟩ = some (.slice none 0 0) := hbx.cell 0
  clear hbx hS hE
  obtain ⟨aV, cV, rfl, -, -⟩ := own_slice HS.out.outV
  obtain ⟨aU, cU, rfl, -, -⟩ := own_slice HS.out.outU
  have hul : us.length = rs.length := HE.out.1.symm
  rw [hul] at HX HS
  have c2 : w.cell? ⟨b, 2, none⟩ = some (.slice none 0 0) := (HX.out w (Below.refl _ _)).cell 2
  have c4 : w.cell? ⟨b, 4, none⟩ = some (.slice aV rs.length cV) := (HX.out w (Below.refl _ _)).cell 4
  go_enter Tryd.func53, Tryd.ntmps53
  go_wp2
  refine wp_loop_rounds 1 ?_
  rw [rounds_succ]
  go_wp2
  refine wp_loop_rounds 1 ?_
  rw [rounds_succ]
  go_wp2
  clear c0 c2 c4
  go_loopg [66] rs.length (fun gk si wr => ∃ k : Nat, gk = rs.length - k ∧ k ≤ rs.length ∧ si = .int .i64 (k : Int) ∧ Below w.heap.size w wr)
  case atStart => exact ⟨0, rfl, Nat.zero_le _, rfl, Below.refl _ _⟩
  case round =>
    obtain ⟨k, rfl, hk, rfl, hbel⟩ := hrel
    have HB : Hid (Below w.heap.size w wr) := hbel
    have SR : Hid (She 45 22 3 B wr (.slice aV rs.length cV) (.slice aU rs.length cU) rs us) := HS.out.below hbel
    clear hbel
    by_cases hlt : k < rs.length
    · have hlt' : (k : Int) < (rs.length : Int) := by omega
      have hk0 : (0 : Int) ≤ (k : Int) := by omega
      obtain ⟨r, hr⟩ : ∃ r, rs[k]? = some r := ⟨_, List.getElem?_eq_getElem hlt⟩
      obtain ⟨u, hu⟩ : ∃ u, us[k]? = some u := ⟨_, List.getElem?_eq_getElem (by omega)⟩
      obtain ⟨E, hn1, hx1, hn2, hx2, hEl⟩ := HE.out.2 k r u hr hu
      obtain ⟨gV, cV', hV, cv, -⟩ := SR.out.cellV hr
      obtain ⟨gU, cU', hU, cu⟩ := SR.out.cellU hu
      simp only [Value.slice.injEq] at hV hU
      obtain ⟨rfl, -, rfl⟩ := hV
      obtain ⟨rfl, -, rfl⟩ := hU
      have hro := SR.out.get hr
      have huo := SR.out.getU hu
      obtain ⟨a1, c1, hv1, -, -⟩ := own_slice hro
      obtain ⟨a2, c2, hv2, -, -⟩ := own_slice huo
      rw [hv1, hn1, hx1] at hro
      rw [hv2, hn2, hx2] at huo
      rw [hv1, hn1] at cv
      rw [hv2, hn2] at cu
      have HSE : Hid (∀ v, Below wr.heap.size wr v → Calls Tryd.prog 10 #[.slice a1 E.length c1, .slice a2 E.length c2] v fun e w' => e = .returned (.bool true) ∧ Below v.heap.size v w') := fun v hv =>
        same_any a1 a2 c1 c2 E v ((edsA_own hro).below hv) ((edsA_own huo).below hv) (by unfold maxLen; omega)
      obtain ⟨X, F, hX, hF, onto⟩ := class_ofE (fun v => Below wr.heap.size wr v) (Below.refl _ wr)
      have HF : Hid (∀ y, Below wr.heap.size wr (F y)) := hF
      have HO : Hid (∀ v, Below wr.heap.size wr v → ∃ x, v = F x) := fun v h => by obtain ⟨x, hx⟩ := onto v h; exact ⟨x, hx.symm⟩
      have f4 : ∀ y, (F y).cell? ⟨b, 4, none⟩ = some (.slice (some ⟨gV, 0, none⟩) rs.length cV) := fun y => (HX.out _ (HB.out.trans ((hF y).mono HB.out.size))).cell 4
      have f5 : ∀ y, (F y).cell? ⟨b, 5, none⟩ = some (.slice (some ⟨gU, 0, none⟩) rs.length cU) := fun y => (HX.out _ (HB.out.trans ((hF y).mono HB.out.size))).cell 5
      have fv : ∀ y, (F y).cell? ⟨gV, k, none⟩ = some (.slice a1 E.length c1) := fun y => ((hF y).cell (World.block_lt_of_cell? _ _ cv)).trans cv
      have fu : ∀ y, (F y).cell? ⟨gU, k, none⟩ = some (.slice a2 E.length c2) := fun y => ((hF y).cell (World.block_lt_of_cell? _ _ cu)).trans cu
      clear hF onto hro huo hr hu cv cu hv1 hv2 hn1 hn2 hx1 hx2
      go_upto_region 16 with fail
      refine region_classE F (by kernel_rfl) (by kernel_rfl) (by obtain ⟨x, hx⟩ := HO.out _ (Below.refl _ _).drew; exact ⟨x, hx.symm⟩) ?_
      repeat (go_big_quiet_step (first | (go_at_call 10; with_reducible refine (HSE.out _ (HF.out _)).mono ?_; rintro e w5 ⟨rfl, hb5⟩; exact ⟨rfl, HO.out _ ((HF.out _).trans (hb5.mono (HF.out _).size))⟩)))
      refine wpQuiet_nil ?_
      rintro _ ⟨nq, rfl⟩
      have HB2 : Hid (Below w.heap.size w (F nq)) := HB.out.trans ((HF.out nq).mono HB.out.size)
      go_wp2
      go_roundg (rs.length - (k + 1))
      case measure => omega
      case rel => exact ⟨k + 1, rfl, by omega, by go_num, HB2.out⟩
    · have hlt' : ¬ (k : Int) < (rs.length : Int) := by omega
      have d6 : wr.cell? ⟨b, 6, none⟩ = some (.slice none 0 0) := (HX.out _ HB.out).cell 6
      have d8 : wr.cell? ⟨b, 8, none⟩ = some (.slice none 0 0) := (HX.out _ HB.out).cell 8
      have d10 : wr.cell? ⟨b, 10, none⟩ = some (.slice none 0 0) := (HX.out _ HB.out).cell 10
      go_wp2
      refine wp_loop_rounds 1 ?_
      rw [rounds_succ]
      go_wp2
      refine wp_loop_rounds 1 ?_
      rw [rounds_succ]
      go_wp2
      refine wp_loop_rounds 1 ?_
      rw [rounds_succ]
      go_wp2
      go_ret
      exact ⟨rfl, HB.out⟩
end Go.Proofs.YteolfolkolpehaaDoor

namespace Go.Proofs.YteolfolkolpehaaDoor
open Go.ChangeShapes Go.WideShapes Go.ChangeAt Go.RowKit
set_option linter.unusedVariables false
set_option linter.unusedSimpArgs false

/-- a list's mark -/
def mkE (j : Nat) : Ed := ⟨-7777 - (j : Int), 0, ⟨#[]⟩⟩
def vn (r : Rr) : Value × Nat := (r.v, r.n)
theorem vn_set {ts rs : List Rr} (h : ts.map vn = rs.map vn) {i : Nat} {r : Rr} (hr : ts[i]? = some r) (xs : List Value) : (ts.set i ⟨r.v, r.n, xs⟩).map vn = rs.map vn := by
  rw [← h]
  apply List.ext_getElem?
  intro j
  rw [List.getElem?_map, List.getElem?_map, List.getElem?_set]
  by_cases hj : i = j
  · subst hj
    rw [if_pos rfl, if_pos (List.getElem?_eq_some_iff.1 hr).1, hr]
    rfl
  · rw [if_neg hj]
theorem set_self {α : Type} {l : List α} {k : Nat} {r : α} (h : l[k]? = some r) : l.set k r = l := by
  apply List.ext_getElem?
  intro j
  rw [List.getElem?_set]
  by_cases hj : k = j
  · subst hj; rw [if_pos rfl, if_pos (List.getElem?_eq_some_iff.1 h).1, h]
  · rw [if_neg hj]
theorem addr_addR (g j : Nat) : (⟨g, 0, none⟩ : Addr).add j = ⟨g, j, none⟩ := by unfold Addr.add; by_cases hz : j = 0 <;> simp [hz]
theorem vn_len {ts rs : List Rr} (h : ts.map vn = rs.map vn) : ts.length = rs.length := by
  have := congrArg List.length h
  simpa using this
theorem She.store3 {e te : TypeId} {k B : Nat} {w : World} {V U : Value} {rs us : List Rr} (h : She e te k B w V U rs us) (hne : te ≠ e) {i : Nat} {r : Rr} (hr : rs[i]? = some r) {g c : Nat} (hv : r.v = .slice (some ⟨g, 0, none⟩) r.n c) (m1 m2 m3 : Nat) (u1 u2 u3 : Value) :
    She e te k B (((w.setCell ⟨g, m1, none⟩ u1).setCell ⟨g, m2, none⟩ u2).setCell ⟨g, m3, none⟩ u3) V U (rs.set i ⟨r.v, r.n, ((r.xs.set m1 u1).set m2 u2).set m3 u3⟩) us := by
  have hi := (List.getElem?_eq_some_iff.1 hr).1
  have h1 := h.store hne hr hv m1 u1
  have hr1 : (rs.set i ⟨r.v, r.n, r.xs.set m1 u1⟩)[i]? = some ⟨r.v, r.n, r.xs.set m1 u1⟩ := List.getElem?_set_self hi
  have h2 := h1.store hne hr1 hv m2 u2
  rw [List.set_set] at h2
  have hr2 : (rs.set i ⟨r.v, r.n, (r.xs.set m1 u1).set m2 u2⟩)[i]? = some ⟨r.v, r.n, (r.xs.set m1 u1).set m2 u2⟩ := List.getElem?_set_self hi
  have h3 := h2.store hne hr2 hv m3 u3
  rw [List.set_set] at h3
  exact h3
theorem flat_snoc (n : Nat) (e : Ed) : flat (List.replicate (n + 1) e) = flat (List.replicate n e) ++ [.int .i64 e.f, .int .i64 e.t, .string e.s] := by
  rw [List.replicate_succ', flat_append]; rfl
theorem take_set3 {xs : List Value} {i : Nat} {a b c : Value} (h : i * 3 + 3 ≤ xs.length) : (((xs.set (i * 3) a).set (i * 3 + 1) b).set (i * 3 + 2) c).take ((i + 1) * 3) = xs.take (i * 3) ++ [a, b, c] := by
  apply List.ext_getElem?
  intro j
  by_cases hj : j < (i + 1) * 3
  · rw [List.getElem?_take_of_lt hj]
    simp only [List.getElem?_set, List.length_set]
    by_cases h1 : j < i * 3
    · rw [if_neg (by omega), if_neg (by omega), if_neg (by omega), List.getElem?_append_left (by rw [List.length_take]; omega), List.getElem?_take_of_lt h1]
    · rw [List.getElem?_append_right (by rw [List.length_take]; omega), List.length_take, Nat.min_eq_left (by omega)]
      obtain rfl | rfl | rfl : j = i * 3 ∨ j = i * 3 + 1 ∨ j = i * 3 + 2 := by omega
      · rw [if_neg (by omega), if_neg (by omega), if_pos rfl, if_pos (by omega), Nat.sub_self]; rfl
      · rw [if_neg (by omega), if_pos rfl, if_pos (by omega), Nat.add_sub_cancel_left]; rfl
      · rw [if_pos rfl, if_pos (by omega), Nat.add_sub_cancel_left]; rfl
  · rw [List.getElem?_eq_none (by rw [List.length_take]; omega), List.getElem?_eq_none (by rw [List.length_append, List.length_take]; simp; omega)]

set_option maxRecDepth 1000000 in
set_option maxHeartbeats 2000000 in
theorem fill_any (b B : Nat) (w : World) (V U : Value) (rs us : List Rr) (hbx : Bx w b (bxA V U) 54) (hS : She 45 22 3 B w V U rs us) (hrs : rs.length ≤ 1000) (hn : ∀ r ∈ rs, r.n ≤ 1000000) (hbB : b < B) :
    Calls Tryd.prog 54 #[.pointer (some ⟨b, 0, none⟩)] w fun e w' => (∃ x, e = .returned x) ∧ ∃ ts, Bx w' b (bxA V U) 54 ∧ She 45 22 3 B w' V U ts us ∧ ts.map vn = rs.map vn ∧ (∀ j t, ts[j]? = some t → t.xs = flat (List.replicate t.n (mkE j))) ∧ Below b w w' := by
  have HX : Hid (Bx w b (bxA V U) 54) := hbx
  have HS : Hid (She 45 22 3 B w V U rs us) := hS
  have HN : Hid (∀ r ∈ rs, r.n ≤ 1000000) := hn
  have c0 : w.cell? ⟨b, 0, none⟩ = some (.slice none 0 0) := hbx.cell 0
  clear hbx hS hn
  obtain ⟨aV, cV, rfl, -, -⟩ := own_slice HS.out.outV
  obtain ⟨aU, cU, rfl, -, -⟩ := own_slice HS.out.outU
  have c2 : w.cell? ⟨b, 2, none⟩ = some (.slice none 0 0) := HX.out.cell 2
  have c4 : w.cell? ⟨b, 4, none⟩ = some (.slice aV rs.length cV) := HX.out.cell 4
  go_enter Tryd.func54, Tryd.ntmps54
  go_wp2
  refine wp_loop_rounds 1 ?_
  rw [rounds_succ]
  go_wp2
  refine wp_loop_rounds 1 ?_
  rw [rounds_succ]
  go_wp2
  clear c0 c2 c4
  go_loopg [71] rs.length (fun gk si wr => ∃ (k : Nat) (ts : List Rr), gk = rs.length - k ∧ k ≤ rs.length ∧ si = .int .i64 (k : Int) ∧ Bx wr b (bxA (.slice aV rs.length cV) (.slice aU us.length cU)) 54 ∧ She 45 22 3 B wr (.slice aV rs.length cV) (.slice aU us.length cU) ts us ∧ ts.map vn = rs.map vn ∧ (∀ j t, j < k → ts[j]? = some t → t.xs = flat (List.replicate t.n (mkE j))) ∧ Below b w wr)
  case atStart => exact ⟨0, rs, rfl, Nat.zero_le _, rfl, HX.out, HS.out, rfl, (fun j t h => by omega), Below.refl _ _⟩
  case round =>
    obtain ⟨k, ts, rfl, hk, rfl, hX, hSr, hvn, hdone, hbel⟩ := hrel
    have XR : Hid (Bx wr b (bxA (.slice aV rs.length cV) (.slice aU us.length cU)) 54) := hX
    have SR : Hid (She 45 22 3 B wr (.slice aV rs.length cV) (.slice aU us.length cU) ts us) := hSr
    have HV : Hid (ts.map vn = rs.map vn) := hvn
    have HD : Hid (∀ j t, j < k → ts[j]? = some t → t.xs = flat (List.replicate t.n (mkE j))) := hdone
    have HB : Hid (Below b w wr) := hbel
    have htl : ts.length = rs.length := vn_len hvn
    have HTL : Hid (ts.length = rs.length) := htl
    clear hX hSr hvn hdone hbel
    by_cases hlt : k < rs.length
    · have hlt' : (k : Int) < (rs.length : Int) := by omega
      have hk0 : (0 : Int) ≤ (k : Int) := by omega
      obtain ⟨r, hr⟩ : ∃ r, ts[k]? = some r := ⟨_, List.getElem?_eq_getElem (by omega)⟩
      have hrn : r.n ≤ 1000000 := by
        have h1 : (ts.map vn)[k]? = some (vn r) := by rw [List.getElem?_map, hr]; rfl
        rw [HV.out, List.getElem?_map] at h1
        obtain ⟨q, hq, he⟩ := Option.map_eq_some_iff.1 h1
        have h2 := HN.out q (List.mem_of_getElem? hq)
        have h3 : q.n = r.n := congrArg Prod.snd he
        omega
      obtain ⟨gV, cV', hV, cv, -⟩ := SR.out.cellV hr
      simp only [Value.slice.injEq] at hV
      obtain ⟨rfl, -, rfl⟩ := hV
      have hro := SR.out.get hr
      obtain ⟨rv, rn, rx⟩ := r
      simp only at hro hrn cv
      obtain ⟨a1, c1, rfl, hpos, -⟩ := own_slice hro
      have HR : Hid (ts[k]? = some ⟨.slice a1 rn c1, rn, rx⟩) := hr
      have HP : Hid (0 < rn → ∃ g, a1 = some ⟨g, 0, none⟩) := hpos
      clear htl hr hro hpos
      go_wp2
      clear cv
      go_loopg [78] rn (fun gi si wi => ∃ (i : Nat) (ys : List Value), gi = rn - i ∧ i ≤ rn ∧ si = .int .i64 (i : Int) ∧ ys.length = rn * 3 ∧ ys.take (i * 3) = flat (List.replicate i (mkE k)) ∧ Bx wi b (bxA (.slice (some ⟨gV, 0, none⟩) rs.length cV) (.slice aU us.length cU)) 54 ∧ She 45 22 3 B wi (.slice (some ⟨gV, 0, none⟩) rs.length cV) (.slice aU us.length cU) (ts.set k ⟨.slice a1 rn c1, rn, ys⟩) us ∧ Below b w wi)
      case atStart => exact ⟨0, rx, rfl, Nat.zero_le _, rfl, (SR.out.get HR.out).1, by simp [flat], XR.out, by rw [set_self HR.out]; exact SR.out, HB.out⟩
      case round =>
        obtain ⟨i, ys, rfl, hi, rfl, hyl, hyt, hX, hSi, hbel⟩ := hrel
        clear XR SR HB
        have XR : Hid (Bx wr b (bxA (.slice (some ⟨gV, 0, none⟩) rs.length cV) (.slice aU us.length cU)) 54) := hX
        have SR : Hid (She 45 22 3 B wr (.slice (some ⟨gV, 0, none⟩) rs.length cV) (.slice aU us.length cU) (ts.set k ⟨.slice a1 rn c1, rn, ys⟩) us) := hSi
        have HB : Hid (Below b w wr) := hbel
        have HYL : Hid (ys.length = rn * 3) := hyl
        have HYT : Hid (ys.take (i * 3) = flat (List.replicate i (mkE k))) := hyt
        clear hX hSi hbel hyl hyt
        by_cases hli : i < rn
        · have hli' : (i : Int) < (rn : Int) := by omega
          have hi0 : (0 : Int) ≤ (i : Int) := by omega
          obtain ⟨g, rfl⟩ := HP.out (by omega)
          have hget : (ts.set k ⟨.slice (some ⟨g, 0, none⟩) rn c1, rn, ys⟩)[k]? = some ⟨.slice (some ⟨g, 0, none⟩) rn c1, rn, ys⟩ := List.getElem?_set_self (by have := HTL.out; omega)
          have hro := SR.out.get hget
          simp only at hro
          have hgl := hro.lt g rfl
          have f0 := hro.frozenAt (i * 3)
          have hO1 := (hro.stored (i * 3) (.int .i64 (-7777 - (k : Int)))).1
          have f1 := hO1.frozenAt (i * 3 + 1)
          have hO2 := (hO1.stored (i * 3 + 1) (.int .i64 0)).1
          have f2 := hO2.frozenAt (i * 3 + 2)
          have HYL' := HYL.out
          have cc : ∀ m, m < 3 → ∃ u, wr.cell? ⟨g, i * 3 + m, none⟩ = some u := fun m hm => by
            have h1 : i * 3 + m < ys.length := by omega
            have := hro.cells rfl (i * 3 + m) _ (List.getElem?_eq_getElem h1)
            rw [addr_addR] at this
            exact ⟨_, this⟩
          obtain ⟨u0, d0⟩ := cc 0 (by omega)
          obtain ⟨u1, d1⟩ := cc 1 (by omega)
          obtain ⟨u2, d2⟩ := cc 2 (by omega)
          simp only [Nat.add_zero] at d0
          have e1 : (wr.setCell ⟨g, i * 3, none⟩ (.int .i64 (-7777 - (k : Int)))).cell? ⟨g, i * 3 + 1, none⟩ = some u1 := by
            rw [World.cell?_setCell_other _ _ _ _ (by intro h; simp only [Addr.mk.injEq] at h; omega)]; exact d1
          have e2 : ((wr.setCell ⟨g, i * 3, none⟩ (.int .i64 (-7777 - (k : Int)))).setCell ⟨g, i * 3 + 1, none⟩ (.int .i64 0)).cell? ⟨g, i * 3 + 2, none⟩ = some u2 := by
            rw [World.cell?_setCell_other _ _ _ _ (by intro h; simp only [Addr.mk.injEq] at h; omega), World.cell?_setCell_other _ _ _ _ (by intro h; simp only [Addr.mk.injEq] at h; omega)]; exact d2
          obtain ⟨w9, e9⟩ : ∃ w9, ((wr.setCell ⟨g, i * 3, none⟩ (.int .i64 (-7777 - (k : Int)))).setCell ⟨g, i * 3 + 1, none⟩ (.int .i64 0)).setCell ⟨g, i * 3 + 2, none⟩ (.string ⟨#[]⟩) = w9 := ⟨_, rfl⟩
          have HE9 : Hid (((wr.setCell ⟨g, i * 3, none⟩ (.int .i64 (-7777 - (k : Int)))).setCell ⟨g, i * 3 + 1, none⟩ (.int .i64 0)).setCell ⟨g, i * 3 + 2, none⟩ (.string ⟨#[]⟩) = w9) := e9
          have S9 : Hid (She 45 22 3 B w9 (.slice (some ⟨gV, 0, none⟩) rs.length cV) (.slice aU us.length cU) (ts.set k ⟨.slice (some ⟨g, 0, none⟩) rn c1, rn, ((ys.set (i * 3) (.int .i64 (-7777 - (k : Int)))).set (i * 3 + 1) (.int .i64 0)).set (i * 3 + 2) (.string ⟨#[]⟩)⟩) us) := by
            unfold Hid
            have := SR.out.store3 (by decide) hget rfl (i * 3) (i * 3 + 1) (i * 3 + 2) (.int .i64 (-7777 - (k : Int))) (.int .i64 0) (.string ⟨#[]⟩)
            rw [List.set_set, e9] at this
            exact this
          have X9 : Hid (Bx w9 b (bxA (.slice (some ⟨gV, 0, none⟩) rs.length cV) (.slice aU us.length cU)) 54) := by
            unfold Hid
            rw [← e9]
            have hgb : b ≠ g := by omega
            exact ((XR.out.other ⟨g, i * 3, none⟩ hgb _).other ⟨g, i * 3 + 1, none⟩ hgb _).other ⟨g, i * 3 + 2, none⟩ hgb _
          have B9 : Hid (Below b w w9) := by
            unfold Hid
            rw [← e9]
            have hgb : b ≤ g := by omega
            exact ((HB.out.setCell (p := ⟨g, i * 3, none⟩) hgb _).setCell (p := ⟨g, i * 3 + 1, none⟩) hgb _).setCell (p := ⟨g, i * 3 + 2, none⟩) hgb _
          have Y9 : Hid ((((ys.set (i * 3) (.int .i64 (-7777 - (k : Int)))).set (i * 3 + 1) (.int .i64 0)).set (i * 3 + 2) (.string ⟨#[]⟩)).take ((i + 1) * 3) = flat (List.replicate (i + 1) (mkE k))) := by
            unfold Hid
            rw [take_set3 (by omega), HYT.out, flat_snoc]
            rfl
          clear hO1 hO2 hro e9 cc hget HYL'
          go_wp2_with (go_at_call 76; (with_reducible refine (mark_any k _ (by omega)).mono ?_); rintro e w5 ⟨rfl, rfl⟩)
          rw [HE9.out]
          go_roundg (rn - (i + 1))
          case measure => omega
          case rel => exact ⟨i + 1, _, rfl, by omega, by go_num, by simp only [List.length_set]; exact HYL.out, Y9.out, X9.out, S9.out, B9.out⟩
        · have hli' : ¬ (i : Int) < (rn : Int) := by omega
          have HY : Hid (ys = flat (List.replicate rn (mkE k))) := by
            unfold Hid
            have h1 := HYT.out
            rw [show i = rn by omega, List.take_of_length_le (by rw [HYL.out]; omega)] at h1
            exact h1
          go_wp2
          go_roundg (rs.length - (k + 1))
          case measure => omega
          case rel =>
            refine ⟨k + 1, ts.set k ⟨.slice a1 rn c1, rn, ys⟩, rfl, by omega, by go_num, XR.out, SR.out, vn_set HV.out HR.out ys, fun j t hj ht => ?_, HB.out⟩
            rw [List.getElem?_set] at ht
            by_cases hjk : k = j
            · subst hjk
              rw [if_pos rfl, if_pos (by have := HTL.out; omega)] at ht
              rw [← Option.some.inj ht]
              exact HY.out
            · rw [if_neg hjk] at ht
              exact HD.out j t (by omega) ht
    · have hlt' : ¬ (k : Int) < (rs.length : Int) := by omega
      have d6 : wr.cell? ⟨b, 6, none⟩ = some (.slice none 0 0) := XR.out.cell 6
      have d8 : wr.cell? ⟨b, 8, none⟩ = some (.slice none 0 0) := XR.out.cell 8
      have d10 : wr.cell? ⟨b, 10, none⟩ = some (.slice none 0 0) := XR.out.cell 10
      go_wp2
      refine wp_loop_rounds 1 ?_
      rw [rounds_succ]
      go_wp2
      refine wp_loop_rounds 1 ?_
      rw [rounds_succ]
      go_wp2
      refine wp_loop_rounds 1 ?_
      rw [rounds_succ]
      go_wp2
      go_end0
      exact ⟨⟨_, rfl⟩, ts, XR.out, SR.out, HV.out, fun j t ht => HD.out j t (by have := (List.getElem?_eq_some_iff.1 ht).1; have := HTL.out; omega) ht, HB.out⟩
end Go.Proofs.YteolfolkolpehaaDoor
