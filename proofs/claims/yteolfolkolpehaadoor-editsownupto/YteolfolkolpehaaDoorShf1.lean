import Derived.Test.YteolfolkolpehaaDoorSho
namespace Go.Proofs.YteolfolkolpehaaDoor
open Go.ChangeShapes Go.WideShapes Go.ChangeAt Go.RowKit
set_option linter.unusedVariables false
set_option linter.unusedSimpArgs false

/-- a list's mark -/
def mkE (j : Nat) : Ed := ⟨-7777 - (j : Int), 0, ⟨#[]⟩⟩
def vn (r : Rr) : Value × Nat := (r.v, r.n)
theorem vn_set {ts rs : List Rr} (h : ts.map vn = rs.map vn) {i : Nat} {r : Rr} (hr : ts[i]? = some r) (xs : List Value) : (ts.set i ⟨r.v, r.n, xs⟩).map vn = rs.map vn := by
  rw [← h]
  apply List.ext_getElem?
  intro j
  rw [List.getElem?_map, List.getElem?_map, List.getElem?_set]
  by_cases hj : i = j
  · subst hj
    rw [if_pos rfl, if_pos (List.getElem?_eq_some_iff.1 hr).1, hr]
    rfl
  · rw [if_neg hj]
theorem set_self {α : Type} {l : List α} {k : Nat} {r : α} (h : l[k]? = some r) : l.set k r = l := by
  apply List.ext_getElem?
  intro j
  rw [List.getElem?_set]
  by_cases hj : k = j
  · subst hj; rw [if_pos rfl, if_pos (List.getElem?_eq_some_iff.1 h).1, h]
  · rw [if_neg hj]
theorem addr_addR (g j : Nat) : (⟨g, 0, none⟩ : Addr).add j = ⟨g, j, none⟩ := by unfold Addr.add; by_cases hz : j = 0 <;> simp [hz]
theorem vn_len {ts rs : List Rr} (h : ts.map vn = rs.map vn) : ts.length = rs.length := by
  have := congrArg List.length h
  simpa using this
theorem She.store3 {e te : TypeId} {k B : Nat} {w : World} {V U : Value} {rs us : List Rr} (h : She e te k B w V U rs us) (hne : te ≠ e) {i : Nat} {r : Rr} (hr : rs[i]? = some r) {g c : Nat} (hv : r.v = .slice (some ⟨g, 0, none⟩) r.n c) (m1 m2 m3 : Nat) (u1 u2 u3 : Value) :
    She e te k B (((w.setCell ⟨g, m1, none⟩ u1).setCell ⟨g, m2, none⟩ u2).setCell ⟨g, m3, none⟩ u3) V U (rs.set i ⟨r.v, r.n, ((r.xs.set m1 u1).set m2 u2).set m3 u3⟩) us := by
  have hi := (List.getElem?_eq_some_iff.1 hr).1
  have h1 := h.store hne hr hv m1 u1
  have hr1 : (rs.set i ⟨r.v, r.n, r.xs.set m1 u1⟩)[i]? = some ⟨r.v, r.n, r.xs.set m1 u1⟩ := List.getElem?_set_self hi
  have h2 := h1.store hne hr1 hv m2 u2
  rw [List.set_set] at h2
  have hr2 : (rs.set i ⟨r.v, r.n, (r.xs.set m1 u1).set m2 u2⟩)[i]? = some ⟨r.v, r.n, (r.xs.set m1 u1).set m2 u2⟩ := List.getElem?_set_self hi
  have h3 := h2.store hne hr2 hv m3 u3
  rw [List.set_set] at h3
  exact h3
theorem flat_snoc (n : Nat) (e : Ed) : flat (List.replicate (n + 1) e) = flat (List.replicate n e) ++ [.int .i64 e.f, .int .i64 e.t, .string e.s] := by
  rw [List.replicate_succ', flat_append]; rfl
theorem take_set3 {xs : List Value} {i : Nat} {a b c : Value} (h : i * 3 + 3 ≤ xs.length) : (((xs.set (i * 3) a).set (i * 3 + 1) b).set (i * 3 + 2) c).take ((i + 1) * 3) = xs.take (i * 3) ++ [a, b, c] := by
  apply List.ext_getElem?
  intro j
  by_cases hj : j < (i + 1) * 3
  · rw [List.getElem?_take_of_lt hj]
    simp only [List.getElem?_set, List.length_set]
    by_cases h1 : j < i * 3
    · rw [if_neg (by omega), if_neg (by omega), if_neg (by omega), List.getElem?_append_left (by rw [List.length_take]; omega), List.getElem?_take_of_lt h1]
    · rw [List.getElem?_append_right (by rw [List.length_take]; omega), List.length_take, Nat.min_eq_left (by omega)]
      obtain rfl | rfl | rfl : j = i * 3 ∨ j = i * 3 + 1 ∨ j = i * 3 + 2 := by omega
      · rw [if_neg (by omega), if_neg (by omega), if_pos rfl, if_pos (by omega), Nat.sub_self]; rfl
      · rw [if_neg (by omega), if_pos rfl, if_pos (by omega), Nat.add_sub_cancel_left]; rfl
      · rw [if_pos rfl, if_pos (by omega), Nat.add_sub_cancel_left]; rfl
  · rw [List.getElem?_eq_none (by rw [List.length_take]; omega), List.getElem?_eq_none (by rw [List.length_append, List.length_take]; simp; omega)]

set_option maxRecDepth 1000000 in
set_option maxHeartbeats 2000000 in
theorem fill_any (b B : Nat) (w : World) (V U : Value) (rs us : List Rr) (hbx : Bx w b (bxA V U) 54) (hS : She 45 22 3 B w V U rs us) (hrs : rs.length ≤ 1000) (hn : ∀ r ∈ rs, r.n ≤ 1000000) (hbB : b < B) :
    Calls Tryd.prog 54 #[.pointer (some ⟨b, 0, none⟩)] w fun e w' => (∃ x, e = .returned x) ∧ ∃ ts, Bx w' b (bxA V U) 54 ∧ She 45 22 3 B w' V U ts us ∧ ts.map vn = rs.map vn ∧ (∀ j t, ts[j]? = some t → t.xs = flat (List.replicate t.n (mkE j))) ∧ Below b w w' := by
  have HX : Hid (Bx w b (bxA V U) 54) := hbx
  have HS : Hid (She 45 22 3 B w V U rs us) := hS
  have HN : Hid (∀ r ∈ rs, r.n ≤ 1000000) := hn
  have c0 : w.cell? ⟨b, 0, none⟩ = some (.slice none 0 0) := hbx.cell 0
  clear hbx hS hn
  obtain ⟨aV, cV, rfl, -, -⟩ := own_slice HS.out.outV
  obtain ⟨aU, cU, rfl, -, -⟩ := own_slice HS.out.outU
  have c2 : w.cell? ⟨b, 2, none⟩ = some (.slice none 0 0) := HX.out.cell 2
  have c4 : w.cell? ⟨b, 4, none⟩ = some (.slice aV rs.length cV) := HX.out.cell 4
  go_enter Tryd.func54, Tryd.ntmps54
  go_wp2
  refine wp_loop_rounds 1 ?_
  rw [rounds_succ]
  go_wp2
  refine wp_loop_rounds 1 ?_
  rw [rounds_succ]
  go_wp2
  clear c0 c2 c4
  go_loopg [71] rs.length (fun gk si wr => ∃ (k : Nat) (ts : List Rr), gk = rs.length - k ∧ k ≤ rs.length ∧ si = .int .i64 (k : Int) ∧ Bx wr b (bxA (.slice aV rs.length cV) (.slice aU us.length cU)) 54 ∧ She 45 22 3 B wr (.slice aV rs.length cV) (.slice aU us.length cU) ts us ∧ ts.map vn = rs.map vn ∧ (∀ j t, j < k → ts[j]? = some t → t.xs = flat (List.replicate t.n (mkE j))) ∧ Below b w wr)
  case atStart => exact ⟨0, rs, rfl, Nat.zero_le _, rfl, HX.out, HS.out, rfl, (fun j t h => by omega), Below.refl _ _⟩
  case round =>
    obtain ⟨k, ts, rfl, hk, rfl, hX, hSr, hvn, hdone, hbel⟩ := hrel
    have XR : Hid (Bx wr b (bxA (.slice aV rs.length cV) (.slice aU us.length cU)) 54) := hX
    have SR : Hid (She 45 22 3 B wr (.slice aV rs.length cV) (.slice aU us.length cU) ts us) := hSr
    have HV : Hid (ts.map vn = rs.map vn) := hvn
    have HD : Hid (∀ j t, j < k → ts[j]? = some t → t.xs = flat (List.replicate t.n (mkE j))) := hdone
    have HB : Hid (Below b w wr) := hbel
    have htl : ts.length = rs.length := vn_len hvn
    have HTL : Hid (ts.length = rs.length) := htl
    clear hX hSr hvn hdone hbel
    by_cases hlt : k < rs.length
    · have hlt' : (k : Int) < (rs.length : Int) := by omega
      have hk0 : (0 : Int) ≤ (k : Int) := by omega
      obtain ⟨r, hr⟩ : ∃ r, ts[k]? = some r := ⟨_, List.getElem?_eq_getElem (by omega)⟩
      have hrn : r.n ≤ 1000000 := by
        have h1 : (ts.map vn)[k]? = some (vn r) := by rw [List.getElem?_map, hr]; rfl
        rw [HV.out, List.getElem?_map] at h1
        obtain ⟨q, hq, he⟩ := Option.map_eq_some_iff.1 h1
        have h2 := HN.out q (List.mem_of_getElem? hq)
        have h3 : q.n = r.n := congrArg Prod.snd he
        omega
      obtain ⟨gV, cV', hV, cv, -⟩ := SR.out.cellV hr
      simp only [Value.slice.injEq] at hV
      obtain ⟨rfl, -, rfl⟩ := hV
      have hro := SR.out.get hr
      obtain ⟨rv, rn, rx⟩ := r
      simp only at hro hrn cv
      obtain ⟨a1, c1, rfl, hpos, -⟩ := own_slice hro
      have HR : Hid (ts[k]? = some ⟨.slice a1 rn c1, rn, rx⟩) := hr
      have HP : Hid (0 < rn → ∃ g, a1 = some ⟨g, 0, none⟩) := hpos
      clear htl hr hro hpos
      go_wp2
      clear cv
      go_loopg [78] rn (fun gi si wi => ∃ (i : Nat) (ys : List Value), gi = rn - i ∧ i ≤ rn ∧ si = .int .i64 (i : Int) ∧ ys.length = rn * 3 ∧ ys.take (i * 3) = flat (List.replicate i (mkE k)) ∧ Bx wi b (bxA (.slice (some ⟨gV, 0, none⟩) rs.length cV) (.slice aU us.length cU)) 54 ∧ She 45 22 3 B wi (.slice (some ⟨gV, 0, none⟩) rs.length cV) (.slice aU us.length cU) (ts.set k ⟨.slice a1 rn c1, rn, ys⟩) us ∧ Below b w wi)
      case atStart => exact ⟨0, rx, rfl, Nat.zero_le _, rfl, (SR.out.get HR.out).1, by simp [flat], XR.out, by rw [set_self HR.out]; exact SR.out, HB.out⟩
      case round =>
        obtain ⟨i, ys, rfl, hi, rfl, hyl, hyt, hX, hSi, hbel⟩ := hrel
        clear XR SR HB
        have XR : Hid (Bx wr b (bxA (.slice (some ⟨gV, 0, none⟩) rs.length cV) (.slice aU us.length cU)) 54) := hX
        have SR : Hid (She 45 22 3 B wr (.slice (some ⟨gV, 0, none⟩) rs.length cV) (.slice aU us.length cU) (ts.set k ⟨.slice a1 rn c1, rn, ys⟩) us) := hSi
        have HB : Hid (Below b w wr) := hbel
        have HYL : Hid (ys.length = rn * 3) := hyl
        have HYT : Hid (ys.take (i * 3) = flat (List.replicate i (mkE k))) := hyt
        clear hX hSi hbel hyl hyt
        by_cases hli : i < rn
        · have hli' : (i : Int) < (rn : Int) := by omega
          have hi0 : (0 : Int) ≤ (i : Int) := by omega
          obtain ⟨g, rfl⟩ := HP.out (by omega)
          have hget : (ts.set k ⟨.slice (some ⟨g, 0, none⟩) rn c1, rn, ys⟩)[k]? = some ⟨.slice (some ⟨g, 0, none⟩) rn c1, rn, ys⟩ := List.getElem?_set_self (by have := HTL.out; omega)
          have hro := SR.out.get hget
          simp only at hro
          have hgl := hro.lt g rfl
          have f0 := hro.frozenAt (i * 3)
          have hO1 := (hro.stored (i * 3) (.int .i64 (-7777 - (k : Int)))).1
          have f1 := hO1.frozenAt (i * 3 + 1)
          have hO2 := (hO1.stored (i * 3 + 1) (.int .i64 0)).1
          have f2 := hO2.frozenAt (i * 3 + 2)
          have HYL' := HYL.out
          have cc : ∀ m, m < 3 → ∃ u, wr.cell? ⟨g, i * 3 + m, none⟩ = some u := fun m hm => by
            have h1 : i * 3 + m < ys.length := by omega
            have := hro.cells rfl (i * 3 + m) _ (List.getElem?_eq_getElem h1)
            rw [addr_addR] at this
            exact ⟨_, this⟩
          obtain ⟨u0, d0⟩ := cc 0 (by omega)
          obtain ⟨u1, d1⟩ := cc 1 (by omega)
          obtain ⟨u2, d2⟩ := cc 2 (by omega)
          simp only [Nat.add_zero] at d0
          have e1 : (wr.setCell ⟨g, i * 3, none⟩ (.int .i64 (-7777 - (k : Int)))).cell? ⟨g, i * 3 + 1, none⟩ = some u1 := by
            rw [World.cell?_setCell_other _ _ _ _ (by intro h; simp only [Addr.mk.injEq] at h; omega)]; exact d1
          have e2 : ((wr.setCell ⟨g, i * 3, none⟩ (.int .i64 (-7777 - (k : Int)))).setCell ⟨g, i * 3 + 1, none⟩ (.int .i64 0)).cell? ⟨g, i * 3 + 2, none⟩ = some u2 := by
            rw [World.cell?_setCell_other _ _ _ _ (by intro h; simp only [Addr.mk.injEq] at h; omega), World.cell?_setCell_other _ _ _ _ (by intro h; simp only [Addr.mk.injEq] at h; omega)]; exact d2
          obtain ⟨w9, e9⟩ : ∃ w9, ((wr.setCell ⟨g, i * 3, none⟩ (.int .i64 (-7777 - (k : Int)))).setCell ⟨g, i * 3 + 1, none⟩ (.int .i64 0)).setCell ⟨g, i * 3 + 2, none⟩ (.string ⟨#[]⟩) = w9 := ⟨_, rfl⟩
          have HE9 : Hid (((wr.setCell ⟨g, i * 3, none⟩ (.int .i64 (-7777 - (k : Int)))).setCell ⟨g, i * 3 + 1, none⟩ (.int .i64 0)).setCell ⟨g, i * 3 + 2, none⟩ (.string ⟨#[]⟩) = w9) := e9
          have S9 : Hid (She 45 22 3 B w9 (.slice (some ⟨gV, 0, none⟩) rs.length cV) (.slice aU us.length cU) (ts.set k ⟨.slice (some ⟨g, 0, none⟩) rn c1, rn, ((ys.set (i * 3) (.int .i64 (-7777 - (k : Int)))).set (i * 3 + 1) (.int .i64 0)).set (i * 3 + 2) (.string ⟨#[]⟩)⟩) us) := by
            unfold Hid
            have := SR.out.store3 (by decide) hget rfl (i * 3) (i * 3 + 1) (i * 3 + 2) (.int .i64 (-7777 - (k : Int))) (.int .i64 0) (.string ⟨#[]⟩)
            rw [List.set_set, e9] at this
            exact this
          have X9 : Hid (Bx w9 b (bxA (.slice (some ⟨gV, 0, none⟩) rs.length cV) (.slice aU us.length cU)) 54) := by
            unfold Hid
            rw [← e9]
            have hgb : b ≠ g := by omega
            exact ((XR.out.other ⟨g, i * 3, none⟩ hgb _).other ⟨g, i * 3 + 1, none⟩ hgb _).other ⟨g, i * 3 + 2, none⟩ hgb _
          have B9 : Hid (Below b w w9) := by
            unfold Hid
            rw [← e9]
            have hgb : b ≤ g := by omega
            exact ((HB.out.setCell (p := ⟨g, i * 3, none⟩) hgb _).setCell (p := ⟨g, i * 3 + 1, none⟩) hgb _).setCell (p := ⟨g, i * 3 + 2, none⟩) hgb _
          have Y9 : Hid ((((ys.set (i * 3) (.int .i64 (-7777 - (k : Int)))).set (i * 3 + 1) (.int .i64 0)).set (i * 3 + 2) (.string ⟨#[]⟩)).take ((i + 1) * 3) = flat (List.replicate (i + 1) (mkE k))) := by
            unfold Hid
            rw [take_set3 (by omega), HYT.out, flat_snoc]
            rfl
          clear hO1 hO2 hro e9 cc hget HYL'
          go_wp2_with (go_at_call 76; (with_reducible refine (mark_any k _ (by omega)).mono ?_); rintro e w5 ⟨rfl, rfl⟩)
          rw [HE9.out]
          go_roundg (rn - (i + 1))
          case measure => omega
          case rel => exact ⟨i + 1, _, rfl, by omega, by go_num, by simp only [List.length_set]; exact HYL.out, Y9.out, X9.out, S9.out, B9.out⟩
        · have hli' : ¬ (i : Int) < (rn : Int) := by omega
          have HY : Hid (ys = flat (List.replicate rn (mkE k))) := by
            unfold Hid
            have h1 := HYT.out
            rw [show i = rn by omega, List.take_of_length_le (by rw [HYL.out]; omega)] at h1
            exact h1
          go_wp2
          go_roundg (rs.length - (k + 1))
          case measure => omega
          case rel =>
            refine ⟨k + 1, ts.set k ⟨.slice a1 rn c1, rn, ys⟩, rfl, by omega, by go_num, XR.out, SR.out, vn_set HV.out HR.out ys, fun j t hj ht => ?_, HB.out⟩
            rw [List.getElem?_set] at ht
            by_cases hjk : k = j
            · subst hjk
              rw [if_pos rfl, if_pos (by have := HTL.out; omega)] at ht
              rw [← Option.some.inj ht]
              exact HY.out
            · rw [if_neg hjk] at ht
              exact HD.out j t (by omega) ht
    · have hlt' : ¬ (k : Int) < (rs.length : Int) := by omega
      have d6 : wr.cell? ⟨b, 6, none⟩ = some (.slice none 0 0) := XR.out.cell 6
      have d8 : wr.cell? ⟨b, 8, none⟩ = some (.slice none 0 0) := XR.out.cell 8
      have d10 : wr.cell? ⟨b, 10, none⟩ = some (.slice none 0 0) := XR.out.cell 10
      go_wp2
      refine wp_loop_rounds 1 ?_
      rw [rounds_succ]
      go_wp2
      refine wp_loop_rounds 1 ?_
      rw [rounds_succ]
      go_wp2
      refine wp_loop_rounds 1 ?_
      rw [rounds_succ]
      go_wp2
      go_end0
      exact ⟨⟨_, rfl⟩, ts, XR.out, SR.out, HV.out, fun j t ht => HD.out j t (by have := (List.getElem?_eq_some_iff.1 ht).1; have := HTL.out; omega) ht, HB.out⟩
end Go.Proofs.YteolfolkolpehaaDoor
