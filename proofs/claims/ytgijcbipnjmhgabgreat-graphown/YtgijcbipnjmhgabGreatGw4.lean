import Derived.Test.YtgijcbipnjmhgabGreatGw2
namespace Go.Proofs.YtgijcbipnjmhgabGreat
open Go.ChangeShapes Go.WideShapes Go.ChangeAt Go.RowKit
set_option linter.unusedVariables false
set_option linter.unusedSimpArgs false

/-- a list's mark -/
def mkNd (j : Nat) : Nd := ⟨0, -7777 - (j : Int), 0, 0⟩
def mkI (j : Nat) : Int := -7777 - (j : Int)
def vn (r : Rr) : Value × Nat := (r.v, r.n)
theorem vn_set {ts rs : List Rr} (h : ts.map vn = rs.map vn) {i : Nat} {r : Rr} (hr : ts[i]? = some r) (xs : List Value) : (ts.set i ⟨r.v, r.n, xs⟩).map vn = rs.map vn := by
  rw [← h]
  apply List.ext_getElem?
  intro j
  rw [List.getElem?_map, List.getElem?_map, List.getElem?_set]
  by_cases hj : i = j
  · subst hj
    rw [if_pos rfl, if_pos (List.getElem?_eq_some_iff.1 hr).1, hr]
    rfl
  · rw [if_neg hj]
theorem set_self {α : Type} {l : List α} {k : Nat} {r : α} (h : l[k]? = some r) : l.set k r = l := by
  apply List.ext_getElem?
  intro j
  rw [List.getElem?_set]
  by_cases hj : k = j
  · subst hj; rw [if_pos rfl, if_pos (List.getElem?_eq_some_iff.1 h).1, h]
  · rw [if_neg hj]
theorem addr_addR (g j : Nat) : (⟨g, 0, none⟩ : Addr).add j = ⟨g, j, none⟩ := by unfold Addr.add; by_cases hz : j = 0 <;> simp [hz]
theorem vn_len {ts rs : List Rr} (h : ts.map vn = rs.map vn) : ts.length = rs.length := by
  have := congrArg List.length h
  simpa using this
theorem She.store4 {e te : TypeId} {k B : Nat} {w : World} {V U : Value} {rs us : List Rr} (h : She e te k B w V U rs us) (hne : te ≠ e) {i : Nat} {r : Rr} (hr : rs[i]? = some r) {g c : Nat} (hv : r.v = .slice (some ⟨g, 0, none⟩) r.n c) (m1 m2 m3 m4 : Nat) (u1 u2 u3 u4 : Value) :
    She e te k B ((((w.setCell ⟨g, m1, none⟩ u1).setCell ⟨g, m2, none⟩ u2).setCell ⟨g, m3, none⟩ u3).setCell ⟨g, m4, none⟩ u4) V U (rs.set i ⟨r.v, r.n, (((r.xs.set m1 u1).set m2 u2).set m3 u3).set m4 u4⟩) us := by
  have hi := (List.getElem?_eq_some_iff.1 hr).1
  have h1 := h.store hne hr hv m1 u1
  have h2 := h1.store hne (List.getElem?_set_self hi) hv m2 u2
  rw [List.set_set] at h2
  have h3 := h2.store hne (List.getElem?_set_self hi) hv m3 u3
  rw [List.set_set] at h3
  have h4 := h3.store hne (List.getElem?_set_self hi) hv m4 u4
  rw [List.set_set] at h4
  exact h4
theorem flat_snoc {α : Type} [Rw α] (n : Nat) (e : α) : flat (List.replicate (n + 1) e) = flat (List.replicate n e) ++ Rw.cs e := by
  rw [List.replicate_succ', flat_append, flat_cons, flat_nil, List.append_nil]
theorem take_set4 {xs : List Value} {i : Nat} {a b c d : Value} (h : i * 4 + 4 ≤ xs.length) : ((((xs.set (i * 4) a).set (i * 4 + 1) b).set (i * 4 + 2) c).set (i * 4 + 3) d).take ((i + 1) * 4) = xs.take (i * 4) ++ [a, b, c, d] := by
  apply List.ext_getElem?
  intro j
  by_cases hj : j < (i + 1) * 4
  · rw [List.getElem?_take_of_lt hj]
    simp only [List.getElem?_set, List.length_set]
    by_cases h1 : j < i * 4
    · rw [if_neg (by omega), if_neg (by omega), if_neg (by omega), if_neg (by omega), List.getElem?_append_left (by rw [List.length_take]; omega), List.getElem?_take_of_lt h1]
    · rw [List.getElem?_append_right (by rw [List.length_take]; omega), List.length_take, Nat.min_eq_left (by omega)]
      obtain rfl | rfl | rfl | rfl : j = i * 4 ∨ j = i * 4 + 1 ∨ j = i * 4 + 2 ∨ j = i * 4 + 3 := by omega
      · rw [if_neg (by omega), if_neg (by omega), if_neg (by omega), if_pos rfl, if_pos (by omega), Nat.sub_self]; rfl
      · rw [if_neg (by omega), if_neg (by omega), if_pos rfl, if_pos (by omega), Nat.add_sub_cancel_left]; rfl
      · rw [if_neg (by omega), if_pos rfl, if_pos (by omega), Nat.add_sub_cancel_left]; rfl
      · rw [if_pos rfl, if_pos (by omega), Nat.add_sub_cancel_left]; rfl
  · rw [List.getElem?_eq_none (by rw [List.length_take]; omega), List.getElem?_eq_none (by rw [List.length_append, List.length_take]; simp; omega)]
theorem take_set1 {xs : List Value} {i : Nat} {a : Value} (h : i < xs.length) : (xs.set i a).take (i + 1) = xs.take i ++ [a] := by
  apply List.ext_getElem?
  intro j
  by_cases hj : j < i + 1
  · rw [List.getElem?_take_of_lt hj]
    simp only [List.getElem?_set, List.length_set]
    by_cases h1 : j < i
    · rw [if_neg (by omega), List.getElem?_append_left (by rw [List.length_take]; omega), List.getElem?_take_of_lt h1]
    · rw [List.getElem?_append_right (by rw [List.length_take]; omega), List.length_take, Nat.min_eq_left (by omega)]
      obtain rfl : j = i := by omega
      rw [if_pos rfl, if_pos (by omega), Nat.sub_self]; rfl
  · rw [List.getElem?_eq_none (by rw [List.length_take]; omega), List.getElem?_eq_none (by rw [List.length_append, List.length_take]; simp; omega)]
/-- every list has its marks alone -/
def Mks (α : Type) [Rw α] (mk : Nat → α) (k : Nat) (ts : List Rr) : Prop := ∀ j t, j < k → ts[j]? = some t → t.xs = flat (List.replicate t.n (mk j))
theorem Mks.more {α : Type} [Rw α] {mk : Nat → α} {k n : Nat} {ts : List Rr} {v : Value} {ys : List Value} (h : Mks α mk k ts) (hk : k < ts.length) (hy : ys = flat (List.replicate n (mk k))) : Mks α mk (k + 1) (ts.set k ⟨v, n, ys⟩) := by
  intro j t hj ht
  rw [List.getElem?_set] at ht
  by_cases hjk : k = j
  · subst hjk
    rw [if_pos rfl, if_pos hk] at ht
    rw [← Option.some.inj ht]
    exact hy
  · rw [if_neg hjk] at ht
    exact h j t (by omega) ht
theorem vn_n {ts rs : List Rr} (h : ts.map vn = rs.map vn) {M : Nat} (hn : ∀ r ∈ rs, r.n ≤ M) {k : Nat} {r : Rr} (hr : ts[k]? = some r) : r.n ≤ M := by
  have h1 : (ts.map vn)[k]? = some (vn r) := by rw [List.getElem?_map, hr]; rfl
  rw [h, List.getElem?_map] at h1
  obtain ⟨q, hq, he⟩ := Option.map_eq_some_iff.1 h1
  have h2 := hn q (List.mem_of_getElem? hq)
  have h3 : q.n = r.n := congrArg Prod.snd he
  omega

set_option maxRecDepth 1000000 in
set_option maxHeartbeats 2000000 in
theorem fill_any (b B : Nat) (w : World) (V U I J : Value) (rn un ri ui : List Rr) (hT : ShT b B w V U I J rn un ri ui) (hrn : rn.length ≤ 1000) (hri : ri.length ≤ 1000) (hn : ∀ r ∈ rn, r.n ≤ 4194304) (hm : ∀ r ∈ ri, r.n ≤ 4194304) :
    Calls Tryz.prog 39 #[.pointer (some ⟨b, 0, none⟩)] w fun e w' => (∃ x, e = .returned x) ∧ ∃ tn ti, ShT b B w' V U I J tn un ti ui ∧ tn.map vn = rn.map vn ∧ Mks Nd mkNd tn.length tn ∧ ti.map vn = ri.map vn ∧ Mks Int mkI ti.length ti ∧ Below b w w' := by
  obtain ⟨aV, cV, rfl, -, -⟩ := own_slice hT.n.outV
  obtain ⟨aU, cU, rfl, -, -⟩ := own_slice hT.n.outU
  obtain ⟨aI, cI, rfl, -, -⟩ := own_slice hT.i.outV
  obtain ⟨aJ, cJ, rfl, -, -⟩ := own_slice hT.i.outU
  have HT : Hid (ShT b B w (.slice aV rn.length cV) (.slice aU un.length cU) (.slice aI ri.length cI) (.slice aJ ui.length cJ) rn un ri ui) := hT
  have HN : Hid (∀ r ∈ rn, r.n ≤ 4194304) := hn
  have HM : Hid (∀ r ∈ ri, r.n ≤ 4194304) := hm
  have c0 : w.cell? ⟨b, 0, none⟩ = some (.slice none 0 0) := hT.box.cell 0
  have c2 : w.cell? ⟨b, 2, none⟩ = some (.slice aV rn.length cV) := hT.box.cell 2
  clear hT hn hm
  go_enter Tryz.func39, Tryz.ntmps39
  go_wp2
  refine wp_loop_rounds 1 ?_
  rw [rounds_succ]
  go_wp2
  clear c0 c2
  go_loopg [48] rn.length (fun gk si wr => ∃ (k : Nat) (tn : List Rr), gk = rn.length - k ∧ k ≤ rn.length ∧ si = .int .i64 (k : Int) ∧ ShT b B wr (.slice aV rn.length cV) (.slice aU un.length cU) (.slice aI ri.length cI) (.slice aJ ui.length cJ) tn un ri ui ∧ tn.map vn = rn.map vn ∧ Mks Nd mkNd k tn ∧ Below b w wr)
  case atStart => exact ⟨0, rn, rfl, Nat.zero_le _, rfl, HT.out, rfl, (fun j t h => by omega), Below.refl _ _⟩
  case round =>
    obtain ⟨k, tn, rfl, hk, rfl, hSr, hvn, hdone, hbel⟩ := hrel
    have SR : Hid (ShT b B wr (.slice aV rn.length cV) (.slice aU un.length cU) (.slice aI ri.length cI) (.slice aJ ui.length cJ) tn un ri ui) := hSr
    have HV : Hid (tn.map vn = rn.map vn) := hvn
    have HD : Hid (Mks Nd mkNd k tn) := hdone
    have HB : Hid (Below b w wr) := hbel
    have htl : tn.length = rn.length := vn_len hvn
    have HTL : Hid (tn.length = rn.length) := htl
    clear hSr hvn hdone hbel
    by_cases hlt : k < rn.length
    · have hlt' : (k : Int) < (rn.length : Int) := by omega
      have hk0 : (0 : Int) ≤ (k : Int) := by omega
      obtain ⟨r, hr⟩ : ∃ r, tn[k]? = some r := ⟨_, List.getElem?_eq_getElem (by omega)⟩
      have hrn' : r.n ≤ 4194304 := vn_n HV.out HN.out hr
      obtain ⟨gV, cV', hV, cv, -⟩ := SR.out.n.cellV hr
      simp only [Value.slice.injEq] at hV
      obtain ⟨rfl, -, rfl⟩ := hV
      have hro := SR.out.n.get hr
      obtain ⟨rv, rk, rx⟩ := r
      simp only at hro hrn' cv
      obtain ⟨a1, c1, rfl, hpos, -⟩ := own_slice hro
      have HR : Hid (tn[k]? = some ⟨.slice a1 rk c1, rk, rx⟩) := hr
      have HP : Hid (0 < rk → ∃ g, a1 = some ⟨g, 0, none⟩) := hpos
      clear htl hr hro hpos
      go_wp2
      clear cv
      go_loopg [55] rk (fun gi si wi => ∃ (i : Nat) (ys : List Value), gi = rk - i ∧ i ≤ rk ∧ si = .int .i64 (i : Int) ∧ ys.length = rk * 4 ∧ ys.take (i * 4) = flat (List.replicate i (mkNd k)) ∧ ShT b B wi (.slice (some ⟨gV, 0, none⟩) rn.length cV) (.slice aU un.length cU) (.slice aI ri.length cI) (.slice aJ ui.length cJ) (tn.set k ⟨.slice a1 rk c1, rk, ys⟩) un ri ui ∧ Below b w wi)
      case atStart => exact ⟨0, rx, rfl, Nat.zero_le _, rfl, (SR.out.n.get HR.out).1, by simp [flat], by rw [set_self HR.out]; exact SR.out, HB.out⟩
      case round =>
        obtain ⟨i, ys, rfl, hi, rfl, hyl, hyt, hSi, hbel⟩ := hrel
        clear SR HB
        have SR : Hid (ShT b B wr (.slice (some ⟨gV, 0, none⟩) rn.length cV) (.slice aU un.length cU) (.slice aI ri.length cI) (.slice aJ ui.length cJ) (tn.set k ⟨.slice a1 rk c1, rk, ys⟩) un ri ui) := hSi
        have HB : Hid (Below b w wr) := hbel
        have HYL : Hid (ys.length = rk * 4) := hyl
        have HYT : Hid (ys.take (i * 4) = flat (List.replicate i (mkNd k))) := hyt
        clear hSi hbel hyl hyt
        by_cases hli : i < rk
        · have hli' : (i : Int) < (rk : Int) := by omega
          have hi0 : (0 : Int) ≤ (i : Int) := by omega
          obtain ⟨g, rfl⟩ := HP.out (by omega)
          have hget : (tn.set k ⟨.slice (some ⟨g, 0, none⟩) rk c1, rk, ys⟩)[k]? = some ⟨.slice (some ⟨g, 0, none⟩) rk c1, rk, ys⟩ := List.getElem?_set_self (by have := HTL.out; omega)
          have hro := SR.out.n.get hget
          simp only at hro
          have hgl := hro.lt g rfl
          have hbB := SR.out.lt
          have f0 := hro.frozenAt (i * 4)
          have hO1 := (hro.stored (i * 4) (.int .u8 0)).1
          have f1 := hO1.frozenAt (i * 4 + 1)
          have hO2 := (hO1.stored (i * 4 + 1) (.int .i64 (-7777 - (k : Int)))).1
          have f2 := hO2.frozenAt (i * 4 + 2)
          have hO3 := (hO2.stored (i * 4 + 2) (.int .i64 0)).1
          have f3 := hO3.frozenAt (i * 4 + 3)
          have HYL' := HYL.out
          have cc : ∀ m, m < 4 → ∃ u, wr.cell? ⟨g, i * 4 + m, none⟩ = some u := fun m hm => by
            have h1 : i * 4 + m < ys.length := by omega
            have := hro.cells rfl (i * 4 + m) _ (List.getElem?_eq_getElem h1)
            rw [addr_addR] at this
            exact ⟨_, this⟩
          obtain ⟨u0, d0⟩ := cc 0 (by omega)
          obtain ⟨u1, d1⟩ := cc 1 (by omega)
          obtain ⟨u2, d2⟩ := cc 2 (by omega)
          obtain ⟨u3, d3⟩ := cc 3 (by omega)
          simp only [Nat.add_zero] at d0
          have e1 : (wr.setCell ⟨g, i * 4, none⟩ (.int .u8 0)).cell? ⟨g, i * 4 + 1, none⟩ = some u1 := by
            rw [World.cell?_setCell_other _ _ _ _ (by intro h; simp only [Addr.mk.injEq] at h; omega)]; exact d1
          have e2 : ((wr.setCell ⟨g, i * 4, none⟩ (.int .u8 0)).setCell ⟨g, i * 4 + 1, none⟩ (.int .i64 (-7777 - (k : Int)))).cell? ⟨g, i * 4 + 2, none⟩ = some u2 := by
            rw [World.cell?_setCell_other _ _ _ _ (by intro h; simp only [Addr.mk.injEq] at h; omega), World.cell?_setCell_other _ _ _ _ (by intro h; simp only [Addr.mk.injEq] at h; omega)]; exact d2
          have e3 : (((wr.setCell ⟨g, i * 4, none⟩ (.int .u8 0)).setCell ⟨g, i * 4 + 1, none⟩ (.int .i64 (-7777 - (k : Int)))).setCell ⟨g, i * 4 + 2, none⟩ (.int .i64 0)).cell? ⟨g, i * 4 + 3, none⟩ = some u3 := by
            rw [World.cell?_setCell_other _ _ _ _ (by intro h; simp only [Addr.mk.injEq] at h; omega), World.cell?_setCell_other _ _ _ _ (by intro h; simp only [Addr.mk.injEq] at h; omega), World.cell?_setCell_other _ _ _ _ (by intro h; simp only [Addr.mk.injEq] at h; omega)]; exact d3
          obtain ⟨w9, e9⟩ : ∃ w9, (((wr.setCell ⟨g, i * 4, none⟩ (.int .u8 0)).setCell ⟨g, i * 4 + 1, none⟩ (.int .i64 (-7777 - (k : Int)))).setCell ⟨g, i * 4 + 2, none⟩ (.int .i64 0)).setCell ⟨g, i * 4 + 3, none⟩ (.int .i64 0) = w9 := ⟨_, rfl⟩
          have HE9 : Hid ((((wr.setCell ⟨g, i * 4, none⟩ (.int .u8 0)).setCell ⟨g, i * 4 + 1, none⟩ (.int .i64 (-7777 - (k : Int)))).setCell ⟨g, i * 4 + 2, none⟩ (.int .i64 0)).setCell ⟨g, i * 4 + 3, none⟩ (.int .i64 0) = w9) := e9
          have S9 : Hid (ShT b B w9 (.slice (some ⟨gV, 0, none⟩) rn.length cV) (.slice aU un.length cU) (.slice aI ri.length cI) (.slice aJ ui.length cJ) (tn.set k ⟨.slice (some ⟨g, 0, none⟩) rk c1, rk, (((ys.set (i * 4) (.int .u8 0)).set (i * 4 + 1) (.int .i64 (-7777 - (k : Int)))).set (i * 4 + 2) (.int .i64 0)).set (i * 4 + 3) (.int .i64 0)⟩) un ri ui) := by
            unfold Hid
            have hn9 := SR.out.n.store4 (by decide) hget rfl (i * 4) (i * 4 + 1) (i * 4 + 2) (i * 4 + 3) (.int .u8 0) (.int .i64 (-7777 - (k : Int))) (.int .i64 0) (.int .i64 0)
            rw [List.set_set, e9] at hn9
            have hgb : b ≠ g := by omega
            have hb9 : Bx w9 b (bxT (.slice (some ⟨gV, 0, none⟩) rn.length cV) (.slice aU un.length cU) (.slice aI ri.length cI) (.slice aJ ui.length cJ)) 30 := by
              rw [← e9]
              exact (((SR.out.box.other ⟨g, i * 4, none⟩ hgb _).other ⟨g, i * 4 + 1, none⟩ hgb _).other ⟨g, i * 4 + 2, none⟩ hgb _).other ⟨g, i * 4 + 3, none⟩ hgb _
            have hi9 : She 3 32 1 B w9 (.slice aI ri.length cI) (.slice aJ ui.length cJ) ri ui := by
              rw [← e9]
              exact (((SR.out.i.rowFar hro rfl (by decide) (by decide) _ _).rowFar hO1 rfl (by decide) (by decide) _ _).rowFar hO2 rfl (by decide) (by decide) _ _).rowFar hO3 rfl (by decide) (by decide) _ _
            exact ⟨hb9, hn9, hi9, SR.out.lt, by rw [← e9]; simpa using SR.out.le⟩
          have B9 : Hid (Below b w w9) := by
            unfold Hid
            rw [← e9]
            have hgb : b ≤ g := by omega
            exact (((HB.out.setCell (p := ⟨g, i * 4, none⟩) hgb _).setCell (p := ⟨g, i * 4 + 1, none⟩) hgb _).setCell (p := ⟨g, i * 4 + 2, none⟩) hgb _).setCell (p := ⟨g, i * 4 + 3, none⟩) hgb _
          have Y9 : Hid (((((ys.set (i * 4) (.int .u8 0)).set (i * 4 + 1) (.int .i64 (-7777 - (k : Int)))).set (i * 4 + 2) (.int .i64 0)).set (i * 4 + 3) (.int .i64 0)).take ((i + 1) * 4) = flat (List.replicate (i + 1) (mkNd k))) := by
            unfold Hid
            rw [take_set4 (by omega), HYT.out, flat_snoc]
            rfl
          clear hO1 hO2 hO3 hro e9 cc hget HYL' hbB
          go_wp2_with (go_at_call 67; (with_reducible refine (mark_any k _ (by omega)).mono ?_); rintro e w5 ⟨rfl, rfl⟩)
          rw [HE9.out]
          go_roundg (rk - (i + 1))
          case measure => omega
          case rel => exact ⟨i + 1, _, rfl, by omega, by go_num, by simp only [List.length_set]; exact HYL.out, Y9.out, S9.out, B9.out⟩
        · have hli' : ¬ (i : Int) < (rk : Int) := by omega
          have HY : Hid (ys = flat (List.replicate rk (mkNd k))) := by
            unfold Hid
            have h1 := HYT.out
            rw [show i = rk by omega, List.take_of_length_le (by rw [HYL.out]; omega)] at h1
            exact h1
          go_wp2
          go_roundg (rn.length - (k + 1))
          case measure => omega
          case rel => exact ⟨k + 1, tn.set k ⟨.slice a1 rk c1, rk, ys⟩, rfl, by omega, by go_num, SR.out, vn_set HV.out HR.out ys, HD.out.more (by have := HTL.out; omega) HY.out, HB.out⟩
    · have hlt' : ¬ (k : Int) < (rn.length : Int) := by omega
      have d4 : wr.cell? ⟨b, 4, none⟩ = some (.slice none 0 0) := SR.out.box.cell 4
      have d6 : wr.cell? ⟨b, 6, none⟩ = some (.slice aI ri.length cI) := SR.out.box.cell 6
      have HDN : Hid (Mks Nd mkNd tn.length tn) := by unfold Hid; rw [htl, show rn.length = k by omega]; exact HD.out
      go_wp2
      refine wp_loop_rounds 1 ?_
      rw [rounds_succ]
      go_wp2
      clear d4 d6 hlt hlt' hk HD htl
      go_loopg [94] ri.length (fun gk si wr => ∃ (k : Nat) (ti : List Rr), gk = ri.length - k ∧ k ≤ ri.length ∧ si = .int .i64 (k : Int) ∧ ShT b B wr (.slice aV rn.length cV) (.slice aU un.length cU) (.slice aI ri.length cI) (.slice aJ ui.length cJ) tn un ti ui ∧ ti.map vn = ri.map vn ∧ Mks Int mkI k ti ∧ Below b w wr)
      case atStart => exact ⟨0, ri, rfl, Nat.zero_le _, rfl, SR.out, rfl, (fun j t h => by omega), HB.out⟩
      case round =>
        obtain ⟨k, ti, rfl, hk, rfl, hSr, hvn, hdone, hbel⟩ := hrel
        clear SR HB
        have SR : Hid (ShT b B wr (.slice aV rn.length cV) (.slice aU un.length cU) (.slice aI ri.length cI) (.slice aJ ui.length cJ) tn un ti ui) := hSr
        have HVI : Hid (ti.map vn = ri.map vn) := hvn
        have HD : Hid (Mks Int mkI k ti) := hdone
        have HB : Hid (Below b w wr) := hbel
        have htl : ti.length = ri.length := vn_len hvn
        have HTI : Hid (ti.length = ri.length) := htl
        clear hSr hvn hdone hbel
        by_cases hlt : k < ri.length
        · have hlt' : (k : Int) < (ri.length : Int) := by omega
          have hk0 : (0 : Int) ≤ (k : Int) := by omega
          obtain ⟨r, hr⟩ : ∃ r, ti[k]? = some r := ⟨_, List.getElem?_eq_getElem (by omega)⟩
          have hrn' : r.n ≤ 4194304 := vn_n HVI.out HM.out hr
          obtain ⟨gV, cV', hV, cv, -⟩ := SR.out.i.cellV hr
          simp only [Value.slice.injEq] at hV
          obtain ⟨rfl, -, rfl⟩ := hV
          have hro := SR.out.i.get hr
          obtain ⟨rv, rk, rx⟩ := r
          simp only at hro hrn' cv
          obtain ⟨a1, c1, rfl, hpos, -⟩ := own_slice hro
          have HR : Hid (ti[k]? = some ⟨.slice a1 rk c1, rk, rx⟩) := hr
          have HP : Hid (0 < rk → ∃ g, a1 = some ⟨g, 0, none⟩) := hpos
          clear htl hr hro hpos
          go_wp2
          clear cv
          go_loopg [101] rk (fun gi si wi => ∃ (i : Nat) (ys : List Value), gi = rk - i ∧ i ≤ rk ∧ si = .int .i64 (i : Int) ∧ ys.length = rk * 1 ∧ ys.take i = flat (List.replicate i (mkI k)) ∧ ShT b B wi (.slice aV rn.length cV) (.slice aU un.length cU) (.slice (some ⟨gV, 0, none⟩) ri.length cI) (.slice aJ ui.length cJ) tn un (ti.set k ⟨.slice a1 rk c1, rk, ys⟩) ui ∧ Below b w wi)
          case atStart => exact ⟨0, rx, rfl, Nat.zero_le _, rfl, (SR.out.i.get HR.out).1, by simp [flat], by rw [set_self HR.out]; exact SR.out, HB.out⟩
          case round =>
            obtain ⟨i, ys, rfl, hi, rfl, hyl, hyt, hSi, hbel⟩ := hrel
            clear SR HB
            have SR : Hid (ShT b B wr (.slice aV rn.length cV) (.slice aU un.length cU) (.slice (some ⟨gV, 0, none⟩) ri.length cI) (.slice aJ ui.length cJ) tn un (ti.set k ⟨.slice a1 rk c1, rk, ys⟩) ui) := hSi
            have HB : Hid (Below b w wr) := hbel
            have HYL : Hid (ys.length = rk * 1) := hyl
            have HYT : Hid (ys.take i = flat (List.replicate i (mkI k))) := hyt
            clear hSi hbel hyl hyt
            by_cases hli : i < rk
            · have hli' : (i : Int) < (rk : Int) := by omega
              have hi0 : (0 : Int) ≤ (i : Int) := by omega
              obtain ⟨g, rfl⟩ := HP.out (by omega)
              have hget : (ti.set k ⟨.slice (some ⟨g, 0, none⟩) rk c1, rk, ys⟩)[k]? = some ⟨.slice (some ⟨g, 0, none⟩) rk c1, rk, ys⟩ := List.getElem?_set_self (by have := HTI.out; omega)
              have hro := SR.out.i.get hget
              simp only at hro
              have hgl := hro.lt g rfl
              have hbB := SR.out.lt
              have f0 := hro.frozenAt i
              have HYL' := HYL.out
              obtain ⟨u0, d0⟩ : ∃ u, wr.cell? ⟨g, i, none⟩ = some u := by
                have h1 : i < ys.length := by omega
                have := hro.cells rfl i _ (List.getElem?_eq_getElem h1)
                rw [addr_addR] at this
                exact ⟨_, this⟩
              obtain ⟨w9, e9⟩ : ∃ w9, wr.setCell ⟨g, i, none⟩ (.int .i64 (-7777 - (k : Int))) = w9 := ⟨_, rfl⟩
              have HE9 : Hid (wr.setCell ⟨g, i, none⟩ (.int .i64 (-7777 - (k : Int))) = w9) := e9
              have S9 : Hid (ShT b B w9 (.slice aV rn.length cV) (.slice aU un.length cU) (.slice (some ⟨gV, 0, none⟩) ri.length cI) (.slice aJ ui.length cJ) tn un (ti.set k ⟨.slice (some ⟨g, 0, none⟩) rk c1, rk, ys.set i (.int .i64 (-7777 - (k : Int)))⟩) ui) := by
                unfold Hid
                have hi9 := SR.out.i.store (by decide) hget rfl i (.int .i64 (-7777 - (k : Int)))
                rw [List.set_set, e9] at hi9
                have hgb : b ≠ g := by omega
                have hn9 : She 116 102 4 B w9 (.slice aV rn.length cV) (.slice aU un.length cU) tn un := by
                  rw [← e9]
                  exact SR.out.n.rowFar hro rfl (by decide) (by decide) _ _
                exact ⟨by rw [← e9]; exact SR.out.box.other ⟨g, i, none⟩ hgb _, hn9, hi9, SR.out.lt, by rw [← e9]; simpa using SR.out.le⟩
              have B9 : Hid (Below b w w9) := by
                unfold Hid
                rw [← e9]
                have hgb : b ≤ g := by omega
                exact HB.out.setCell (p := ⟨g, i, none⟩) hgb _
              have Y9 : Hid ((ys.set i (.int .i64 (-7777 - (k : Int)))).take (i + 1) = flat (List.replicate (i + 1) (mkI k))) := by
                unfold Hid
                rw [take_set1 (by omega), HYT.out, flat_snoc]
                rfl
              clear hro e9 hget HYL' hbB
              go_wp2_with (go_at_call 67; (with_reducible refine (mark_any k _ (by omega)).mono ?_); rintro e w5 ⟨rfl, rfl⟩)
              rw [HE9.out]
              go_roundg (rk - (i + 1))
              case measure => omega
              case rel => exact ⟨i + 1, _, rfl, by omega, by go_num, by simp only [List.length_set]; exact HYL.out, Y9.out, S9.out, B9.out⟩
            · have hli' : ¬ (i : Int) < (rk : Int) := by omega
              have HY : Hid (ys = flat (List.replicate rk (mkI k))) := by
                unfold Hid
                have h1 := HYT.out
                rw [show i = rk by omega, List.take_of_length_le (by rw [HYL.out]; omega)] at h1
                exact h1
              go_wp2
              go_roundg (ri.length - (k + 1))
              case measure => omega
              case rel => exact ⟨k + 1, ti.set k ⟨.slice a1 rk c1, rk, ys⟩, rfl, by omega, by go_num, SR.out, vn_set HVI.out HR.out ys, HD.out.more (by have := HTI.out; omega) HY.out, HB.out⟩
        · have hlt' : ¬ (k : Int) < (ri.length : Int) := by omega
          have d8 : wr.cell? ⟨b, 8, none⟩ = some (.slice none 0 0) := SR.out.box.cell 8
          have d10 : wr.cell? ⟨b, 10, none⟩ = some (.slice none 0 0) := SR.out.box.cell 10
          have HDI : Hid (Mks Int mkI ti.length ti) := by unfold Hid; rw [htl, show ri.length = k by omega]; exact HD.out
          go_wp2
          refine wp_loop_rounds 1 ?_
          rw [rounds_succ]
          go_wp2
          refine wp_loop_rounds 1 ?_
          rw [rounds_succ]
          go_wp2
          go_end0
          exact ⟨⟨_, rfl⟩, tn, ti, SR.out, HV.out, HDN.out, HVI.out, HDI.out, HB.out⟩
end Go.Proofs.YtgijcbipnjmhgabGreat

namespace Go.Proofs.YtgijcbipnjmhgabGreat
open Go.ChangeShapes Go.WideShapes Go.ChangeAt Go.RowKit
set_option linter.unusedVariables false
set_option linter.unusedSimpArgs false

/-- every list has its marks alone, and more things than it had -/
def Mkd (α : Type) [Rw α] (mk : Nat → α) (more : Nat) (ts us : List Rr) : Prop := ts.length = us.length ∧ ∀ (j : Nat) t u, ts[j]? = some t → us[j]? = some u → t.n = u.n + more ∧ t.xs = flat (List.replicate t.n (mk j)) ∧ t.n ≤ 8388608

set_option maxRecDepth 1000000 in
set_option maxHeartbeats 2000000 in
theorem others_any (b B more : Nat) (w : World) (V U I J : Value) (tn un ti ui : List Rr) (hT : ShT b B w V U I J tn un ti ui) (hM : Mkd Nd mkNd more tn un) (hN : Mkd Int mkI more ti ui) (htn : tn.length ≤ 1000) (hti : ti.length ≤ 1000) (hmo : more ≤ 100) :
    Calls Tryz.prog 68 #[.pointer (some ⟨b, 0, none⟩), .int .i64 (more : Int)] w fun e w' => e = .returned (.bool true) ∧ Below w.heap.size w w' := by
  obtain ⟨aV, cV, rfl, -, -⟩ := own_slice hT.n.outV
  obtain ⟨aU, cU, rfl, -, -⟩ := own_slice hT.n.outU
  obtain ⟨aI, cI, rfl, -, -⟩ := own_slice hT.i.outV
  obtain ⟨aJ, cJ, rfl, -, -⟩ := own_slice hT.i.outU
  have hul : un.length = tn.length := hM.1.symm
  have hjl : ui.length = ti.length := hN.1.symm
  rw [hul, hjl] at hT
  have HT : Hid (∀ v, Below w.heap.size w v → ShT b B v (.slice aV tn.length cV) (.slice aU tn.length cU) (.slice aI ti.length cI) (.slice aJ ti.length cJ) tn un ti ui) := fun v hv => hT.below hv
  have HM : Hid (Mkd Nd mkNd more tn un) := hM
  have HN : Hid (Mkd Int mkI more ti ui) := hN
  have c6 : w.cell? ⟨b, 6, none⟩ = some (.slice aI ti.length cI) := hT.box.cell 6
  clear hT hM hN
  go_enter Tryz.func68, Tryz.ntmps68
  go_wp2
  clear c6
  go_loopg [22] ti.length (fun gk si wr => ∃ k : Nat, gk = ti.length - k ∧ k ≤ ti.length ∧ si = .int .i64 (k : Int) ∧ Below w.heap.size w wr)
  case atStart => exact ⟨0, rfl, Nat.zero_le _, rfl, Below.refl _ _⟩
  case round =>
    obtain ⟨k, rfl, hk, rfl, hbel⟩ := hrel
    have HB : Hid (Below w.heap.size w wr) := hbel
    have SR : Hid (ShT b B wr (.slice aV tn.length cV) (.slice aU tn.length cU) (.slice aI ti.length cI) (.slice aJ ti.length cJ) tn un ti ui) := HT.out _ hbel
    clear hbel
    by_cases hlt : k < ti.length
    · have hlt' : (k : Int) < (ti.length : Int) := by omega
      have hk0 : (0 : Int) ≤ (k : Int) := by omega
      obtain ⟨r, hr⟩ : ∃ r, ti[k]? = some r := ⟨_, List.getElem?_eq_getElem hlt⟩
      obtain ⟨u, hu⟩ : ∃ u, ui[k]? = some u := ⟨_, List.getElem?_eq_getElem (by omega)⟩
      obtain ⟨hn1, hx1, hnb⟩ := HN.out.2 k r u hr hu
      obtain ⟨gV, cV', hV, cv, -⟩ := SR.out.i.cellV hr
      obtain ⟨gU, cU', hU, cu⟩ := SR.out.i.cellU hu
      simp only [Value.slice.injEq] at hV hU
      obtain ⟨rfl, -, rfl⟩ := hV
      obtain ⟨rfl, -, rfl⟩ := hU
      have hro := SR.out.i.get hr
      obtain ⟨a1, c1, hv1, hpos, -⟩ := own_slice hro
      obtain ⟨a2, c2, hv2, -, -⟩ := own_slice (SR.out.i.getU hu)
      rw [hv1, hx1] at hro
      rw [hv1] at cv
      rw [hv2] at cu
      obtain ⟨rn, hrn⟩ : ∃ n, r.n = n := ⟨_, rfl⟩
      obtain ⟨uk, hun⟩ : ∃ n, u.n = n := ⟨_, rfl⟩
      rw [hrn] at hn1 hnb hro cv hpos
      rw [hun] at hn1 cu
      have HRO : Hid (wr.ownsRow B 3 1 (.slice a1 rn c1) rn (flat (List.replicate rn (mkI k)))) := hro
      have HP : Hid (0 < rn → ∃ g, a1 = some ⟨g, 0, none⟩) := hpos
      have c5 : wr.cell? ⟨b, 7, none⟩ = some (.slice (some ⟨gU, 0, none⟩) ti.length cJ) := SR.out.box.cell 7
      have mk1 : IntKind.i64.wrap ((uk : Int) + (more : Int)) = (rn : Int) := by rw [IntWalk.i64_in _ ⟨by omega, by omega⟩]; omega
      have hne : ((rn : Int) != (rn : Int)) = false := by simp
      clear hr hu hro hpos hv1 hv2 hx1 hrn hun hn1
      go_wp2
      clear cv cu c5 mk1 hne
      obtain ⟨wo, rfl⟩ : ∃ wo, wo = wr := ⟨_, rfl⟩
      go_loopg [42] rn (fun gi si wi => ∃ i : Nat, gi = rn - i ∧ i ≤ rn ∧ si = .int .i64 (i : Int) ∧ Below wo.heap.size wo wi)
      case atStart => exact ⟨0, rfl, Nat.zero_le _, rfl, Below.refl _ _⟩
      case round =>
        obtain ⟨i, rfl, hi, rfl, hbel⟩ := hrel
        have HI : Hid (Below wo.heap.size wo wr) := hbel
        clear hbel
        by_cases hli : i < rn
        · have hli' : (i : Int) < (rn : Int) := by omega
          have hi0 : (0 : Int) ≤ (i : Int) := by omega
          obtain ⟨g, rfl⟩ := HP.out (by omega)
          have hro := own_belowR HRO.out HI.out (Nat.le_refl _)
          have d0 : wr.cell? ⟨g, i, none⟩ = some (.int .i64 (-7777 - (k : Int))) := by
            have hrep : (List.replicate rn (mkI k))[i]? = some (mkI k) := by rw [List.getElem?_replicate, if_pos hli]
            have := hro.cells rfl (i * 1 + 0) _ (by rw [show (1 : Nat) = Rw.k Int from rfl, flat_get _ i 0 (by decide), hrep]; rfl)
            rw [addr_addR, Nat.mul_one, Nat.add_zero] at this
            exact this
          have hne : ((-7777 - (k : Int)) != (-7777 - (k : Int))) = false := by simp
          clear hro
          go_wp2_with (go_at_call 67; (with_reducible refine (mark_any k _ (by omega)).mono ?_); rintro e w5 ⟨rfl, rfl⟩)
          go_roundg (rn - (i + 1))
          case measure => omega
          case rel => exact ⟨i + 1, rfl, by omega, by go_num, HI.out⟩
        · have hli' : ¬ (i : Int) < (rn : Int) := by omega
          go_wp2
          go_roundg (ti.length - (k + 1))
          case measure => omega
          case rel => exact ⟨k + 1, rfl, by omega, by go_num, HB.out.trans (HI.out.mono HB.out.size)⟩
    · have hlt' : ¬ (k : Int) < (ti.length : Int) := by omega
      have d8 : wr.cell? ⟨b, 8, none⟩ = some (.slice none 0 0) := SR.out.box.cell 8
      have d10 : wr.cell? ⟨b, 10, none⟩ = some (.slice none 0 0) := SR.out.box.cell 10
      go_wp2
      refine wp_loop_rounds 1 ?_
      rw [rounds_succ]
      go_wp2
      refine wp_loop_rounds 1 ?_
      rw [rounds_succ]
      go_wp2
      go_ret
      exact ⟨rfl, HB.out⟩
set_option maxRecDepth 1000000 in
set_option maxHeartbeats 2000000 in
theorem marked_any (b B more : Nat) (w : World) (V U I J : Value) (tn un ti ui : List Rr) (hT : ShT b B w V U I J tn un ti ui) (hM : Mkd Nd mkNd more tn un) (hN : Mkd Int mkI more ti ui) (htn : tn.length ≤ 1000) (hti : ti.length ≤ 1000) (hmo : more ≤ 100) :
    Calls Tryz.prog 40 #[.pointer (some ⟨b, 0, none⟩), .int .i64 (more : Int)] w fun e w' => e = .returned (.bool true) ∧ Below w.heap.size w w' := by
  obtain ⟨aV, cV, rfl, -, -⟩ := own_slice hT.n.outV
  obtain ⟨aU, cU, rfl, -, -⟩ := own_slice hT.n.outU
  obtain ⟨aI, cI, rfl, -, -⟩ := own_slice hT.i.outV
  obtain ⟨aJ, cJ, rfl, -, -⟩ := own_slice hT.i.outU
  have hul : un.length = tn.length := hM.1.symm
  have hjl : ui.length = ti.length := hN.1.symm
  rw [hul, hjl] at hT
  have HT : Hid (∀ v, Below w.heap.size w v → ShT b B v (.slice aV tn.length cV) (.slice aU tn.length cU) (.slice aI ti.length cI) (.slice aJ ti.length cJ) tn un ti ui) := fun v hv => hT.below hv
  have HM : Hid (Mkd Nd mkNd more tn un) := hM
  have HN : Hid (Mkd Int mkI more ti ui) := hN
  have HOT : Hid (∀ v, Below w.heap.size w v → Calls Tryz.prog 68 #[.pointer (some ⟨b, 0, none⟩), .int .i64 (more : Int)] v fun e w' => e = .returned (.bool true) ∧ Below v.heap.size v w') := fun v hv => others_any b B more v _ _ _ _ tn un ti ui (hT.below hv) hM hN htn hti hmo
  have c0 : w.cell? ⟨b, 0, none⟩ = some (.slice none 0 0) := hT.box.cell 0
  have c2 : w.cell? ⟨b, 2, none⟩ = some (.slice aV tn.length cV) := hT.box.cell 2
  clear hT hM hN
  go_enter Tryz.func40, Tryz.ntmps40
  go_wp2
  refine wp_loop_rounds 1 ?_
  rw [rounds_succ]
  go_wp2
  clear c0 c2
  go_loopg [58] tn.length (fun gk si wr => ∃ k : Nat, gk = tn.length - k ∧ k ≤ tn.length ∧ si = .int .i64 (k : Int) ∧ Below w.heap.size w wr)
  case atStart => exact ⟨0, rfl, Nat.zero_le _, rfl, Below.refl _ _⟩
  case round =>
    obtain ⟨k, rfl, hk, rfl, hbel⟩ := hrel
    have HB : Hid (Below w.heap.size w wr) := hbel
    have SR : Hid (ShT b B wr (.slice aV tn.length cV) (.slice aU tn.length cU) (.slice aI ti.length cI) (.slice aJ ti.length cJ) tn un ti ui) := HT.out _ hbel
    clear hbel
    by_cases hlt : k < tn.length
    · have hlt' : (k : Int) < (tn.length : Int) := by omega
      have hk0 : (0 : Int) ≤ (k : Int) := by omega
      obtain ⟨r, hr⟩ : ∃ r, tn[k]? = some r := ⟨_, List.getElem?_eq_getElem hlt⟩
      obtain ⟨u, hu⟩ : ∃ u, un[k]? = some u := ⟨_, List.getElem?_eq_getElem (by omega)⟩
      obtain ⟨hn1, hx1, hnb⟩ := HM.out.2 k r u hr hu
      obtain ⟨gV, cV', hV, cv, -⟩ := SR.out.n.cellV hr
      obtain ⟨gU, cU', hU, cu⟩ := SR.out.n.cellU hu
      simp only [Value.slice.injEq] at hV hU
      obtain ⟨rfl, -, rfl⟩ := hV
      obtain ⟨rfl, -, rfl⟩ := hU
      have hro := SR.out.n.get hr
      obtain ⟨a1, c1, hv1, hpos, -⟩ := own_slice hro
      obtain ⟨a2, c2, hv2, -, -⟩ := own_slice (SR.out.n.getU hu)
      rw [hv1, hx1] at hro
      rw [hv1] at cv
      rw [hv2] at cu
      obtain ⟨rn, hrn⟩ : ∃ n, r.n = n := ⟨_, rfl⟩
      obtain ⟨uk, hun⟩ : ∃ n, u.n = n := ⟨_, rfl⟩
      rw [hrn] at hn1 hnb hro cv hpos
      rw [hun] at hn1 cu
      have HRO : Hid (wr.ownsRow B 116 4 (.slice a1 rn c1) rn (flat (List.replicate rn (mkNd k)))) := hro
      have HP : Hid (0 < rn → ∃ g, a1 = some ⟨g, 0, none⟩) := hpos
      have c5 : wr.cell? ⟨b, 3, none⟩ = some (.slice (some ⟨gU, 0, none⟩) tn.length cU) := SR.out.box.cell 3
      have mk1 : IntKind.i64.wrap ((uk : Int) + (more : Int)) = (rn : Int) := by rw [IntWalk.i64_in _ ⟨by omega, by omega⟩]; omega
      have hne : ((rn : Int) != (rn : Int)) = false := by simp
      clear hr hu hro hpos hv1 hv2 hx1 hrn hun hn1
      go_wp2
      clear cv cu c5 mk1 hne
      obtain ⟨wo, rfl⟩ : ∃ wo, wo = wr := ⟨_, rfl⟩
      go_loopg [78] rn (fun gi si wi => ∃ i : Nat, gi = rn - i ∧ i ≤ rn ∧ si = .int .i64 (i : Int) ∧ Below wo.heap.size wo wi)
      case atStart => exact ⟨0, rfl, Nat.zero_le _, rfl, Below.refl _ _⟩
      case round =>
        obtain ⟨i, rfl, hi, rfl, hbel⟩ := hrel
        have HI : Hid (Below wo.heap.size wo wr) := hbel
        clear hbel
        by_cases hli : i < rn
        · have hli' : (i : Int) < (rn : Int) := by omega
          obtain ⟨g, rfl⟩ := HP.out (by omega)
          have hro := own_belowR HRO.out HI.out (Nat.le_refl _)
          have hrep : (List.replicate rn (mkNd k))[i]? = some (mkNd k) := by rw [List.getElem?_replicate, if_pos hli]
          have cc : ∀ m (hm : m < 4) u, (Rw.cs (mkNd k))[m]? = some u → wr.cell? ⟨g, i * 4 + m, none⟩ = some u := fun m hm u hu => by
            have := hro.cells rfl (i * 4 + m) u (by rw [show (4 : Nat) = Rw.k Nd from rfl, flat_get _ i m hm, hrep]; exact hu)
            rw [addr_addR] at this
            exact this
          have d0 : wr.cell? ⟨g, i * 4, none⟩ = some (.int .u8 0) := cc 0 (by omega) _ rfl
          have d1 : wr.cell? ⟨g, i * 4 + 1, none⟩ = some (.int .i64 (-7777 - (k : Int))) := cc 1 (by omega) _ rfl
          have d2 : wr.cell? ⟨g, i * 4 + 2, none⟩ = some (.int .i64 0) := cc 2 (by omega) _ rfl
          have d3 : wr.cell? ⟨g, i * 4 + 3, none⟩ = some (.int .i64 0) := cc 3 (by omega) _ rfl
          obtain ⟨w8, e8⟩ : ∃ w8, wr.alloc (.cells #[.int .u8 0, .int .i64 (-7777 - (k : Int)), .int .i64 0, .int .i64 0] 116) = w8 := ⟨_, rfl⟩
          have HE8 : Hid (wr.alloc (.cells #[.int .u8 0, .int .i64 (-7777 - (k : Int)), .int .i64 0, .int .i64 0] 116) = w8) := e8
          have X8 : Hid (Bx w8 wr.heap.size #[.int .u8 0, .int .i64 (-7777 - (k : Int)), .int .i64 0, .int .i64 0] 116) := by unfold Hid; rw [← e8]; exact Bx.new _ _ _
          have B8 : Hid (Below wo.heap.size wo w8) := by unfold Hid; rw [← e8]; exact HI.out.alloc HI.out.size _
          obtain ⟨X, F, hX, hF, onto⟩ := class_of (fun v => Below w8.heap.size w8 v) (Below.refl _ w8)
          have HF : Hid (∀ y, Below w8.heap.size w8 (F y)) := hF
          have HO : Hid (∀ v, Below w8.heap.size w8 v → ∃ x, v = F x) := fun v h => by obtain ⟨x, hx⟩ := onto v h; exact ⟨x, hx.symm⟩
          have f0 : ∀ y, (F y).cell? ⟨wr.heap.size, 0, none⟩ = some (.int .u8 0) := fun y => (X8.out.below (hF y) X8.out.lt).cell 0
          have f1 : ∀ y, (F y).cell? ⟨wr.heap.size, 1, none⟩ = some (.int .i64 (-7777 - (k : Int))) := fun y => (X8.out.below (hF y) X8.out.lt).cell 1
          have f2 : ∀ y, (F y).cell? ⟨wr.heap.size, 2, none⟩ = some (.int .i64 0) := fun y => (X8.out.below (hF y) X8.out.lt).cell 2
          have f3 : ∀ y, (F y).cell? ⟨wr.heap.size, 3, none⟩ = some (.int .i64 0) := fun y => (X8.out.below (hF y) X8.out.lt).cell 3
          clear hF onto hro hrep cc e8
          go_upto_region 21 with fail
          rw [HE8.out]
          clear d0 d1 d2 d3
          refine region_class F (by kernel_rfl) (by kernel_rfl) (by obtain ⟨x, hx⟩ := HO.out _ (Below.refl _ _).drew; exact ⟨x, hx.symm⟩) ?_
          repeat (go_big_quiet_step (first | (go_at_call 67; refine (mark_any k _ (by omega)).mono ?_; rintro e w5 ⟨rfl, rfl⟩; exact ⟨rfl, HO.out _ (HF.out _)⟩)))
          refine wpQuiet_nil ?_
          rintro _ ⟨nq, rfl⟩
          have HB2 : Hid (Below wo.heap.size wo (F nq)) := B8.out.trans ((HF.out nq).mono B8.out.size)
          go_wp2
          go_roundg (rn - (i + 1))
          case measure => omega
          case rel => exact ⟨i + 1, rfl, by omega, by go_num, HB2.out⟩
        · have hli' : ¬ (i : Int) < (rn : Int) := by omega
          go_wp2
          go_roundg (tn.length - (k + 1))
          case measure => omega
          case rel => exact ⟨k + 1, rfl, by omega, by go_num, HB.out.trans (HI.out.mono HB.out.size)⟩
    · have hlt' : ¬ (k : Int) < (tn.length : Int) := by omega
      have d4 : wr.cell? ⟨b, 4, none⟩ = some (.slice none 0 0) := SR.out.box.cell 4
      go_wp2
      refine wp_loop_rounds 1 ?_
      rw [rounds_succ]
      go_wp2_with (go_at_call 68; (with_reducible refine (HOT.out _ HB.out).mono ?_); rintro e w5 ⟨rfl, hb5⟩; have HB5 : Hid (Below w.heap.size w w5) := HB.out.trans (hb5.mono HB.out.size); clear hb5)
      go_ret
      exact ⟨rfl, HB5.out⟩
end Go.Proofs.YtgijcbipnjmhgabGreat
