import Derived.Test.YtchcmonhdgndcaaTo
import Derived.Test.YtchcmonhdgndcaaOw3
import Derived.Test.YtchcmonhdgndcaaVl5
namespace Go.Proofs.Ytchcmonhdgndcaa
open Go.ChangeShapes Go.WideShapes Go.ChangeAt Go.RowKit
set_option linter.unusedVariables false

theorem ow1_le (ts : List Tk) (ns : List Nd) (i n : Nat) : ow1 ts ns i n ≤ 1 := by unfold ow1; split <;> omega
theorem sm_le {o : Nat → Nat} (h : ∀ n, o n ≤ 1) : ∀ k a, sm o a k ≤ k := by
  intro k
  induction k with
  | zero => intro a; simp [sm]
  | succ k ih => intro a; rw [sm]; have := ih (a + 1); have := h a; omega
theorem sm_zero {o : Nat → Nat} (h : ∀ n, o n = 0) : ∀ k a, sm o a k = 0 := by
  intro k
  induction k with
  | zero => intro a; rfl
  | succ k ih => intro a; rw [sm, ih, h a]
theorem tkAt_at {ts : List Tk} {j : Nat} {p : Tk} (hp : ts[j]? = some p) : tkAt ts j = tokB p := by unfold tkAt; rw [hp]
/-- how many nodes own a piece -/
theorem tok_count {ts : List Tk} {ns : List Nd} {x0 : Nd} {j : Nat} {p : Tk} (hv : vlB ns (ts.length : Int) = true) (hx0 : ns[0]? = some x0) (hp : ts[j]? = some p) :
    sm (ow1 ts ns j) 0 ns.length = if tokB p = true ∧ x0.f ≤ (j : Int) ∧ (j : Int) < x0.e then 1 else 0 := by
  have hj : j < ts.length := (List.getElem?_eq_some_iff.1 hp).1
  cases ht : tokB p with
  | false =>
    rw [if_neg (by simp)]
    refine sm_zero (fun n => ?_) _ _
    unfold ow1
    rw [if_neg]
    intro hm
    cases hx : ns[n]? with
    | none => rw [owl_big (List.getElem?_eq_none_iff.1 hx)] at hm; cases hm
    | some x =>
      have := ((owl_mem hx).1 hm).2.1
      rw [tkAt_at hp, ht] at this; cases this
  | true =>
    have hs := (vlB_parts hv).1
    unfold shB at hs
    rw [hx0, Bool.and_eq_true, decide_eq_true_eq] at hs
    have hl : 0 < ns.length := (List.getElem?_eq_some_iff.1 hx0).1
    rw [one_owner hv hj (by rw [tkAt_at hp]; exact ht) ns.length 0 ns.length x0 (Nat.le_refl _) hx0 hs.1 (by omega) (by omega), show ((0 : Nat) : Int) = ((0 : Nat) : Int) from rfl, hd1_at hx0]
    simp

/-- the last that came of a list's first q -/
def lst (l : List Int) : Nat → Int
  | 0 => -1
  | q + 1 => (l[q]?).getD 0
theorem lst_lt {l : List Int} (hs : l.Pairwise (· < ·)) (h0 : ∀ y ∈ l, 0 ≤ y) {q : Nat} {y : Int} (hy : l[q]? = some y) : lst l q < y := by
  cases q with
  | zero => have := h0 y (List.mem_of_getElem? hy); show (-1 : Int) < y; omega
  | succ q =>
    obtain ⟨hq, e⟩ := List.getElem?_eq_some_iff.1 hy
    have := List.pairwise_iff_getElem.1 hs q (q + 1) (by omega) hq (by omega)
    show (l[q]?).getD 0 < y
    rw [List.getElem?_eq_getElem (by omega), Option.getD_some, ← e]
    exact this
theorem lst_succ {l : List Int} {q : Nat} {y : Int} (hy : l[q]? = some y) : lst l (q + 1) = y := by show (l[q]?).getD 0 = y; rw [hy]; rfl
theorem not_taken {l : List Int} (hs : l.Pairwise (· < ·)) {q : Nat} {y : Int} (hy : l[q]? = some y) : y ∉ l.take q := by
  intro hm
  obtain ⟨p, hp⟩ := List.getElem?_of_mem hm
  have hpl := (List.getElem?_eq_some_iff.1 hp).1
  rw [List.length_take] at hpl
  rw [List.getElem?_take_of_lt (by omega)] at hp
  obtain ⟨h1, e1⟩ := List.getElem?_eq_some_iff.1 hp
  obtain ⟨h2, e2⟩ := List.getElem?_eq_some_iff.1 hy
  have := List.pairwise_iff_getElem.1 hs p q h1 h2 (by omega)
  rw [e1, e2] at this
  omega

/-- the counts: of n nodes, and of q of the next one's own tokens -/
def Cn (ts : List Tk) (ns : List Nd) (n : Nat) (l : List Int) (cn : List Int) : Prop := cn.length = ts.length ∧ ∀ j, j < ts.length → cn[j]? = some ((sm (ow1 ts ns j) 0 n : Nat) + (if (j : Int) ∈ l then 1 else 0) : Int)
theorem Cn.start (ts : List Tk) (ns : List Nd) : Cn ts ns 0 [] (List.replicate ts.length 0) := ⟨by simp, fun j hj => by rw [List.getElem?_replicate]; simp [hj, sm]⟩
theorem Cn.step {ts : List Tk} {ns : List Nd} {n : Nat} {l cn : List Int} {q i : Nat} (h : Cn ts ns n (l.take q) cn) (hs : l.Pairwise (· < ·)) (hi : i < ts.length) (hy : l[q]? = some (i : Int)) : ∃ c : Nat, cn[i]? = some (c : Int) ∧ c ≤ n ∧ Cn ts ns n (l.take (q + 1)) (cn.set i ((c : Int) + 1)) := by
  have hno := not_taken hs hy
  refine ⟨sm (ow1 ts ns i) 0 n, by rw [h.2 i hi, if_neg hno]; simp, sm_le (ow1_le ts ns i) _ _, by rw [List.length_set]; exact h.1, fun j hj => ?_⟩
  have e : l.take (q + 1) = l.take q ++ [(i : Int)] := by rw [List.take_add_one, hy]; rfl
  rw [e, List.getElem?_set]
  by_cases hji : i = j
  · subst hji
    rw [if_pos rfl, if_pos (by rw [h.1]; exact hj), if_pos (by simp)]
  · rw [if_neg hji, h.2 j hj]
    congr 2
    have : ((j : Int) ∈ l.take q ++ [(i : Int)]) ↔ ((j : Int) ∈ l.take q) := by
      rw [List.mem_append, List.mem_singleton]
      constructor
      · rintro (h | h)
        · exact h
        · omega
      · exact .inl
    simp only [this]
theorem Cn.next {ts : List Tk} {ns : List Nd} {n : Nat} {cn : List Int} (h : Cn ts ns n (owl ts ns n) cn) : Cn ts ns (n + 1) [] cn := ⟨h.1, fun j hj => by
  rw [h.2 j hj, sm_last]
  unfold ow1
  by_cases hm : (j : Int) ∈ owl ts ns n
  · rw [if_pos hm, if_pos hm]; simp
  · rw [if_neg hm, if_neg hm]; simp⟩

set_option maxRecDepth 1000000 in
set_option maxHeartbeats 4000000 in
theorem treeTokens_walk (s : ByteArray) (a1 a2 : Option Addr) (c1 c2 : Nat) (ts : List Tk) (ns : List Nd) (w : World) (h1 : LiesA w a1 ts) (h2 : LiesA w a2 ns) (hn1 : a1 = none → ts.length = 0 ∧ c1 = 0) (hn2 : a2 = none → ns.length = 0 ∧ c2 = 0)
    (hl1 : ts.length * 24 ≤ 140737488351232) (hl2 : ns.length * 32 ≤ 140737488351232) (hs : s.size ≤ 140737488351232) (hf1 : ∀ e ∈ ts, TkFit e) (hf2 : ∀ e ∈ ns, NdFit e) (hc1 : ts.length ≤ c1) :
    Calls Try.prog 4 #[.agg #[.string s, .slice a1 ts.length c1, .slice a2 ns.length c2]] w fun e w' => e = .returned (.bool true) ∧ Below w.heap.size w w' := by
  obtain ⟨i0, hi, hz0, hz1, hz2⟩ := info_parts infoInt
  have H1 : Hid (LiesA w a1 ts) := h1
  have H2 : Hid (LiesA w a2 ns) := h2
  have HF1 : Hid (∀ e ∈ ts, TkFit e) := hf1
  have HF2 : Hid (∀ e ∈ ns, NdFit e) := hf2
  obtain ⟨w2, e2, hw, hs2, B0, B1⟩ := bx2 w #[.string s, .slice a1 ts.length c1, .slice a2 ns.length c2] #[.slice a2 ns.length c2] 27 25
  have HE2 : Hid ((w.alloc (.cells #[.string s, .slice a1 ts.length c1, .slice a2 ns.length c2] 27)).alloc (.cells #[.slice a2 ns.length c2] 25) = w2) := e2
  have HW : Hid (Below w.heap.size w w2) := hw
  have HS2 : Hid (w2.heap.size = w.heap.size + 2) := hs2
  have HC : Hid (∀ v, Below w2.heap.size w2 v → v.cell? ⟨w.heap.size, 1, none⟩ = some (.slice a1 ts.length c1) ∧ v.cell? ⟨w.heap.size + 1, 0, none⟩ = some (.slice a2 ns.length c2) ∧ w.heap.size + 2 ≤ v.heap.size ∧ Below w.heap.size w v) := fun v hv =>
    ⟨(B0.below hv (by omega)).cell 1, (B1.below hv (by omega)).one, by have := hv.size; omega, hw.trans (hv.mono hw.size)⟩
  obtain ⟨q1, q3, -, -⟩ := HC.out w2 (Below.refl _ _)
  clear h1 h2 hn1 hn2 hf1 hf2 e2 hw hs2 B0 B1
  cases hvl : vlB ns (ts.length : Int) with
  | false =>
    have HVL : Hid (vlB ns (ts.length : Int) = false) := hvl
    clear hvl
    go_enter Try.func4, Try.ntmps4
    go_upto_region 2 with fail
    rw [HE2.out]
    go_wp2_with (first
      | (go_at_call 8; refine (rvalid_any a2 c2 ns (ts.length : Int) _ (H2.out.below HW.out) hl2 HF2.out).mono ?_; rintro e w3 ⟨rfl, hb3⟩; rw [HVL.out]; have HB3 : Hid (Below w2.heap.size w2 w3) := hb3; obtain ⟨z1, z3, -, -⟩ := HC.out w3 hb3; clear hb3)
      | (go_at_call 13; refine (valid_any a2 c2 ns (ts.length : Int) _ (H2.out.below (HC.out _ HB3.out).2.2.2) hl2 HF2.out).mono ?_; rintro e w4 ⟨rfl, hb4⟩; rw [HVL.out]; have HB4 : Hid (Below w2.heap.size w2 w4) := HB3.out.trans (hb4.mono HB3.out.size); clear hb4))
    go_ret
    exact ⟨rfl, (HC.out _ HB4.out).2.2.2⟩
  | true =>
    have HVL : Hid (vlB ns (ts.length : Int) = true) := hvl
    obtain ⟨hsh, hvn⟩ := vlB_parts hvl
    have HVN : Hid (∀ i, i < ns.length → vlN ns (ts.length : Int) i = true) := hvn
    obtain ⟨x0, hx0⟩ : ∃ x, ns[0]? = some x := by
      cases hx : ns[0]? with
      | none => unfold shB at hsh; rw [hx] at hsh; simp at hsh
      | some x => exact ⟨x, rfl⟩
    have HX0 : Hid (ns[0]? = some x0) := hx0
    have hnl : 0 < ns.length := (List.getElem?_eq_some_iff.1 hx0).1
    rcases H2.out with h0 | ⟨b2, o2, rfl, hL2⟩
    · rw [h0] at hnl; simp at hnl
    have HL2 : Hid (Lies w b2 o2 ns) := hL2
    clear hvl hsh hvn hx0 hL2
    go_enter Try.func4, Try.ntmps4
    go_upto_region 2 with fail
    rw [HE2.out]
    go_wp2_with (first
      | (go_at_call 8; refine (rvalid_any _ c2 ns (ts.length : Int) _ (H2.out.below HW.out) hl2 HF2.out).mono ?_; rintro e w4 ⟨rfl, hb4⟩; rw [HVL.out]; have HB4 : Hid (Below w2.heap.size w2 w4) := hb4; obtain ⟨z1, z3, -, -⟩ := HC.out w4 hb4; clear hb4)
      | (at_make; refine wpList_make_row _ rfl _ _ 38 rfl 3 i0 (.int .i64 0) Try.underlying38 hi hz0 hz1 rfl .i64 .i64 ts.length rfl rfl (by rw [hz2]; omega) (by omega) ?_; obtain ⟨w5, e5, hb5, hs5, B5⟩ := bx1 w4 (madeCells #[Value.int .i64 0] ts.length) 3; rw [e5]; rw [made_flat] at B5; have HB5 : Hid (Below w2.heap.size w2 w5) := HB4.out.trans (hb5.mono HB4.out.size); have HT5 : Hid (Bx w5 w4.heap.size (flat (List.replicate ts.length (0 : Int))).toArray 3) := B5; have HB45 : Hid (Below w4.heap.size w4 w5) := hb5; obtain ⟨z5, z7, -, -⟩ := HC.out w5 HB5.out; clear e5 hb5 hs5 B5))
    have hs4 : w2.heap.size ≤ w4.heap.size := HB4.out.size
    clear z1 z3 q1 q3 z5 z7
    go_loopw [33] (fun i wr => ∃ (n : Nat) (cn : List Int), n ≤ ns.length ∧ i = .int .i64 (n : Int) ∧ Below w4.heap.size w4 wr ∧ Bx wr w4.heap.size (flat cn).toArray 3 ∧ Cn ts ns n [] cn) (fun i _ => ns.length - (intOf i).toNat)
    case atStart => exact ⟨0, _, by omega, rfl, HB45.out, HT5.out, Cn.start ts ns⟩
    case round =>
      obtain ⟨wo, rfl⟩ : ∃ wo, wo = wr := ⟨_, rfl⟩
      obtain ⟨n, cn, hn, rfl, hbel, hbx, hcn⟩ := hrel
      have HB : Hid (Below w4.heap.size w4 wo) := hbel
      have HBX : Hid (Bx wo w4.heap.size (flat cn).toArray 3) := hbx
      have HCN : Hid (Cn ts ns n [] cn) := hcn
      have hgr : w4.heap.size < wo.heap.size := hbx.lt
      have HB2 : Hid (Below w2.heap.size w2 wo) := HB4.out.trans (hbel.mono hs4)
      obtain ⟨y1, y3, -, -⟩ := HC.out wo HB2.out
      clear hbel hbx hcn
      by_cases hnn : n < ns.length
      · obtain ⟨x, hx⟩ : ∃ x, ns[n]? = some x := ⟨_, List.getElem?_eq_getElem hnn⟩
        have HX : Hid (ns[n]? = some x) := hx
        have hn1 : (n : Int) < (ns.length : Int) := by omega
        have HSO : Hid ((owl ts ns n).Pairwise (· < ·)) := owl_sorted ts ns n
        have HME : Hid (∀ y ∈ owl ts ns n, ∃ i : Nat, y = i ∧ i < ts.length ∧ x.f ≤ (i : Int) ∧ (i : Int) < x.e) := fun y hy => by
          obtain ⟨i, rfl⟩ := owl_nat hy
          obtain ⟨h1, -, h3, -⟩ := (owl_mem hx).1 hy
          exact ⟨i, rfl, h1, h3.1, h3.2⟩
        clear hx
        go_wp2_with (go_at_call 14; refine (own_any a1 _ c1 c2 ts ns (n : Int) _ (H1.out.below (HC.out _ HB2.out).2.2.2) (H2.out.below (HC.out _ HB2.out).2.2.2) hl1 hl2 HF2.out (by omega) (by omega) hc1).mono ?_; rintro e w6 ⟨v6, rfl, o6, hb6⟩; have HK6 : Hid (∀ k, v6.ownBlock = some k → wo.heap.size ≤ k ∧ k < w6.heap.size) := o6.lt; have HB6 : Hid (Below wo.heap.size wo w6) := hb6; obtain ⟨a6, c6, rfl, q6, -, -⟩ := own_form o6; have HQ6 : Hid (LiesA w6 a6 (owl ts ns n)) := q6; clear hb6 o6 q6)
        have HNE : Hid (∀ b o, a6 = some ⟨b, o, none⟩ → b ≠ w4.heap.size) := fun b o h => by
          subst h; have := (HK6.out b rfl).1; omega
        have HX6 : Hid (Bx w6 w4.heap.size (flat cn).toArray 3) := HBX.out.below HB6.out hgr
        have HB46 : Hid (Below w4.heap.size w4 w6) := HB.out.trans (HB6.out.mono (by omega))
        have HLL : Hid ((owl ts ns n).length ≤ ts.length) := by
          unfold Hid
          cases hx : ns[n]? with
          | none => rw [owl_big (List.getElem?_eq_none_iff.1 hx)]; simp
          | some x => rw [owl_at hx]; exact Nat.le_trans (List.length_filter_le _ _) (Nat.le_trans (tkl_len _ _ _) (by have := spE_le x ts.length; omega))
        have HNX : Hid (∀ cn', Cn ts ns n (owl ts ns n) cn' → Cn ts ns (n + 1) [] cn') := fun cn' h => h.next
        generalize hol : owl ts ns n = l at *
        clear hol y1 y3
        have hlb : l.length ≤ ts.length := HLL.out
        go_loopw [6, 42] (fun v i wr => ∃ (q : Nat) (cn : List Int), q ≤ l.length ∧ i = .int .i64 (q : Int) ∧ v = .int .i64 (lst l q) ∧ Below w4.heap.size w4 wr ∧ Bx wr w4.heap.size (flat cn).toArray 3 ∧ LiesA wr a6 l ∧ Cn ts ns n (l.take q) cn) (fun _ i _ => l.length - (intOf i).toNat)
        case atStart => exact ⟨0, cn, by omega, rfl, rfl, HB46.out, HX6.out, HQ6.out, by rw [List.take_zero]; exact HCN.out⟩
        case round =>
          obtain ⟨q, cq, hq, rfl, rfl, hbel, hbx, hlk, hcn⟩ := hrel
          have HBR : Hid (Below w4.heap.size w4 wr) := hbel
          have HBX7 : Hid (Bx wr w4.heap.size (flat cq).toArray 3) := hbx
          have HLK : Hid (LiesA wr a6 l) := hlk
          have HCQ : Hid (Cn ts ns n (l.take q) cq) := hcn
          have hgs : w4.heap.size < wr.heap.size := hbx.lt
          have HBR2 : Hid (Below w2.heap.size w2 wr) := HB4.out.trans (hbel.mono hs4)
          clear hbel hbx hcn
          by_cases hql : q < l.length
          · obtain ⟨y, hy⟩ : ∃ y, l[q]? = some y := ⟨_, List.getElem?_eq_getElem hql⟩
            obtain ⟨i, rfl, hil, hif, hie⟩ := HME.out y (List.mem_of_getElem? hy)
            have hlt := lst_lt HSO.out (fun y hy => by obtain ⟨j, rfl, -⟩ := HME.out y hy; omega) hy
            obtain ⟨c, hc, hcb, hst⟩ := HCQ.out.step HSO.out hil hy
            have HST : Hid (Cn ts ns n (l.take (q + 1)) (cq.set i ((c : Int) + 1))) := hst
            have HLS : Hid (lst l (q + 1) = (i : Int)) := lst_succ hy
            obtain ⟨y1, y3, -, zb⟩ := HC.out wr HBR2.out
            obtain ⟨-, d1, d2, -⟩ := HL2.out.nd zb HX.out
            rcases hlk with h0 | ⟨b6, o6, rfl, hL6⟩
            · rw [h0] at hql; simp at hql
            have t0 := hL6.int (Below.refl _ _) hy
            have cc := HBX7.out.get hc
            have cf := HBX7.out.free i
            have hq1 : (q : Int) < (l.length : Int) := by omega
            have hi1 : (i : Int) < (ts.length : Int) := by omega
            have hb2r : b2 < wr.heap.size := by have := HL2.out.1; have := zb.size; omega
            have hcw : (c : Int) ≤ 140737488351232 := by omega
            clear hy hL6 hst hc zb
            go_wp2
            go_roundw
            case rel => exact ⟨q + 1, _, by omega, by simp, by rw [HLS.out], HBR.out.setCell (p := ⟨w4.heap.size, i, none⟩) (Nat.le_refl _) _, HBX7.out.put i _, HLK.out.other (fun b o h => HNE.out b o h) _, HST.out⟩
            case measure => simp [intOf]; omega
          · have hqe : q = l.length := by omega
            have HCE : Hid (Cn ts ns (n + 1) [] cq) := HNX.out cq (by have := HCQ.out; rw [hqe, List.take_length] at this; exact this)
            have hq1 : ¬ (q : Int) < (l.length : Int) := by omega
            clear hqe
            go_wp2
            go_roundw
            case rel => exact ⟨n + 1, cq, by omega, by simp, HBR.out, HBX7.out, HCE.out⟩
            case measure => simp [intOf]; omega
      · have hne : n = ns.length := by omega
        have HCE : Hid (Cn ts ns ns.length [] cn) := by have := HCN.out; rw [hne] at this; exact this
        have hn1 : ¬ (n : Int) < (ns.length : Int) := by omega
        clear hne hnn
        go_wp2
        clear y1 y3
        go_loopw [81] (fun i wr => ∃ (j : Nat), j ≤ ts.length ∧ i = .int .i64 (j : Int) ∧ Below w4.heap.size w4 wr ∧ Bx wr w4.heap.size (flat cn).toArray 3) (fun i _ => ts.length - (intOf i).toNat)
        case atStart => exact ⟨0, by omega, rfl, HB.out, HBX.out⟩
        case round =>
          obtain ⟨j, hj, rfl, hbel, hbx⟩ := hrel
          have HBR : Hid (Below w4.heap.size w4 wr) := hbel
          have HBXR : Hid (Bx wr w4.heap.size (flat cn).toArray 3) := hbx
          have HBR2 : Hid (Below w2.heap.size w2 wr) := HB4.out.trans (hbel.mono hs4)
          have hgs : w4.heap.size < wr.heap.size := hbx.lt
          clear hbel hbx
          by_cases hjl : j < ts.length
          · obtain ⟨p, hp⟩ : ∃ p, ts[j]? = some p := ⟨_, List.getElem?_eq_getElem hjl⟩
            have HCO : Hid (cn[j]? = some ((if tokB p = true ∧ x0.f ≤ (j : Int) ∧ (j : Int) < x0.e then 1 else 0 : Nat) : Int)) := by
              unfold Hid
              rw [HCE.out.2 j hjl, tok_count HVL.out HX0.out hp]
              simp
            have hpk := (HF1.out p (List.mem_of_getElem? hp)).1
            obtain ⟨-, -, -, zb⟩ := HC.out wr HBR2.out
            rcases H1.out with h0 | ⟨b1, o1, rfl, hL1⟩
            · rw [h0] at hjl; simp at hjl
            obtain ⟨d0, d1, d2⟩ := hL1.tk zb hp
            have hj1 : (j : Int) < (ts.length : Int) := by omega
            have hb1r : b1 < wr.heap.size := by have := hL1.1; have := zb.size; omega
            obtain ⟨w6, e6, hb6, hs6, B6⟩ := bx1 wr #[.int .u8 p.k, .int .i64 p.f, .int .i64 p.t] 35
            have HE6 : Hid (wr.alloc (.cells #[.int .u8 p.k, .int .i64 p.f, .int .i64 p.t] 35) = w6) := e6
            have HW6 : Hid (Below w4.heap.size w4 w6) := HBR.out.trans (hb6.mono HBR.out.size)
            have HBX6 : Hid (Bx w6 w4.heap.size (flat cn).toArray 3) := HBXR.out.below hb6 hgs
            have q0 : w6.cell? ⟨wr.heap.size, 0, none⟩ = some (.int .u8 p.k) := B6.cell 0
            obtain ⟨-, y3, -, zb6⟩ := HC.out w6 (HBR2.out.trans (hb6.mono HBR2.out.size))
            have r1 : w6.cell? ⟨b2, o2 + 1, none⟩ = some (.int .i64 x0.f) := by have := (HL2.out.nd zb6 HX0.out).2.1; simpa using this
            have r2 : w6.cell? ⟨b2, o2 + 2, none⟩ = some (.int .i64 x0.e) := by have := (HL2.out.nd zb6 HX0.out).2.2.1; simpa using this
            have hn0 : (0 : Int) < (ns.length : Int) := by omega
            clear hp hL1 e6 hb6 hs6 B6 zb zb6
            by_cases k0 : p.k = 0
            · have k0' : (p.k == 0) = true := by simp [k0]
              have cc : w6.cell? ⟨w4.heap.size, j, none⟩ = some (.int .i64 0) := HBX6.out.get (by rw [HCO.out, if_neg (by intro h; have := h.1; unfold tokB at this; simp [k0] at this)]; rfl)
              clear k0
              go_upto_region 21 with fail
              rw [HE6.out]
              clear d0 d1 d2
              go_wp2
              go_roundw
              case rel => exact ⟨j + 1, by omega, by simp, HW6.out, HBX6.out⟩
              case measure => simp [intOf]; omega
            · have k0' : (p.k == 0) = false := beq_eq_false_iff_ne.2 k0
              by_cases k1 : p.k = 1
              · have k1' : (p.k == 1) = true := by simp [k1]
                have cc : w6.cell? ⟨w4.heap.size, j, none⟩ = some (.int .i64 0) := HBX6.out.get (by rw [HCO.out, if_neg (by intro h; have := h.1; unfold tokB at this; simp [k1] at this)]; rfl)
                clear k0 k1
                go_upto_region 21 with fail
                rw [HE6.out]
                clear d0 d1 d2
                go_wp2
                go_roundw
                case rel => exact ⟨j + 1, by omega, by simp, HW6.out, HBX6.out⟩
                case measure => simp [intOf]; omega
              · have k1' : (p.k == 1) = false := beq_eq_false_iff_ne.2 k1
                have htk : tokB p = true := by unfold tokB; simp [k0, k1]
                by_cases g1 : (j : Int) < x0.f
                · have cc : w6.cell? ⟨w4.heap.size, j, none⟩ = some (.int .i64 0) := HBX6.out.get (by rw [HCO.out, if_neg (by omega)]; rfl)
                  clear k0 k1 htk
                  go_upto_region 21 with fail
                  rw [HE6.out]
                  clear d0 d1 d2
                  go_wp2
                  go_roundw
                  case rel => exact ⟨j + 1, by omega, by simp, HW6.out, HBX6.out⟩
                  case measure => simp [intOf]; omega
                · by_cases g2 : x0.e ≤ (j : Int)
                  · have cc : w6.cell? ⟨w4.heap.size, j, none⟩ = some (.int .i64 0) := HBX6.out.get (by rw [HCO.out, if_neg (by omega)]; rfl)
                    clear k0 k1 htk
                    go_upto_region 21 with fail
                    rw [HE6.out]
                    clear d0 d1 d2
                    go_wp2
                    go_roundw
                    case rel => exact ⟨j + 1, by omega, by simp, HW6.out, HBX6.out⟩
                    case measure => simp [intOf]; omega
                  · have cc : w6.cell? ⟨w4.heap.size, j, none⟩ = some (.int .i64 1) := HBX6.out.get (by rw [HCO.out, if_pos ⟨htk, by omega, by omega⟩]; rfl)
                    clear k0 k1 htk
                    go_upto_region 21 with fail
                    rw [HE6.out]
                    clear d0 d1 d2
                    go_wp2
                    go_roundw
                    case rel => exact ⟨j + 1, by omega, by simp, HW6.out, HBX6.out⟩
                    case measure => simp [intOf]; omega
          · have hje : ¬ (j : Int) < (ts.length : Int) := by omega
            go_wp2
            go_ret
            exact ⟨rfl, (HC.out _ HBR2.out).2.2.2⟩
end Go.Proofs.Ytchcmonhdgndcaa
