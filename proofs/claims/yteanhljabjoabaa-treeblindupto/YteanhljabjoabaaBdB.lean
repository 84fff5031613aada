import Derived.Test.YteanhljabjoabaaBdC
import Derived.Deep.RegionHeld3
namespace Go.Proofs.Yteanhljabjoabaa
open Go.ChangeShapes Go.WideShapes Go.ChangeAt Go.RowKit
set_option linter.unusedVariables false

theorem LiesA.setO {α : Type} [Rw α] {w : World} {a : Option Addr} {xs : List α} (h : LiesA w a xs) {g : Nat} (hne : ∀ b o, a = some ⟨b, o, none⟩ → b ≠ g) (i : Nat) (u : Value) : LiesA (w.setCell ⟨g, i, none⟩ u) a xs := by
  rcases h with h | ⟨b, o, ha, h⟩
  · exact .inl h
  · refine .inr ⟨b, o, ha, by simpa using h.1, fun j u hj => ?_⟩
    rw [← h.2 j u hj]
    exact World.cell?_of_block (Below.heap_setCell w ⟨g, i, none⟩ _ b (hne b o ha))

/-- k of the nodes moved -/
def mvd (c : Nat → Bool) (L : Nat) (ns : List Nd) (k : Nat) : List Nd := (ns.take k).map (mv c L) ++ ns.drop k
theorem mvd_zero (c : Nat → Bool) (L : Nat) (ns : List Nd) : mvd c L ns 0 = ns := by simp [mvd]
theorem mvd_all (c : Nat → Bool) (L : Nat) (ns : List Nd) : mvd c L ns ns.length = ns.map (mv c L) := by simp [mvd]
theorem mvd_len (c : Nat → Bool) (L : Nat) (ns : List Nd) (k : Nat) : (mvd c L ns k).length = ns.length := by simp [mvd]; omega
theorem mvd_at {c : Nat → Bool} {L : Nat} {ns : List Nd} {k : Nat} {x : Nd} (hx : ns[k]? = some x) : (mvd c L ns k)[k]? = some x := by
  have hk := (List.getElem?_eq_some_iff.1 hx).1
  unfold mvd
  have hl : ((ns.take k).map (mv c L)).length = k := by simp; omega
  rw [List.getElem?_append_right (by omega), hl, Nat.sub_self, List.getElem?_drop, Nat.add_zero]
  exact hx
theorem mvd_step {c : Nat → Bool} {L : Nat} {ns : List Nd} {k : Nat} {x : Nd} (hx : ns[k]? = some x) : (mvd c L ns k).set k (mv c L x) = mvd c L ns (k + 1) := by
  have hk := (List.getElem?_eq_some_iff.1 hx).1
  unfold mvd
  have hl : ((ns.take k).map (mv c L)).length = k := by simp; omega
  rw [List.set_append_right _ _ (by omega), hl, Nat.sub_self, drop_get hx, List.set_cons_zero, List.take_add_one, hx]
  simp

/-- the places of all -/
theorem Pls.last {c : Nat → Bool} {L : Nat} {P : List Int} (h : Pls c L L P) : ∀ j, j ≤ L → (P.set L ((L + 2 * cn c L : Nat) : Int))[j]? = some ((plc c L j : Nat) : Int) := by
  intro j hj
  rw [List.getElem?_set]
  by_cases e : L = j
  · subst e; rw [if_pos rfl, if_pos (by rw [h.1]; omega)]; unfold plc; rw [if_neg (by omega)]
  · rw [if_neg e, h.2 j (by omega)]; unfold plc; rw [if_pos (by omega)]

set_option maxRecDepth 1000000 in
set_option maxHeartbeats 4000000 in
theorem blind_second {x0 x1 x3 x7 x8 x9 x10 x11 x12 x13 x14 x15 x16 x17 x18 x19 x20 x21 x22 x23 x24 x25 x26 x27 x28 x29 x30 x31 x32 x33 x34 x35 x36 x37 x38 x39 x40 x41 x42 x43 x44 x45 x46 x47 x48 x49 x50 x51 x52 x53 x54 x55 x56 x57 x58 x59 x60 x61 x62 x63 x64 x65 x66 x67 x68 x69 x70 x71 x72 x73 x74 x75 x76 x77 x78 x79 x80 x81 x82 x83 x84 x85 x86 x87 x88 x89 x90 x91 x92 x93 x94 x95 x96 x97 x98 x99 x100 x101 x102 x103 x104 x105 x106 x107 x108 x109 x110 x111 x112 x113 x114 x115 x116 x117 x118 x119 x120 x121 x122 x123 x124 x125 x126 x127 x128 x129 x130 x131 x132 x133 x134 x135 x136 x137 x138 x139 x140 x141 x142 x143 x144 x145 x146 x147 x148 x149 x150 x151 : Value} (s : ByteArray) (a1 a2 a8 : Option Addr) (c1 c2 c8 N g : Nat) (ts : List Tk) (ns : List Nd) (P : List Int) (cc : Nat → Bool) (w v : World) (hN : N = (wvn cc ts ts.length).length)
    (hb : Below w.heap.size w v) (hbx : Bx v w.heap.size #[.string s, .slice a1 ts.length c1, .slice a2 ns.length c2] 27) (hg : w.heap.size < g) (hP : Bx v g (flat P).toArray 3) (hPl : Pls cc ts.length ts.length P)
    (h1 : LiesA w a1 ts) (h2 : LiesA w a2 ns) (h3 : LiesA v a8 (wvn cc ts ts.length)) (h8 : ∀ b o, a8 = some ⟨b, o, none⟩ → b ≠ g) (hn2 : a2 = none → ns.length = 0 ∧ c2 = 0) (hl1 : ts.length ≤ 1048576) (hl2 : ns.length ≤ 1048576) (hs : s.size ≤ 1048576)
    (hf1 : ∀ e ∈ ts, TkFit e) (hf2 : ∀ e ∈ ns, NdFit e) (hc1 : ts.length ≤ c1) (hc8 : N ≤ c8) (hvl : vlB ns (ts.length : Int) = true) :
    Code.wp Try.prog bdRest (bodyPost Try.prog Try.f6 fun e w' => e = .returned (.bool true) ∧ Below w.heap.size w w') { tmps := #[x0, x1, .pointer (some ⟨w.heap.size, 0, none⟩), x3, .bool false, .slice a8 N c8, .slice (some ⟨g, 0, none⟩) (ts.length + 1) (ts.length + 1), x7, x8, x9, x10, x11, x12, x13, x14, x15, x16, x17, x18, x19, x20, x21, x22, x23, x24, x25, x26, x27, x28, x29, x30, x31, x32, x33, x34, x35, x36, x37, x38, x39, x40, x41, x42, x43, x44, x45, x46, x47, x48, x49, x50, x51, x52, x53, x54, x55, x56, x57, x58, x59, x60, x61, x62, x63, x64, x65, x66, x67, x68, x69, x70, x71, x72, x73, x74, x75, x76, x77, x78, x79, x80, x81, x82, x83, x84, x85, x86, x87, x88, x89, x90, x91, x92, x93, x94, x95, x96, x97, x98, x99, x100, x101, x102, x103, x104, x105, x106, x107, x108, x109, x110, x111, x112, x113, x114, x115, x116, x117, x118, x119, x120, x121, x122, x123, x124, x125, x126, x127, x128, x129, x130, x131, x132, x133, x134, x135, x136, x137, x138, x139, x140, x141, x142, x143, x144, x145, x146, x147, x148, x149, x150, x151], defers := [] } v := by
  have hcn := cn_le cc ts.length
  have hlen := wvn_len cc ts ts.length (Nat.le_refl _)
  have hNe : N = ts.length + 2 * cn cc ts.length := by omega
  have hNb : N ≤ 3145728 := by omega
  have HNE : Hid (N = ts.length + 2 * cn cc ts.length) := hNe
  have hnl : 0 < ns.length := by
    cases hx : ns[0]? with
    | none => unfold vlB shB at hvl; rw [hx] at hvl; simp at hvl
    | some x => exact (List.getElem?_eq_some_iff.1 hx).1
  have HFT : Hid (∀ (k : Nat) (x : Nd), ns[k]? = some x → Fit ts.length x) := fit_of hvl
  have HPA : Hid (∀ j, j ≤ ts.length → (P.set ts.length (N : Int))[j]? = some ((plc cc ts.length j : Nat) : Int)) := by unfold Hid; rw [hNe]; exact hPl.last
  have HVL : Hid (vlB ns (ts.length : Int) = true) := hvl
  have HN2 : Hid (a2 = none → ns.length = 0 ∧ c2 = 0) := hn2
  have HNN : Hid (N = (wvn cc ts ts.length).length) := hN
  have HF1 : Hid (∀ e ∈ ts, TkFit e) := hf1
  have HF2 : Hid (∀ e ∈ ns, NdFit e) := hf2
  have H1 : Hid (LiesA w a1 ts) := h1
  have H2 : Hid (LiesA w a2 ns) := h2
  obtain ⟨pv, hpv⟩ : ∃ pv, P[ts.length]? = some pv := ⟨_, List.getElem?_eq_getElem (by rw [hPl.1]; omega)⟩
  have cv := hP.get hpv
  have cf := hP.free ts.length
  have q1 := hbx.cell 1
  simp at q1
  obtain ⟨w1, e1⟩ : ∃ w1, v.setCell ⟨g, ts.length, none⟩ (.int .i64 (N : Int)) = w1 := ⟨_, rfl⟩
  have HE1 : Hid (v.setCell ⟨g, ts.length, none⟩ (.int .i64 (N : Int)) = w1) := e1
  have HB1 : Hid (Below w.heap.size w w1) := by unfold Hid; rw [← e1]; exact hb.setCell (p := ⟨g, ts.length, none⟩) (by show w.heap.size ≤ g; omega) _
  have HX1 : Hid (Bx w1 w.heap.size #[.string s, .slice a1 ts.length c1, .slice a2 ns.length c2] 27) := by unfold Hid; rw [← e1]; exact hbx.other ⟨g, ts.length, none⟩ (by show w.heap.size ≠ g; omega) _
  have HP1 : Hid (Bx w1 g (flat (P.set ts.length (N : Int))).toArray 3) := by unfold Hid; rw [← e1]; exact hP.put _ _
  have HU1 : Hid (LiesA w1 a8 (wvn cc ts ts.length)) := by unfold Hid; rw [← e1]; exact h3.setO h8 _ _
  obtain ⟨P1, hP1⟩ : ∃ P1, P.set ts.length (N : Int) = P1 := ⟨_, rfl⟩
  rw [hP1] at HPA HP1
  have z2 := HX1.out.cell 2
  simp at z2
  have HC : Hid (∀ x, Below w1.heap.size w1 x → Bx x w.heap.size #[.string s, .slice a1 ts.length c1, .slice a2 ns.length c2] 27 ∧ Bx x g (flat P1).toArray 3 ∧ LiesA x a8 (wvn cc ts ts.length) ∧ Below w.heap.size w x) := fun x hx =>
    ⟨HX1.out.below hx HX1.out.lt, HP1.out.below hx HP1.out.lt, HU1.out.below hx, HB1.out.trans (hx.mono HB1.out.size)⟩
  clear hP1 hpv e1 hN hvl hn2 hf1 hf2 h1 h2 h3 h8 hb hbx hP hPl hlen hNe hcn
  dsimp only [bdRest, Try.f6]
  go_upto_region 14 with fail
  rw [HE1.out]
  clear cv cf q1
  go_upto_region 15 with (first
    | (go_at_call 18; refine (copyTree_own a2 c2 ns _ (H2.out.below HB1.out) HN2.out (by omega)).mono ?_; rintro e w3 ⟨a9, c9, rfl, o9, hb9⟩; have HB9 : Hid (Below w1.heap.size w1 w3) := hb9; have HO9 : Hid (w3.ownsRow (w1.heap.size + 2) 32 4 (.slice a9 ns.length c9) ns.length (flat ns)) := o9; clear o9 hb9))
  obtain ⟨gn, rfl⟩ : ∃ gn, a9 = some ⟨gn, 0, none⟩ := by
    rcases HO9.out.2 with ⟨h, h'⟩ | ⟨gn, cap, cur, h, _⟩
    · omega
    · simp only [Value.slice.injEq] at h; exact ⟨gn, h.1⟩
  obtain ⟨w4, e4, hb4, hs4, B4⟩ := bx1 w3 #[.slice (some ⟨gn, 0, none⟩) ns.length c9] 25
  have HE4 : Hid (w3.alloc (.cells #[.slice (some ⟨gn, 0, none⟩) ns.length c9] 25) = w4) := e4
  have HO4 : Hid (w4.ownsRow (w1.heap.size + 2) 32 4 (.slice (some ⟨gn, 0, none⟩) ns.length c9) ns.length (flat ns)) := ownsRow_below HO9.out hb4 (Nat.le_refl _)
  have HB4 : Hid (Below w1.heap.size w1 w4) := HB9.out.trans (hb4.mono HB9.out.size)
  have HT4 : Hid (Bx w4 w3.heap.size #[.slice (some ⟨gn, 0, none⟩) ns.length c9] 25) := B4
  have hgn := HO9.out.lt gn rfl
  have t0 := B4.one
  rw [HE4.out]
  clear e4 hb4 hs4 B4 z2 HE4 HO9
  go_wp2
  rename_i Q K hK
  have HK := (show Hid _ from hK)
  clear hK t0
  go_loopw [72] (fun i wr => ∃ k : Nat, k ≤ ns.length ∧ i = .int .i64 (k : Int) ∧ Below w1.heap.size w1 wr ∧ Bx wr w3.heap.size #[.slice (some ⟨gn, 0, none⟩) ns.length c9] 25 ∧ wr.ownsRow (w1.heap.size + 2) 32 4 (.slice (some ⟨gn, 0, none⟩) ns.length c9) ns.length (flat (mvd cc ts.length ns k))) (fun i _ => ns.length - (intOf i).toNat)
  case atStart => exact ⟨0, by omega, rfl, HB4.out, HT4.out, by rw [mvd_zero]; exact HO4.out⟩
  case round =>
    obtain ⟨k, hk, rfl, hbel, hbt, hown⟩ := hrel
    have HBR : Hid (Below w1.heap.size w1 wr) := hbel
    have HTR : Hid (Bx wr w3.heap.size #[.slice (some ⟨gn, 0, none⟩) ns.length c9] 25) := hbt
    have HOR : Hid (wr.ownsRow (w1.heap.size + 2) 32 4 (.slice (some ⟨gn, 0, none⟩) ns.length c9) ns.length (flat (mvd cc ts.length ns k))) := hown
    have hTr : w3.heap.size < wr.heap.size := hbt.lt
    clear hbel hbt hown
    by_cases hkl : k < ns.length
    · obtain ⟨x, hx⟩ : ∃ x, ns[k]? = some x := ⟨_, List.getElem?_eq_getElem hkl⟩
      obtain ⟨hx0, hx1, hx2⟩ := HFT.out k x hx
      obtain ⟨xk, xf, xe, xs⟩ := x
      simp only at hx0 hx1 hx2
      obtain ⟨f, rfl⟩ : ∃ f : Nat, xf = f := ⟨xf.toNat, by omega⟩
      obtain ⟨e, rfl⟩ : ∃ e : Nat, xe = e := ⟨xe.toNat, by omega⟩
      have hLi : Lies wr gn 0 (mvd cc ts.length ns k) := Lies.own HOR.out
      obtain ⟨d0, d1, d2, d3⟩ := hLi.nd (Below.refl _ _) (mvd_at hx)
      simp only [Nat.zero_add] at d0 d1 d2 d3
      obtain ⟨w5, e5, hb5, hs5, B5⟩ := bx1 wr #[.int .u8 xk, .int .i64 (f : Int), .int .i64 (e : Int), .int .i64 xs] 32
      have HE5 : Hid (wr.alloc (.cells #[.int .u8 xk, .int .i64 (f : Int), .int .i64 (e : Int), .int .i64 xs] 32) = w5) := e5
      have HB5 : Hid (Below w1.heap.size w1 w5) := HBR.out.trans (hb5.mono HBR.out.size)
      have HX5 : Hid (Bx w5 wr.heap.size #[.int .u8 xk, .int .i64 (f : Int), .int .i64 (e : Int), .int .i64 xs] 32) := B5
      have HT5 : Hid (Bx w5 w3.heap.size #[.slice (some ⟨gn, 0, none⟩) ns.length c9] 25) := HTR.out.below hb5 hTr
      have HO5 : Hid (w5.ownsRow (w1.heap.size + 2) 32 4 (.slice (some ⟨gn, 0, none⟩) ns.length c9) ns.length (flat (mvd cc ts.length ns k))) := ownsRow_below HOR.out hb5 (Nat.le_refl _)
      have HP5 : Hid (Bx w5 g (flat P1).toArray 3) := (HC.out _ HB5.out).2.1
      have hgr : gn < wr.heap.size := (HOR.out.lt gn rfl).2
      have p1 := HP5.out.get (HPA.out f (by omega))
      have u0 := HT5.out.one
      have u1 := HX5.out.cell 1
      have u2 := HX5.out.cell 2
      simp at u1 u2
      have v1 : w5.cell? ⟨gn, k * 4 + 1, none⟩ = some (.int .i64 (f : Int)) := (hb5.cell (p := ⟨gn, _, none⟩) hgr).trans d1
      have v2 := HO5.out.frozenAt (k * 4 + 1)
      have hk1 : (k : Int) < (ns.length : Int) := by omega
      have hf1 : (f : Int) < (ts.length : Int) + 1 := by omega
      have HXX : Hid (ns[k]? = some ⟨xk, (f : Int), (e : Int), xs⟩) := hx
      have hb5s : wr.heap.size < w5.heap.size := by omega
      have hgT : gn ≠ w3.heap.size := by omega
      have hgx : gn ≠ wr.heap.size := by omega
      have hgg : gn ≠ g := by have := HP1.out.lt; omega
      obtain ⟨F1, hF1⟩ : ∃ F1 : Int, ((plc cc ts.length f : Nat) : Int) = F1 := ⟨_, rfl⟩
      rw [hF1] at p1
      obtain ⟨w6, e6⟩ : ∃ w6, (w5.setCell ⟨gn, k * 4 + 1, none⟩ (.int .i64 F1)).drew = w6 := ⟨_, rfl⟩
      have HE6 : Hid ((w5.setCell ⟨gn, k * 4 + 1, none⟩ (.int .i64 F1)).drew = w6) := e6
      have HT6 : Hid (Bx w6 w3.heap.size #[.slice (some ⟨gn, 0, none⟩) ns.length c9] 25) := by unfold Hid; rw [← e6]; exact (HT5.out.other ⟨gn, k * 4 + 1, none⟩ (by show w3.heap.size ≠ gn; omega) _).drew
      have HX6 : Hid (Bx w6 wr.heap.size #[.int .u8 xk, .int .i64 (f : Int), .int .i64 (e : Int), .int .i64 xs] 32) := by unfold Hid; rw [← e6]; exact (HX5.out.other ⟨gn, k * 4 + 1, none⟩ (by show wr.heap.size ≠ gn; omega) _).drew
      have HP6 : Hid (Bx w6 g (flat P1).toArray 3) := by unfold Hid; rw [← e6]; exact (HP5.out.other ⟨gn, k * 4 + 1, none⟩ (by show g ≠ gn; omega) _).drew
      have HB6 : Hid (Below w1.heap.size w1 w6) := by unfold Hid; rw [← e6]; exact (HB5.out.setCell (p := ⟨gn, k * 4 + 1, none⟩) (by show w1.heap.size ≤ gn; omega) _).drew
      have HO6 : Hid (w6.ownsRow (w1.heap.size + 2) 32 4 (.slice (some ⟨gn, 0, none⟩) ns.length c9) ns.length (flat ((mvd cc ts.length ns k).set k ⟨xk, F1, (e : Int), xs⟩))) := by
        unfold Hid
        rw [← e6, ← flat_set_f _ k ⟨xk, (f : Int), (e : Int), xs⟩ F1 (mvd_at hx)]
        exact (HO5.out.stored (k * 4 + 1) (.int .i64 F1)).1.drew
      have HKP : Hid ((w5.setCell ⟨gn, k * 4 + 1, none⟩ (.int .i64 F1)).drew.cell? ⟨w3.heap.size, 0, none⟩ = some (.slice (some ⟨gn, 0, none⟩) ns.length c9) ∧ (w5.setCell ⟨gn, k * 4 + 1, none⟩ (.int .i64 F1)).drew.cell? ⟨wr.heap.size, 1, none⟩ = some (.int .i64 (f : Int)) ∧ (w5.setCell ⟨gn, k * 4 + 1, none⟩ (.int .i64 F1)).drew.cell? ⟨g, f, none⟩ = some (.int .i64 F1)) := by
        unfold Hid; rw [e6]
        exact ⟨HT6.out.one, HX6.out.cell 1, by rw [← hF1]; exact HP6.out.get (HPA.out f (by omega))⟩
      have HF1' : Hid (((plc cc ts.length f : Nat) : Int) = F1) := hF1
      clear hLi e5 hb5 hs5 B5 hx e6 hF1
      go_upto_region 18 with fail
      rw [HE5.out]
      clear d0 d1 d2 d3
      go_region_held3 (fun y => y.cell? ⟨w3.heap.size, 0, none⟩ = some (.slice (some ⟨gn, 0, none⟩) ns.length c9) ∧ y.cell? ⟨wr.heap.size, 1, none⟩ = some (.int .i64 (f : Int)) ∧ y.cell? ⟨g, f, none⟩ = some (.int .i64 F1))
        (first
          | go_keep
          | (refine ⟨?_, ?_, ?_⟩ <;> assumption)
          | exact HKP.out)
        (fail)
      rw [HE6.out]
      clear u0 u1 u2 v1 v2 p1
      have u1 := HX6.out.cell 1
      have u2 := HX6.out.cell 2
      have u0 := HT6.out.one
      simp at u1 u2
      have v1 : w6.cell? ⟨gn, k * 4 + 2, none⟩ = some (.int .i64 (e : Int)) := by
        have := (Lies.own HO6.out).nd (Below.refl _ _) (i := k) (e := ⟨xk, F1, (e : Int), xs⟩) (by rw [List.getElem?_set_self (by rw [mvd_len]; exact hkl)])
        simpa using this.2.2.1
      have v2 := HO6.out.frozenAt (k * 4 + 2)
      by_cases hfe : f < e
      · obtain ⟨d, rfl⟩ : ∃ d, e = d + 1 := ⟨e - 1, by omega⟩
        obtain ⟨Q2, hQ2⟩ : ∃ Q2 : Int, ((plc cc ts.length d : Nat) : Int) = Q2 := ⟨_, rfl⟩
        have hd : d < ts.length := by omega
        have hpd : plc cc ts.length d = pl cc d := by unfold plc; rw [if_pos hd]
        have hq0 := plc_top cc ts.length d
        have hq1 : 0 ≤ Q2 := by omega
        have hq2 : Q2 ≤ 3145728 := by have := HNE.out; omega
        have p1 := HP6.out.get (HPA.out d (by omega))
        rw [hQ2] at p1
        have HQ2 : Hid (((plc cc ts.length d : Nat) : Int) = Q2) := hQ2
        have HPD : Hid (plc cc ts.length d = pl cc d) := hpd
        have u2' : w6.cell? ⟨wr.heap.size, 2, none⟩ = some (.int .i64 ((d : Int) + 1)) := u2
        have v1' : w6.cell? ⟨gn, k * 4 + 2, none⟩ = some (.int .i64 ((d : Int) + 1)) := v1
        have n0 : (0 : Int) ≤ (d : Int) := by omega
        clear u2 v1
        have n1 : IntKind.i64.wrap ((d : Int) + 1 - 1) = (d : Int) := by rw [show (d : Int) + 1 - 1 = d by omega]; exact IntWalk.i64_in _ ⟨by omega, by omega⟩
        have n5 : IntKind.i64.wrap (d : Int) = (d : Int) := IntWalk.i64_in _ ⟨by omega, by omega⟩
        have n2 : IntKind.i64.wrap (Q2 + 1) = Q2 + 1 := IntWalk.i64_in _ ⟨by omega, by omega⟩
        have n3 : (d : Int) < (ts.length : Int) + 1 := by omega
        have n4 : (f : Int) < (d : Int) + 1 := by omega
        clear hQ2 hpd hq0
        obtain ⟨w7, e7⟩ : ∃ w7, (w6.setCell ⟨gn, k * 4 + 2, none⟩ (.int .i64 (Q2 + 1))).drew = w7 := ⟨_, rfl⟩
        have HE7 : Hid ((w6.setCell ⟨gn, k * 4 + 2, none⟩ (.int .i64 (Q2 + 1))).drew = w7) := e7
        have HT7 : Hid (Bx w7 w3.heap.size #[.slice (some ⟨gn, 0, none⟩) ns.length c9] 25) := by unfold Hid; rw [← e7]; exact (HT6.out.other ⟨gn, k * 4 + 2, none⟩ (by show w3.heap.size ≠ gn; omega) _).drew
        have HX7 : Hid (Bx w7 wr.heap.size #[.int .u8 xk, .int .i64 (f : Int), .int .i64 ((d : Int) + 1), .int .i64 xs] 32) := by unfold Hid; rw [← e7]; exact (HX6.out.other ⟨gn, k * 4 + 2, none⟩ (by show wr.heap.size ≠ gn; omega) _).drew
        have HP7 : Hid (Bx w7 g (flat P1).toArray 3) := by unfold Hid; rw [← e7]; exact (HP6.out.other ⟨gn, k * 4 + 2, none⟩ (by show g ≠ gn; omega) _).drew
        have HB7 : Hid (Below w1.heap.size w1 w7) := by unfold Hid; rw [← e7]; exact (HB6.out.setCell (p := ⟨gn, k * 4 + 2, none⟩) (by show w1.heap.size ≤ gn; omega) _).drew
        have HO7 : Hid (w7.ownsRow (w1.heap.size + 2) 32 4 (.slice (some ⟨gn, 0, none⟩) ns.length c9) ns.length (flat (mvd cc ts.length ns (k + 1)))) := by
          unfold Hid
          have h := (HO6.out.stored (k * 4 + 2) (.int .i64 (Q2 + 1))).1.drew
          rw [flat_set_e _ k ⟨xk, F1, ((d + 1 : Nat) : Int), xs⟩ (Q2 + 1) (by rw [List.getElem?_set_self (by rw [mvd_len]; exact hkl)]), List.set_set] at h
          rw [← e7, ← mvd_step HXX.out]
          have hm : mv cc ts.length ⟨xk, (f : Int), ((d + 1 : Nat) : Int), xs⟩ = ⟨xk, F1, Q2 + 1, xs⟩ := by
            unfold mv mvE
            simp only
            rw [if_pos (show (f : Int) < ((d + 1 : Nat) : Int) by omega), show ((d + 1 : Nat) : Int).toNat - 1 = d by omega, ← HPD.out, Int.toNat_natCast, HF1'.out, ← HQ2.out]
            rfl
          rw [hm]; exact h
        have HKQ : Hid ((w6.setCell ⟨gn, k * 4 + 2, none⟩ (.int .i64 (Q2 + 1))).drew.cell? ⟨w3.heap.size, 0, none⟩ = some (.slice (some ⟨gn, 0, none⟩) ns.length c9) ∧ (w6.setCell ⟨gn, k * 4 + 2, none⟩ (.int .i64 (Q2 + 1))).drew.cell? ⟨wr.heap.size, 2, none⟩ = some (.int .i64 ((d : Int) + 1)) ∧ (w6.setCell ⟨gn, k * 4 + 2, none⟩ (.int .i64 (Q2 + 1))).drew.cell? ⟨g, d, none⟩ = some (.int .i64 Q2)) := by
          unfold Hid; rw [e7]
          exact ⟨HT7.out.one, HX7.out.cell 2, by rw [← HQ2.out]; exact HP7.out.get (HPA.out d (by omega))⟩
        clear e7
        go_upto_region 20 with fail
        go_region_held3 (fun y => y.cell? ⟨w3.heap.size, 0, none⟩ = some (.slice (some ⟨gn, 0, none⟩) ns.length c9) ∧ y.cell? ⟨wr.heap.size, 2, none⟩ = some (.int .i64 ((d : Int) + 1)) ∧ y.cell? ⟨g, d, none⟩ = some (.int .i64 Q2))
          (first
            | go_keep
            | (refine ⟨?_, ?_, ?_⟩ <;> assumption)
            | exact HKQ.out)
          (fail)
        rw [HE7.out]
        clear u0 u1 u2' v1' v2
        go_wp2
        go_roundw
        case rel => exact ⟨k + 1, by omega, by simp, HB7.out, HT7.out, HO7.out⟩
        case measure => simp [intOf]; omega
      · have p1 := HP6.out.get (HPA.out f (by omega))
        rw [HF1'.out] at p1
        have n3 : (f : Int) < (ts.length : Int) + 1 := by omega
        have n4 : ¬ (f : Int) < (e : Int) := by omega
        obtain ⟨w7, e7⟩ : ∃ w7, (w6.setCell ⟨gn, k * 4 + 2, none⟩ (.int .i64 (F1))).drew = w7 := ⟨_, rfl⟩
        have HE7 : Hid ((w6.setCell ⟨gn, k * 4 + 2, none⟩ (.int .i64 (F1))).drew = w7) := e7
        have HT7 : Hid (Bx w7 w3.heap.size #[.slice (some ⟨gn, 0, none⟩) ns.length c9] 25) := by unfold Hid; rw [← e7]; exact (HT6.out.other ⟨gn, k * 4 + 2, none⟩ (by show w3.heap.size ≠ gn; omega) _).drew
        have HX7 : Hid (Bx w7 wr.heap.size #[.int .u8 xk, .int .i64 (f : Int), .int .i64 (e : Int), .int .i64 xs] 32) := by unfold Hid; rw [← e7]; exact (HX6.out.other ⟨gn, k * 4 + 2, none⟩ (by show wr.heap.size ≠ gn; omega) _).drew
        have HP7 : Hid (Bx w7 g (flat P1).toArray 3) := by unfold Hid; rw [← e7]; exact (HP6.out.other ⟨gn, k * 4 + 2, none⟩ (by show g ≠ gn; omega) _).drew
        have HB7 : Hid (Below w1.heap.size w1 w7) := by unfold Hid; rw [← e7]; exact (HB6.out.setCell (p := ⟨gn, k * 4 + 2, none⟩) (by show w1.heap.size ≤ gn; omega) _).drew
        have HO7 : Hid (w7.ownsRow (w1.heap.size + 2) 32 4 (.slice (some ⟨gn, 0, none⟩) ns.length c9) ns.length (flat (mvd cc ts.length ns (k + 1)))) := by
          unfold Hid
          have h := (HO6.out.stored (k * 4 + 2) (.int .i64 (F1))).1.drew
          rw [flat_set_e _ k ⟨xk, F1, (e : Int), xs⟩ (F1) (by rw [List.getElem?_set_self (by rw [mvd_len]; exact hkl)]), List.set_set] at h
          rw [← e7, ← mvd_step HXX.out]
          have hm : mv cc ts.length ⟨xk, (f : Int), (e : Int), xs⟩ = ⟨xk, F1, F1, xs⟩ := by
            unfold mv mvE
            simp only
            rw [if_neg n4, Int.toNat_natCast, HF1'.out]
          rw [hm]; exact h
        have HKQ : Hid ((w6.setCell ⟨gn, k * 4 + 2, none⟩ (.int .i64 (F1))).drew.cell? ⟨w3.heap.size, 0, none⟩ = some (.slice (some ⟨gn, 0, none⟩) ns.length c9) ∧ (w6.setCell ⟨gn, k * 4 + 2, none⟩ (.int .i64 (F1))).drew.cell? ⟨wr.heap.size, 1, none⟩ = some (.int .i64 ((f : Int))) ∧ (w6.setCell ⟨gn, k * 4 + 2, none⟩ (.int .i64 (F1))).drew.cell? ⟨g, f, none⟩ = some (.int .i64 F1)) := by
          unfold Hid; rw [e7]
          exact ⟨HT7.out.one, HX7.out.cell 1, by rw [← HF1'.out]; exact HP7.out.get (HPA.out f (by omega))⟩
        clear e7
        go_upto_region 21 with fail
        go_region_held3 (fun y => y.cell? ⟨w3.heap.size, 0, none⟩ = some (.slice (some ⟨gn, 0, none⟩) ns.length c9) ∧ y.cell? ⟨wr.heap.size, 1, none⟩ = some (.int .i64 ((f : Int))) ∧ y.cell? ⟨g, f, none⟩ = some (.int .i64 F1))
          (first
            | go_keep
            | (refine ⟨?_, ?_, ?_⟩ <;> assumption)
            | exact HKQ.out)
          (fail)
        rw [HE7.out]
        clear u0 u1 u2 v1 v2
        go_wp2
        go_roundw
        case rel => exact ⟨k + 1, by omega, by simp, HB7.out, HT7.out, HO7.out⟩
        case measure => simp [intOf]; omega
    · have hke : k = ns.length := by omega
      have hk1 : ¬ (k : Int) < (ns.length : Int) := by omega
      have HLL : Hid (LiesA wr (some ⟨gn, 0, none⟩) (ns.map (mv cc ts.length))) := by
        have := HOR.out
        rw [hke, mvd_all] at this
        exact .inr ⟨gn, 0, rfl, Lies.own this⟩
      go_wp2
      refine HK.out _ _ ?_
      obtain ⟨y1, y2, y3, y4⟩ := HC.out wr HBR.out
      exact blind_last s a1 a2 a8 c1 c2 c8 c9 N w.heap.size w3.heap.size gn ts ns cc w wr HNN.out y4 y1 HTR.out (H1.out.below y4) (H2.out.below y4) y3 HLL.out hl1 hl2 hs HF1.out HF2.out hc1 hc8 HVL.out
end Go.Proofs.Yteanhljabjoabaa
