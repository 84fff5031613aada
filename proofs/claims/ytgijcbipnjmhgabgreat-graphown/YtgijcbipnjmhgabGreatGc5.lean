import Derived.Test.YtgijcbipnjmhgabGreatGr5c
import Derived.Test.YtgijcbipnjmhgabGreatGc2
import Derived.Test.YtgijcbipnjmhgabGreatGr3c
import Derived.Test.YtgijcbipnjmhgabGreatReachesW
import Derived.Test.YtgijcbipnjmhgabGreatGp4
namespace Go.Proofs.YtgijcbipnjmhgabGreat
open Go.ChangeShapes Go.WideShapes Go.ChangeAt Go.RowKit
set_option linter.unusedVariables false
set_option linter.unusedSimpArgs false

/-- the labels, in their box, and the box of the label that is given -/
structure TC (B bf bl gl n : Nat) (f : Int) (l : List Int) (t : List Nat) (z : World) : Prop where
  xf : Bx z bf #[.int .i64 f] 3
  xl : Bx z bl #[.slice (some ⟨gl, 0, none⟩) n n] 32
  row : z.ownsRow B 3 1 (.slice (some ⟨gl, 0, none⟩) n n) n (ivs (lbl f l t))
  ne : gl ≠ bf
  bases : B ≤ bf ∧ B ≤ bl
theorem TC.below {B bf bl gl n : Nat} {f : Int} {l : List Int} {t : List Nat} {z z' : World} (h : TC B bf bl gl n f l t z) (hb : Below z.heap.size z z') : TC B bf bl gl n f l t z' :=
  ⟨h.xf.below hb h.xf.lt, h.xl.below hb h.xl.lt, ownsRow_below h.row hb (Nat.le_refl _), h.ne, h.bases⟩
theorem TC.len {B bf bl gl n : Nat} {f : Int} {l : List Int} {t : List Nat} {z : World} (h : TC B bf bl gl n f l t z) : l.length = n := by
  have := h.row.1
  rw [List.length_map, lbl_len] at this
  omega
theorem TC.mark {B bf bl gl bm bn bk bt gm gV n m2 x : Nat} {tv : Value} {w0 z : World} {rs : List Rr} {m : List Bool} {f : Int} {l : List Int} {t : List Nat} (h : Wc B bm bn bk bt gm gV n tv w0 rs m z) (hT : TC B bf bl gl n f l t z) : TC B bf bl gl n f l t (z.setCell ⟨gm, x, none⟩ (.bool true)) :=
  ⟨hT.xf.other ⟨gm, x, none⟩ (hT.xf.neR h.met (by decide) rfl) _, hT.xl.other ⟨gm, x, none⟩ (hT.xl.neR h.met (by decide) rfl) _, ownsRow_setCell_other hT.row (a := ⟨gm, x, none⟩) (own_otherR hT.row h.met (by decide) rfl) _, hT.ne, hT.bases⟩
/-- another label is given -/
theorem TC.give {B bf bl gl n : Nat} {f : Int} {l : List Int} {t : List Nat} {z : World} (h : TC B bf bl gl n f l t z) (x : Int) : TC B bf bl gl n x (lbl f l t) [] (z.setCell ⟨bf, 0, none⟩ (.int .i64 x)) :=
  ⟨h.xf.set 0 _, h.xl.other ⟨bf, 0, none⟩ (h.xl.ne h.xf (by decide)) _, ownsRow_setCell_other h.row (a := ⟨bf, 0, none⟩) (fun e => by cases e; exact h.ne rfl) _, h.ne, h.bases⟩
set_option maxRecDepth 1000000 in
theorem tellC (B bf bl gl bm bn bk bt gm gV n x : Nat) (tv : Value) (w0 z : World) (rs : List Rr) (m : List Bool) (f : Int) (l : List Int) (t : List Nat) (hx : x < n) (hn : n ≤ 131072) (hW : Wc B bm bn bk bt gm gV n tv w0 rs m z) (hT : TC B bf bl gl n f l t z) :
    Calls Tryz.prog 28 #[.int .i64 (x : Int), .pointer (some ⟨bf, 0, none⟩), .pointer (some ⟨bl, 0, none⟩)] z fun e z' => (∃ v, e = .returned v) ∧ Wc B bm bn bk bt gm gV n tv w0 rs m z' ∧ TC B bf bl gl n f l (t ++ [x]) z' := by
  have HW : Hid (Wc B bm bn bk bt gm gV n tv w0 rs m z) := hW
  have HT : Hid (TC B bf bl gl n f l t z) := hT
  have c0 := hT.xl.one
  have c1 := hT.xf.one
  obtain ⟨y, hy⟩ : ∃ y, (lbl f l t)[x]? = some y := ⟨_, List.getElem?_eq_getElem (by rw [lbl_len, hT.len]; exact hx)⟩
  have c2 : z.cell? ⟨gl, x, none⟩ = some (.int .i64 y) := by
    have h1 := hT.row.cells rfl x (.int .i64 y) (by rw [List.getElem?_map, hy]; rfl)
    rwa [addr_add, Nat.zero_add] at h1
  have f2 : z.frozen? ⟨gl, x, none⟩ = false := hT.row.frozenAt x
  have hx0 : (0 : Int) ≤ (x : Int) := by omega
  have hxn : (x : Int) < (n : Int) := by omega
  have W9 : Hid (Wc B bm bn bk bt gm gV n tv w0 rs m (z.setCell ⟨gl, x, none⟩ (.int .i64 f))) := hW.cell hT.row rfl
  have T9 : Hid (TC B bf bl gl n f l (t ++ [x]) (z.setCell ⟨gl, x, none⟩ (.int .i64 f))) := by
    refine ⟨hT.xf.other ⟨gl, x, none⟩ (fun e => hT.ne e.symm) _, hT.xl.other ⟨gl, x, none⟩ (hT.xl.neR hT.row (by decide) rfl) _, ?_, hT.ne, hT.bases⟩
    have h1 := (World.ownsRow.stored hT.row x (.int .i64 f)).1
    rw [lbl_snoc, show ivs ((lbl f l t).set x f) = (ivs (lbl f l t)).set x (.int .i64 f) by simp [ivs, List.map_set]]
    exact h1
  clear hW hT hy
  go_enter Tryz.func28, Tryz.ntmps28
  go_wp2
  go_end0
  exact ⟨⟨_, rfl⟩, W9.out, T9.out⟩
end Go.Proofs.YtgijcbipnjmhgabGreat

namespace Go.Proofs.YtgijcbipnjmhgabGreat
open Go.ChangeShapes Go.WideShapes Go.ChangeAt Go.RowKit
set_option linter.unusedVariables false
set_option linter.unusedSimpArgs false

theorem concat_both (gs b : Nat) (a : Option Addr) (c1 c2 : Nat) (ps : List Pr) (w : World) (hn : a = none → ps.length = 0 ∧ c1 = 0) (hL : LiesA w a ps) (hQ : Lies w b 0 (ps.map swapP)) (hx : Bx w gs #[.slice a ps.length c1, .slice (some ⟨b, 0, none⟩) ps.length c2] 22) (hp : ps.length ≤ 8796093022208) :
    Calls Tryz.prog 27 #[.slice (some ⟨gs, 0, none⟩) 2 2] w fun e w' => ∃ a' C, e = .returned (.slice a' (both ps).length C) ∧ Below w.heap.size w w' ∧ LiesA w' a' (both ps) :=
  concat_any gs b a c1 c2 ps (ps.map swapP) w hn hL hQ (by rw [List.length_map]; exact hx) hp (by rw [List.length_map]; exact hp)
theorem both_len (ps : List Pr) : (both ps).length = ps.length + ps.length := by simp [both]
theorem both_range {n : Nat} {ps : List Pr} (h : ∀ p ∈ ps, (0 ≤ p.a ∧ p.a < (n : Int)) ∧ (0 ≤ p.b ∧ p.b < (n : Int))) : ∀ p ∈ both ps, (0 ≤ p.a ∧ p.a < (n : Int)) ∧ (0 ≤ p.b ∧ p.b < (n : Int)) := by
  intro p hp
  cases p
  rcases both_mem.1 hp with h1 | h1
  · exact h _ h1
  · exact ⟨(h _ h1).2, (h _ h1).1⟩
/-- one round of classes -/
theorem cls_step {ps : List Pr} {n x : Nat} {m m' : List Bool} {l : List Int} {t' : List Nat} (hl : l.length = n) (hm : m.length = n) (h : Cs (both ps) x (fun y => m[y]? = some true) (fun y => l[y]?)) (hD : Dq (both ps) (Rch (both ps) x) m [] m' t') (hx : m'[x]? = some true) :
    Cs (both ps) (x + 1) (fun y => m'[y]? = some true) (fun y => (lbl (x : Int) l t')[y]?) := by
  obtain ⟨s, hs, hn, hy, hz⟩ := hD.told
  rw [List.nil_append] at hs
  subst hs
  have hlt : ∀ y : Nat, m'[y]? = some true → y < n := fun y hy => by
    have := (List.getElem?_eq_some_iff.1 hy).1
    rw [hD.len, hm] at this
    exact this
  have hneg : ∀ y : Nat, m'[y]? = some true → ¬ m[y]? = some true → m[y]? = some false := fun y h1 h2 => by
    have hyl : y < m.length := by rw [hm]; exact hlt y h1
    rw [List.getElem?_eq_getElem hyl] at h2 ⊢
    cases hb : m[y] with
    | true => rw [hb] at h2; exact absurd rfl h2
    | false => rfl
  refine h.step (fun y hy => hD.mono y hy) hx (fun y y' h1 h2 he => hD.closed y y' (hneg y h1 h2) h1 he) (fun y h1 h2 => (hD.reach y h1).resolve_left h2) (fun y hy1 => ?_) (fun y h1 h2 => ?_)
  · rw [lbl_get, if_neg (fun hc => tf hy1 (hy y hc.1).1)]
  · rw [lbl_get, if_pos ⟨(hz y h1).resolve_left h2, by rw [hl]; exact hlt y h1⟩]

set_option maxRecDepth 1000000 in
set_option maxHeartbeats 4000000 in
theorem classes_ok (n cap : Nat) (a : Option Addr) (ps : List Pr) (w : World) (hL : LiesA w a ps) (hn0 : a = none → ps.length = 0 ∧ cap = 0) (hm : ps.length ≤ 8796093022208) (ht : things (n : Int) ps = true) :
    Calls Tryz.prog 8 #[.int .i64 (n : Int), .slice a ps.length cap] w fun e w' => ∃ v, e = .returned (.tuple #[v, .int .i64 0]) ∧ Below w.heap.size w w' ∧ ∃ l, w'.ownsRow w.heap.size 3 1 v l.length (ivs l) ∧ CL (both ps) n l := by
  have hmf : ∀ (fn : Fn) (first cap : Array Value) (w : World), (Instr.makeFunc fn first cap).run Tryz.prog w = .ok (.func fn first cap) w := fun _ _ _ _ => rfl
  obtain ⟨i1, hi1, hy0, hy1, hy2⟩ := info_parts infoInt
  obtain ⟨hn, hps⟩ := things_spec ht
  have HL : Hid (LiesA w a ps) := hL
  have HN0 : Hid (a = none → ps.length = 0 ∧ cap = 0) := hn0
  have HPS : Hid (∀ p ∈ both ps, (0 ≤ p.a ∧ p.a < (n : Int)) ∧ (0 ≤ p.b ∧ p.b < (n : Int))) := both_range hps
  have HBL : Hid ((both ps).length = ps.length + ps.length) := both_len ps
  have AT : Hid (Calls Tryz.prog 17 #[.int .i64 (n : Int), .slice a ps.length cap] w fun e w' => e = .returned (.bool true) ∧ Below w.heap.size w w') := by unfold Hid; rw [← ht]; exact areThings_any (n : Int) a cap ps w hL (by omega)
  clear hL hn0 hps ht
  go_enter Tryz.func8, Tryz.ntmps8
  go_upto_region 5 with (first
    | (go_at_call 17; (with_reducible refine AT.out.mono ?_); rintro e v1 ⟨rfl, hb1⟩; have HB1 : Hid (Below w.heap.size w v1) := hb1; clear hb1)
    | (at_make; refine wpList_make_full _ rfl _ _ 32 rfl v1.heap.size 3 i1 (.int .i64 0) 1 Tryz.underlying32 hi1 hy0 hy1 _ _ _ _ n rfl rfl rfl rfl (by rw [hy2]; omega) (by unfold maxLen; omega) (Nat.le_refl _) ?_; intro w1 hown1 hgr1; have O1 : Hid (w1.ownsRow v1.heap.size 3 1 (.slice (some ⟨v1.heap.size, 0, none⟩) n n) n (ivs (List.replicate n 0))) := (by have h9 := rep_made (.int .i64 0) n; rw [show (Value.int .i64 0).cells = #[.int .i64 0] by rfl] at hown1; rw [h9] at hown1; rw [show ivs (List.replicate n 0) = List.replicate n (.int .i64 0) by simp [ivs]]; exact hown1); have HB2 : Hid (Below v1.heap.size v1 w1 ∧ v1.heap.size < w1.heap.size) := ⟨(Below.refl _ v1).grown hgr1 (Nat.le_refl _) (fun k h => by cases h), (hown1.lt v1.heap.size rfl).2⟩; clear hown1 hgr1))
  obtain ⟨w2, e2, hb2, hs2, B2⟩ := bx1 w1 #[.slice (some ⟨v1.heap.size, 0, none⟩) n n] 32
  obtain ⟨w3, e3, hb3, hs3, B3⟩ := bx1 w2 #[.int .i64 0] 3
  rw [e2, e3]
  obtain ⟨B, hB⟩ : ∃ B, v1.heap.size = B := ⟨_, rfl⟩
  obtain ⟨bl, hbl⟩ : ∃ b, w1.heap.size = b := ⟨_, rfl⟩
  obtain ⟨bf, hbf⟩ : ∃ b, w1.heap.size + 1 = b := ⟨_, rfl⟩
  have hbf2 : w2.heap.size = bf := by omega
  rw [hbf2] at B3
  rw [hbl, hB] at B2
  have h13 : Below w1.heap.size w1 w3 := hb2.trans (hb3.mono (by omega))
  have T3 : Hid (TC B bf bl B n 0 (List.replicate n 0) [] w3) := by
    have h1 := HB2.out.2
    refine ⟨B3, B2.below hb3 (by omega), ?_, by omega, by omega, by omega⟩
    have h9 := ownsRow_below O1.out h13 (Nat.le_refl _)
    rw [hB] at h9
    exact h9
  have H3 : Hid (Below B v1 w3 ∧ B ≤ w3.heap.size) := by
    have h1 := HB2.out.1.trans (h13.mono (by have := HB2.out.2; omega))
    rw [hB] at h1
    exact ⟨h1, by have := h1.size; omega⟩
  have HWB : Hid (w.heap.size ≤ B ∧ Below w.heap.size w v1) := ⟨by rw [← hB]; exact HB1.out.size, HB1.out⟩
  have L3 : Hid (LiesA w3 a ps) := HL.out.below (HB1.out.trans ((H3.out.1.mono (by have := HWB.out.1; exact this))))
  have TU : Hid (Calls Tryz.prog 19 #[.slice a ps.length cap] w3 fun e w' => e = .returned (.slice (some ⟨w3.heap.size, 0, none⟩) ps.length ps.length) ∧ Below w3.heap.size w3 w' ∧ Lies w' w3.heap.size 0 (ps.map swapP)) := turned_any a cap ps w3 L3.out hm
  rw [hbf, hbl, hB]
  clear e2 e3 hb2 hb3 hs2 hs3 B2 B3 h13 hbf2 O1 HB2 HL AT hB hbl hbf
  have CCF : Hid (∀ w4, Below w3.heap.size w3 w4 → Lies w4 w3.heap.size 0 (ps.map swapP) → Calls Tryz.prog 27 #[.slice (some ⟨w4.heap.size, 0, none⟩) 2 2] (w4.alloc (.cells #[.slice a ps.length cap, .slice (some ⟨w3.heap.size, 0, none⟩) ps.length ps.length] 22)) fun e w' => ∃ a' C, e = .returned (.slice a' (both ps).length C) ∧ Below B v1 w' ∧ B ≤ w'.heap.size ∧ Below w3.heap.size w3 w' ∧ LiesA w' a' (both ps)) := by
    intro w4 hb4 hq4
    obtain ⟨w5, e5, hb5, hs5, B5⟩ := bx1 w4 #[.slice a ps.length cap, .slice (some ⟨w3.heap.size, 0, none⟩) ps.length ps.length] 22
    rw [e5]
    have h35 : Below w3.heap.size w3 w5 := hb4.trans (hb5.mono hb4.size)
    refine (concat_both w4.heap.size w3.heap.size a cap ps.length ps w5 HN0.out (L3.out.below h35) (hq4.below hb5 hq4.1) B5 hm).mono ?_
    rintro e w6 ⟨a', C, rfl, hb6, hl6⟩
    have h36 : Below w3.heap.size w3 w6 := h35.trans (hb6.mono h35.size)
    exact ⟨a', C, rfl, H3.out.1.trans (h36.mono H3.out.2), Nat.le_trans H3.out.2 h36.size, h36, hl6⟩
  go_upto_region 6 with (first
    | (go_at_call 19; (with_reducible refine TU.out.mono ?_); rintro e w4 ⟨rfl, hb4, hl4⟩; have HB4 : Hid (Below w3.heap.size w3 w4) := hb4; have HL4 : Hid (Lies w4 w3.heap.size 0 (ps.map swapP)) := hl4; clear hb4 hl4)
    | (go_at_call 27; (with_reducible refine (CCF.out w4 HB4.out HL4.out).mono ?_); rintro e w6 ⟨a6, C6, rfl, hb6, hs6, hb36, hl6⟩; have H6 : Hid (Below B v1 w6 ∧ B ≤ w6.heap.size) := ⟨hb6, hs6⟩; have T6 : Hid (TC B bf bl B n 0 (List.replicate n 0) [] w6) := T3.out.below hb36; have L6 : Hid (LiesA w6 a6 (both ps)) := hl6; clear hb6 hs6 hb36 hl6)
    | (go_at_call 18; (with_reducible refine (lists_any n C6 a6 (both ps) w6 L6.out hn (by have := HBL.out; omega) HPS.out).mono ?_); rintro e w7 ⟨rfl, rs, hl7, ha7⟩; have A7 : Hid (Ad .i32 (both ps) rs) := ha7; have LV7 : Hid (Lv B w6.heap.size n v1 w7 rs) := hl7.lower H6.out.2 (H6.out.1.trans (hl7.bel.mono H6.out.2)); have T7 : Hid (TC B bf bl B n 0 (List.replicate n 0) [] w7) := T6.out.below hl7.bel; clear hl7 ha7)
    | (go_at_call 24; (with_reducible refine (walkerC_any B w6.heap.size n bf bl v1 w7 rs hn LV7.out).mono ?_); rintro e w8 ⟨bm, bn, bk, bt, gm, rfl, hw8, hb8⟩; have W8 : Hid (Wc B bm bn bk bt gm w6.heap.size n (.func (.func 28) #[] #[.pointer (some ⟨bf, 0, none⟩), .pointer (some ⟨bl, 0, none⟩)]) v1 rs (List.replicate n false) w8) := hw8; have T8 : Hid (TC B bf bl B n 0 (List.replicate n 0) [] w8) := T7.out.below hb8; clear hw8 hb8))
  obtain ⟨gV, hgV⟩ : ∃ g, w6.heap.size = g := ⟨_, rfl⟩
  rw [hgV] at W8 ⊢
  clear hgV LV7 T7 T6 L6 TU CCF
  go_wp2
  go_loopg [26] n (fun gk si wr => ∃ (x : Nat) (m : List Bool) (f : Int) (l : List Int), gk = n - x ∧ si = .int .i64 (x : Int) ∧ x ≤ n ∧ Wc B bm bn bk bt gm gV n (.func (.func 28) #[] #[.pointer (some ⟨bf, 0, none⟩), .pointer (some ⟨bl, 0, none⟩)]) v1 rs m wr ∧ TC B bf bl B n f l [] wr ∧ Cs (both ps) x (fun y => m[y]? = some true) (fun y => l[y]?))
  case atStart =>
    refine ⟨0, _, 0, _, rfl, rfl, Nat.zero_le _, W8.out, T8.out, Cs.start _ _ _ (fun y h => ?_)⟩
    rw [List.getElem?_replicate] at h
    split at h
    · cases h
    · cases h
  case round =>
    obtain ⟨x, m, f, l, hgk, rfl, hx, hW, hT, hC⟩ := hrel
    clear W8 T8
    have WW : Hid (Wc B bm bn bk bt gm gV n (.func (.func 28) #[] #[.pointer (some ⟨bf, 0, none⟩), .pointer (some ⟨bl, 0, none⟩)]) v1 rs m wr) := hW
    have TT : Hid (TC B bf bl B n f l [] wr) := hT
    have CC2 : Hid (Cs (both ps) x (fun y => m[y]? = some true) (fun y => l[y]?)) := hC
    clear hW hT hC
    by_cases hxn : x < n
    · have hxn' : (x : Int) < (n : Int) := by omega
      have c0 := TT.out.xf.one
      have f0 := TT.out.xf.free 0
      go_upto_region 10 with fail
      obtain ⟨z1, hz1⟩ : ∃ z1, wr.setCell ⟨bf, 0, none⟩ (.int .i64 (x : Int)) = z1 := ⟨_, rfl⟩
      have W1 : Hid (Wc B bm bn bk bt gm gV n (.func (.func 28) #[] #[.pointer (some ⟨bf, 0, none⟩), .pointer (some ⟨bl, 0, none⟩)]) v1 rs m z1) := by unfold Hid; rw [← hz1]; exact WW.out.box TT.out.xf TT.out.bases.1 (by decide) (by decide) (by decide) (by decide) (by decide) (by decide)
      have T1 : Hid (TC B bf bl B n (x : Int) l [] z1) := by unfold Hid; rw [← hz1]; exact TT.out.give (x : Int)
      rw [hz1]
      have hul : ([] : List Nat).length + unm m ≤ n := by have h1 := List.length_filter_le (fun b => !b) m; have h2 := WW.out.mlen; unfold unm; simp; omega
      have hpl : (both ps).length ≤ 17592186044416 := by have := HBL.out; omega
      clear hz1 c0 f0
      go_wp2_with (go_at_call 57; (with_reducible refine (walkC_any B bm bn bk bt gm gV n bf bl v1 rs (both ps) (TC B bf bl B n (x : Int) l) hn A7.out (fun p hp => (HPS.out p hp).2) hpl (fun m t z y h1 h2 => TC.mark (m2 := 0) h1 h2) (fun m t z y h1 h2 h3 h4 => tellC B bf bl B bm bn bk bt gm gV n y _ v1 z rs m (x : Int) l t h1 hn h3 h4) _ x m [] z1 hxn (Nat.le_refl _) hul W1.out T1.out).mono ?_); rintro e w5 ⟨⟨v, rfl⟩, m5, t5, hw5, ht5, hd5, hm5⟩; have W5 : Hid (Wc B bm bn bk bt gm gV n (.func (.func 28) #[] #[.pointer (some ⟨bf, 0, none⟩), .pointer (some ⟨bl, 0, none⟩)]) v1 rs m5 w5) := hw5; have T5 : Hid (TC B bf bl B n (x : Int) l t5 w5) := ht5; have C5 : Hid (Cs (both ps) (x + 1) (fun y => m5[y]? = some true) (fun y => (lbl (x : Int) l t5)[y]?)) := cls_step T1.out.len W1.out.mlen CC2.out hd5 hm5; clear hw5 ht5 hd5 hm5)
      go_roundg (n - (x + 1))
      case measure => omega
      case rel => exact ⟨x + 1, m5, (x : Int), lbl (x : Int) l t5, rfl, by go_num, by omega, W5.out, ⟨T5.out.xf, T5.out.xl, T5.out.row, T5.out.ne, T5.out.bases⟩, C5.out⟩
    · have hxn' : ¬ (x : Int) < (n : Int) := by omega
      have hxe : x = n := by omega
      have c0 := TT.out.xl.one
      have FIN : Hid (CL (both ps) n l) := by
        have h1 := CC2.out
        rw [hxe] at h1
        exact h1.fin TT.out.len
      go_wp2
      go_ret2
      refine ⟨_, rfl, HWB.out.2.trans (WW.out.lv.bel.mono HWB.out.1), l, ?_, FIN.out⟩
      have h9 := own_lower TT.out.row HWB.out.1
      rw [FIN.out.1]
      exact h9
end Go.Proofs.YtgijcbipnjmhgabGreat

namespace Go.Proofs.YtgijcbipnjmhgabGreat
open Go.ChangeShapes Go.WideShapes Go.ChangeAt Go.RowKit
set_option linter.unusedVariables false
set_option linter.unusedSimpArgs false

theorem rclasses_bad (n : Int) (a : Option Addr) (cap : Nat) (ps : List Pr) (w : World) (hL : LiesA w a ps) (hm : ps.length ≤ 8796093022208) (h : things n ps = false) :
    Calls Tryz.prog 12 #[.int .i64 n, .slice a ps.length cap] w fun e w' => e = .returned (.tuple #[.slice none 0 0, .int .i64 1]) ∧ w' = w := by
  have BD : Hid (Calls Tryz.prog 29 #[.int .i64 n, .slice a ps.length cap] w fun e w' => e = .returned (.bool true) ∧ w' = w) := by have h9 := rbad_any n a cap ps w hL (by omega); rw [h] at h9; exact h9
  go_enter Tryz.func12, Tryz.ntmps12
  go_wp2_with (go_at_call 29; (with_reducible refine BD.out.mono ?_); rintro e v1 ⟨rfl, rfl⟩)
  go_ret2
  exact ⟨rfl, rfl⟩
theorem classes_bad (n : Int) (a : Option Addr) (cap : Nat) (ps : List Pr) (w : World) (hL : LiesA w a ps) (hm : ps.length ≤ 8796093022208) (h : things n ps = false) :
    Calls Tryz.prog 8 #[.int .i64 n, .slice a ps.length cap] w fun e w' => e = .returned (.tuple #[.slice none 0 0, .int .i64 1]) ∧ Below w.heap.size w w' := by
  have AT : Hid (Calls Tryz.prog 17 #[.int .i64 n, .slice a ps.length cap] w fun e w' => e = .returned (.bool false) ∧ Below w.heap.size w w') := by unfold Hid; rw [← h]; exact areThings_any n a cap ps w hL (by omega)
  go_enter Tryz.func8, Tryz.ntmps8
  go_wp2_with (go_at_call 17; (with_reducible refine AT.out.mono ?_); rintro e v1 ⟨rfl, hb1⟩; have HB1 : Hid (Below w.heap.size w v1) := hb1; clear hb1)
  go_ret2
  exact ⟨rfl, HB1.out⟩
/-- the reference's own: its labels, and its stack -/
structure Rk (D C go n : Nat) (w2 : World) (v : Value) (l : List Int) (q : List Nat) (z : World) : Prop where
  row : z.ownsRow D 3 1 (.slice (some ⟨go, 0, none⟩) n n) n (ivs l)
  que : Qu C z v q
  bel : Below D w2 z
  base : D ≤ go ∧ go < C ∧ C ≤ z.heap.size
theorem Rk.get {D C go n : Nat} {w2 z : World} {v : Value} {l : List Int} {q : List Nat} (h : Rk D C go n w2 v l q z) {x : Nat} {y : Int} (hx : l[x]? = some y) : z.cell? ⟨go, x, none⟩ = some (.int .i64 y) ∧ z.frozen? ⟨go, x, none⟩ = false := by
  have h1 := h.row.cells rfl x (.int .i64 y) (by rw [List.getElem?_map, hx]; rfl)
  rw [addr_add, Nat.zero_add] at h1
  exact ⟨h1, h.row.frozenAt x⟩
theorem Qu.low {B g i : Nat} {w : World} {v x : Value} {xs : List Nat} (h : Qu B w v xs) (hg : g < B) : Qu B (w.setCell ⟨g, i, none⟩ x) v xs := by
  obtain ⟨g1, off, cap, cur, h1, h2, h3, h4, h5, h6⟩ := h
  exact ⟨g1, off, cap, cur, h1, h2, (heap_setCell_other w ⟨g, i, none⟩ g1 x (by show g1 ≠ g; omega)).trans h3, h4, h5, h6⟩
theorem Rk.set {D C go n : Nat} {w2 z : World} {v : Value} {l : List Int} {q : List Nat} (h : Rk D C go n w2 v l q z) (x : Nat) (y : Int) : Rk D C go n w2 v (l.set x y) q (z.setCell ⟨go, x, none⟩ (.int .i64 y)) := by
  refine ⟨?_, h.que.low h.base.2.1, h.bel.setCell (p := ⟨go, x, none⟩) h.base.1 _, h.base.1, h.base.2.1, by simp; exact h.base.2.2⟩
  have h1 := (World.ownsRow.stored h.row x (.int .i64 y)).1
  rw [show ivs (l.set x y) = (ivs l).set x (.int .i64 y) by simp [ivs, List.map_set]]
  exact h1
theorem Rk.below {D C go n : Nat} {w2 z z' : World} {v : Value} {l : List Int} {q : List Nat} (h : Rk D C go n w2 v l q z) (hb : Below z.heap.size z z') : Rk D C go n w2 v l q z' :=
  ⟨ownsRow_below h.row hb (Nat.le_refl _), h.que.below hb (Nat.le_refl _), h.bel.trans (hb.mono (by have := h.base; omega)), h.base.1, h.base.2.1, Nat.le_trans h.base.2.2 hb.size⟩
theorem Rk.grw {D C go n : Nat} {w2 z z' : World} {v v' : Value} {l : List Int} {q q' : List Nat} (h : Rk D C go n w2 v l q z) (hq : Qu C z' v' q') (hg : z.grownBy z' v.ownBlock) : Rk D C go n w2 v' l q' z' := by
  obtain ⟨g, off, cap, cur, rfl, hgB, hh, -⟩ := h.que
  have hb := h.base
  refine ⟨own_grwR h.row hg (fun k hk e => ?_), hq, h.bel.grown hg (by omega) (fun k hk => by cases hk; show D ≤ g; omega), h.base.1, h.base.2.1, Nat.le_trans h.base.2.2 hg.size⟩
  cases hk
  cases e
  have : C ≤ go := hgB
  omega
/-- the lists of x, both of them, as they lie while nothing below D changes -/
theorem lw_cells {B1 D gV n x : Nat} {wx w2 : World} {rs : List Rr} {ss : List Pr} (hL : Lw B1 gV n wx w2 rs) (hA : Ad .i64 ss rs) (hD : w2.heap.size = D) (hx : x < n) : ∃ (a1 : Option Addr) (c1 : Nat) (ys : List Int), (∀ y, y ∈ ys ↔ (⟨(x : Int), y⟩ : Pr) ∈ ss) ∧ ys.length ≤ ss.length ∧ ∀ z, Below D w2 z → z.cell? ⟨gV, x, none⟩ = some (.slice a1 ys.length c1) ∧ ∀ (j : Nat) (y : Int), ys[j]? = some y → ∃ g, a1 = some ⟨g, 0, none⟩ ∧ z.cell? ⟨g, j, none⟩ = some (.int .i64 y) := by
  obtain ⟨r, hrx⟩ : ∃ r, rs[x]? = some r := ⟨_, List.getElem?_eq_getElem (by rw [hL.len]; exact hx)⟩
  obtain ⟨ys, h1, h2, h3, h4⟩ := hA x r hrx
  obtain ⟨a1, ca, hv1, hsome, -⟩ := own_slice (hL.she.get hrx)
  refine ⟨a1, ca, ys, h4, h3, fun z hz => ⟨?_, fun j y hj => ?_⟩⟩
  · have h9 := (hL.cell hrx).1
    rw [hv1, h1] at h9
    exact (hz.cell (p := ⟨gV, x, none⟩) (by rw [← hD]; exact (hL.she.outV.lt gV rfl).2)).trans h9
  · obtain ⟨g, rfl⟩ := hsome (by have := (List.getElem?_eq_some_iff.1 hj).1; omega)
    have h9 := hL.she.get hrx
    have hg9 := (h9.lt g (by rw [hv1]; rfl)).2
    rw [hv1, h2] at h9
    have h8 := h9.cells rfl j (.int .i64 y) (by rw [List.getElem?_map, hj]; rfl)
    rw [addr_add, Nat.zero_add] at h8
    exact ⟨g, rfl, (hz.cell (p := ⟨g, j, none⟩) (by rw [← hD]; exact hg9)).trans h8⟩
end Go.Proofs.YtgijcbipnjmhgabGreat
