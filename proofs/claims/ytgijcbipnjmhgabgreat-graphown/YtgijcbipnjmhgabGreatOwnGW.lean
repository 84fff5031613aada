import Derived.Test.YtgijcbipnjmhgabGreatGv0
import Derived.Test.YtgijcbipnjmhgabGreatGw6
namespace Go.Proofs.YtgijcbipnjmhgabGreat
open Go.ChangeShapes Go.WideShapes Go.ChangeAt Go.RowKit Go.Sort
set_option linter.unusedVariables false
set_option linter.unusedSimpArgs false

set_option maxRecDepth 1000000 in
set_option maxHeartbeats 1000000 in
theorem plent_own (a : Option Addr) (cap : Nat) (xs : List Pr) (w : World) (h : LiesA w a xs) (hn : a = none → xs.length = 0 ∧ cap = 0) (hl : xs.length * 16 ≤ 140737488351232) :
    Calls Tryz.prog 4 #[.slice a xs.length cap] w fun e w' => e = .returned (.slice (some ⟨w.heap.size, 0, none⟩) xs.length (xs.length + 2)) ∧ Below w.heap.size w w' ∧ w'.ownsRow w.heap.size 51 2 (.slice (some ⟨w.heap.size, 0, none⟩) (xs.length + 2) (xs.length + 2)) (xs.length + 2) (flat (xs ++ pmarks)) := by
  obtain ⟨i0, hi, hz0, hz1, hz2⟩ := info_parts infoPr
  have H : Hid (LiesA w a xs) := h
  have HN : Hid (a = none → xs.length = 0 ∧ cap = 0) := hn
  clear h hn
  go_enter Tryz.func4, Tryz.ntmps4
  go_wp2_with (at_make; refine wpList_make_own _ rfl _ _ 22 rfl w.heap.size 51 i0 (.agg #[.int .i64 0, .int .i64 0]) 2 Tryz.underlying22 hi hz0 hz1 _ _ _ (xs.length + 2) rfl rfl (by omega) ?b2 ?b3 (Nat.le_refl _) ?_)
  case b2 => rw [hz2]; omega
  case b3 => unfold maxLen; omega
  intro w0 hown0 hgrow0
  have hbel0 : Below w.heap.size w w0 := (Below.refl _ _).grown hgrow0 (Nat.le_refl _) (fun k h => by cases h)
  go_wp2_with (at_builtin; (refine wpList_append_fits_any _ rfl (.tmp 8) (.tmp 9) 22 rfl w.heap.size 51 i0 2 Tryz.underlying22 hi hz1 w.heap.size 0 (xs.length + 2) _ rfl hown0 _ xs.length _ (flat xs) rfl (flat_length xs) HN.out ?c1 (flat_oneCell xs) (by omega) ?_))
  case c1 =>
    intro ad had
    rcases H.out with h | ⟨b, o, hab, h⟩
    · intro j u hj; rw [h] at hj; simp [flat] at hj
    · rw [hab] at had; cases had; exact (h.below hbel0 h.1).flat
  intro w1 hown1 hgrow1
  have hbel1 : Below w.heap.size w w1 := hbel0.grown hgrow1 hbel0.size (fun k h => by cases h; exact Nat.le_refl _)
  clear hown0 hgrow0 hgrow1
  go_wp2_with (at_builtin; refine wpList_append_fits_any _ rfl (.tmp 11) (.tmp 14) 22 rfl w.heap.size 51 i0 2 Tryz.underlying22 hi hz1 w.heap.size xs.length (xs.length + 2) _ rfl (hown1.alloc _) _ 2 _ (flat pmarks) rfl rfl ?d0 ?d1 (flat_oneCell pmarks) (by omega) ?_)
  case d0 => intro h; cases h
  case d1 => intro ad had; cases had; exact cells_new w1 (flat pmarks) 51
  intro w2 hown2 hgrow2
  have hbel2 : Below w.heap.size w w2 := (hbel1.alloc hbel1.size _).grown hgrow2 (by simp; have := hbel1.size; omega) (fun k h => by cases h; exact Nat.le_refl _)
  clear hown1 hgrow2
  have HL : Hid (w2.ownsRow w.heap.size 51 (Rw.k Pr) (.slice (some ⟨w.heap.size, 0, none⟩) (xs.length + 2) (xs.length + 2)) (xs.length + 2) (flat (xs ++ pmarks))) := by unfold Hid; rw [flat_append]; exact hown2
  clear hown2
  go_wp2
  go_ret
  exact ⟨rfl, hbel2, HL.out⟩

/-- GraphOwn's world: the shelf, and the list that was lent -/
structure Gy (w0 : World) (b B gc m : Nat) (ps : List Pr) (w : World) (I J : Value) (ri ui : List Rr) : Prop where
  sh : ShT b B w (.slice none 0 0) (.slice none 0 0) I J [] [] ri ui
  si : Sti Int ri ui
  nm : ri.length ≤ m
  oc : w.ownsRow w0.heap.size 51 2 (.slice (some ⟨gc, 0, none⟩) (ps.length + 2) (ps.length + 2)) (ps.length + 2) (flat (ps ++ pmarks))
  bel : Below w0.heap.size w0 w
  lb : w0.heap.size ≤ b
  lc : b < gc ∧ gc < B
section
variable {w0 w w' : World} {b B gc m : Nat} {ps : List Pr} {I J : Value} {ri ui : List Rr}
theorem Gy.below (h : Gy w0 b B gc m ps w I J ri ui) (hb : Below w.heap.size w w') : Gy w0 b B gc m ps w' I J ri ui :=
  ⟨h.sh.below hb, h.si, h.nm, own_belowR h.oc hb (Nat.le_refl _), h.bel.trans (hb.mono h.bel.size), h.lb, h.lc⟩
theorem Gy.lies (h : Gy w0 b B gc m ps w I J ri ui) : LiesA w (some ⟨gc, 0, none⟩) ps := .inr ⟨gc, 0, rfl, (Lies.own h.oc).pre⟩
theorem Gy.up {m' : Nat} (h : Gy w0 b B gc m ps w I J ri ui) (hm : m ≤ m') : Gy w0 b B gc m' ps w I J ri ui := ⟨h.sh, h.si, Nat.le_trans h.nm hm, h.oc, h.bel, h.lb, h.lc⟩
/-- a pair of the lent list is written over -/
theorem Gy.set (h : Gy w0 b B gc m ps w I J ri ui) {i : Nat} (hi : i < ps.length) (y : Pr) : Gy w0 b B gc m (ps.set i y) ((w.setCell ⟨gc, i * 2, none⟩ (.int .i64 y.a)).setCell ⟨gc, i * 2 + 1, none⟩ (.int .i64 y.b)) I J ri ui := by
  have k1 := h.lb; have k2 := h.lc
  obtain ⟨x, hx⟩ : ∃ x, ps[i]? = some x := ⟨_, List.getElem?_eq_getElem hi⟩
  have hx1 : (ps ++ pmarks)[i]? = some x := by rw [List.getElem?_append_left hi]; exact hx
  have e1 : ((flat (ps ++ pmarks)).set (i * 2) (.int .i64 y.a)) = flat ((ps ++ pmarks).set i ⟨y.a, x.b⟩) := flat_put (ps ++ pmarks) i 0 x ⟨y.a, x.b⟩ _ hx1 (by decide) rfl
  have e2 : ((flat ((ps ++ pmarks).set i ⟨y.a, x.b⟩)).set (i * 2 + 1) (.int .i64 y.b)) = flat ((ps ++ pmarks).set i y) := by
    have h1 := flat_put ((ps ++ pmarks).set i ⟨y.a, x.b⟩) i 1 ⟨y.a, x.b⟩ y (.int .i64 y.b) (List.getElem?_set_self (by simp; omega)) (by decide) rfl
    rw [List.set_set] at h1
    exact h1
  have o1 := (h.oc.stored (i * 2) (.int .i64 y.a)).1
  rw [e1] at o1
  have o2 := (o1.stored (i * 2 + 1) (.int .i64 y.b)).1
  rw [e2, List.set_append_left _ _ hi] at o2
  have hb : b ≠ gc := by omega
  refine ⟨⟨(h.sh.box.other ⟨gc, i * 2, none⟩ hb _).other ⟨gc, i * 2 + 1, none⟩ hb _, (h.sh.n.box k2.2 _ _).box k2.2 _ _, (h.sh.i.box k2.2 _ _).box k2.2 _ _, h.sh.lt, by have := h.sh.le; simpa using this⟩, h.si, h.nm, ?_, (h.bel.setCell (p := ⟨gc, i * 2, none⟩) (show w0.heap.size ≤ gc by omega) _).setCell (p := ⟨gc, i * 2 + 1, none⟩) (show w0.heap.size ≤ gc by omega) _, h.lb, h.lc⟩
  rw [List.length_set]
  exact o2
end

/-- a list, as it is put on the shelf -/
def rr (x : Value × List Int) : Rr := ⟨x.1, x.2.length, flat x.2⟩
/-- the world with lists beside the shelf, which are put there one by one, and the row P of some of them -/
structure Gz (w0 : World) (b B gc m : Nat) (ps : List Pr) (w : World) (I J : Value) (ri ui : List Rr) (ex : List (Value × List Int)) (P : Value) (vals : List Value) : Prop where
  y : Gy w0 b B gc m ps w I J ri ui
  ow : ∀ x ∈ ex, Ow6 B w x.1 x.2
  ap : ∀ x ∈ ex, ∀ q ∈ ri ++ ui, ApR q (rr x)
  pw : ex.Pairwise (fun x y => ApR (rr x) (rr y))
  op : w.ownsRow B 32 1 P vals.length vals
  oi : ∀ g, P.ownBlock = some g → I.ownBlock ≠ some g ∧ J.ownBlock ≠ some g
section
variable {w0 w w' : World} {b B gc m : Nat} {ps : List Pr} {I J P : Value} {ri ui : List Rr} {ex : List (Value × List Int)} {vals : List Value}
theorem Gz.tail {x : Value × List Int} (h : Gz w0 b B gc m ps w I J ri ui (x :: ex) P vals) : Gz w0 b B gc m ps w I J ri ui ex P vals :=
  ⟨h.y, fun z hz => h.ow z (List.mem_cons_of_mem _ hz), fun z hz => h.ap z (List.mem_cons_of_mem _ hz), (List.pairwise_cons.1 h.pw).2, h.op, h.oi⟩
/-- a list is put on the shelf -/
theorem Gz.step {v : Value} {E : List Int} (h : Gz w0 b B gc m ps w I J ri ui ((v, E) :: ex) P vals) (hm : m ≤ 900) :
    Calls Tryz.prog 15 #[.pointer (some ⟨b, 0, none⟩), v] w fun e w' => (∃ x, e = .returned x) ∧ ∃ I' J' u, Gz w0 b B gc (m + 1) ps w' I' J' (ri ++ [rr (v, E)]) (ui ++ [u]) ex P vals := by
  have hy := h.y
  have hri : ri.length ≤ 1000 := by have := hy.nm; omega
  have hui : ui.length ≤ 1000 := by rw [← hy.si.1]; exact hri
  have hL := h.ow (v, E) (List.mem_cons_self ..)
  refine (shelfInts_any b B w _ _ I J [] [] ri ui (rr (v, E)) hy.sh hL.1 (h.ap (v, E) (List.mem_cons_self ..)) (flat_oneCell E) hL.2 hri hui).mono ?_
  rintro e w' ⟨he, I', J', u, hT, hn, hx, hg, hf, hI, hJ⟩
  have k1 := hy.lb; have k2 := hy.lc; have k3 := hy.sh.le; have k4 := hy.sh.lt
  have low : ∀ {g}, g < B → g ≠ b → w'.heap[g]? = w.heap[g]? := fun {g} h1 h2 => frm_low hf hy.sh.i.outV hy.sh.i.outU h1 h2 k3
  have hy' : Gy w0 b B gc (m + 1) ps w' I' J' (ri ++ [rr (v, E)]) (ui ++ [u]) :=
    ⟨hT, hy.si.snoc E rfl rfl hn hx hL.2, by have := hy.nm; simp; omega, own_far hy.oc (fun g hg => by cases hg; exact low (g := gc) k2.2 (by omega)), hy.bel.trans (hf.bel.mono k1), k1, k2⟩
  have hp := List.pairwise_cons.1 h.pw
  refine ⟨he, I', J', u, hy', fun x hx => ?_, fun x hx => ?_, hp.2, ?_, fun g hP => ?_⟩
  · have hxo := h.ow x (List.mem_cons_of_mem _ hx)
    exact ⟨own_far hxo.1 (fun g hg => hf.keep g (hxo.1.lt g hg).2 (by have := (hxo.1.lt g hg).1; omega) (own_otherR hy.sh.i.outV hxo.1 (by decide) hg) (own_otherR hy.sh.i.outU hxo.1 (by decide) hg)), hxo.2⟩
  · have hxo := h.ow x (List.mem_cons_of_mem _ hx)
    exact ap_more (h.ap x (List.mem_cons_of_mem _ hx)) (hp.1 x hx) (fun g hu hxg => by have h1 := hg g hu; have h2 := (hxo.1.lt g hxg).2; omega)
  · exact own_far h.op (fun g hg => hf.keep g (h.op.lt g hg).2 (by have := (h.op.lt g hg).1; omega) (h.oi g hg).1 (h.oi g hg).2)
  · have hlt := (h.op.lt g hP).2
    refine ⟨fun e1 => ?_, fun e1 => ?_⟩
    · rcases hI g e1 with h1 | h1
      · exact (h.oi g hP).1 h1
      · omega
    · rcases hJ g e1 with h1 | h1
      · exact (h.oi g hP).2 h1
      · omega
end
/-- what a round's four calls have answered stands beside the shelf -/
theorem Gz.start {w0 wr w1 w2 w3 w4 w5 w9 : World} {b B gc m : Nat} {ps : List Pr} {I J v u p r k : Value} {ri ui : List Rr} {zs ys rs ks : List Int} {pss : List (List Int)} (h : Gy w0 b B gc m ps wr I J ri ui) (b1 : Below wr.heap.size wr w1) (b2 : Below w1.heap.size w1 w2) (b3 : Below w2.heap.size w2 w3) (b4 : Below w3.heap.size w3 w4) (b5 : Below w4.heap.size w4 w5) (b9 : Below w5.heap.size w5 w9)
    (ov : Ow6 w1.heap.size w2 v zs) (ou : Ow6 w1.heap.size w2 u ys) (hvu : ∀ g, v.ownBlock = some g → u.ownBlock ≠ some g) (op : RvA w2.heap.size w3 p pss) (orr : Ow6 w3.heap.size w4 r rs) (ok : Ow6 w4.heap.size w5 k ks) :
    ∃ vals, vals.length = pss.length ∧ Gz w0 b B gc m ps w9 I J ri ui ((v, zs) :: (u, ys) :: (r, rs) :: (k, ks) :: vals.zip pss) p vals := by
  obtain ⟨vals, q1, q2, q3, q4⟩ := op
  have s1 := b1.size; have s2 := b2.size; have s3 := b3.size; have s4 := b4.size; have s5 := b5.size; have s9 := b9.size; have sB := h.sh.le
  have c5 : Below w4.heap.size w4 w9 := b5.trans (b9.mono s5)
  have c4 : Below w3.heap.size w3 w9 := b4.trans (c5.mono s4)
  have c3 : Below w2.heap.size w2 w9 := b3.trans (c4.mono s3)
  have c2 : Below w1.heap.size w1 w9 := b2.trans (c3.mono s2)
  have c1 : Below wr.heap.size wr w9 := b1.trans (c2.mono s1)
  have zp : ∀ {i : Nat} {x : Value × List Int}, (vals.zip pss)[i]? = some x → vals[i]? = some x.1 ∧ Ow6 w2.heap.size w3 x.1 x.2 := fun {i x} hx => by
    rw [List.getElem?_zip_eq_some] at hx
    obtain ⟨y, k1, k2⟩ := q3 i _ hx.2
    rw [hx.1] at k1
    cases k1
    exact ⟨hx.1, k2⟩
  have zm : ∀ {x : Value × List Int}, x ∈ vals.zip pss → Ow6 w2.heap.size w3 x.1 x.2 := fun {x} hx => by
    obtain ⟨i, hi⟩ := List.getElem?_of_mem hx
    exact (zp hi).2
  refine ⟨vals, q2, h.below c1, fun x hx => ?_, fun x hx q hq g hqg hxg => ?_, ?_, own_lower (own_belowR (own_belowR q1 b4 (Nat.le_refl _)) c5 (Nat.le_refl _)) (by omega), fun g hg => ?_⟩
  · simp only [List.mem_cons] at hx
    rcases hx with rfl | rfl | rfl | rfl | hx
    · exact ⟨own_lower (ov.below c3).1 (by omega), ov.2⟩
    · exact ⟨own_lower (ou.below c3).1 (by omega), ou.2⟩
    · exact ⟨own_lower (orr.below c5).1 (by omega), orr.2⟩
    · exact ⟨own_lower (ok.below b9).1 (by omega), ok.2⟩
    · exact ⟨own_lower ((zm hx).below c4).1 (by omega), (zm hx).2⟩
  · have h1 := ((h.sh.i.each q hq).lt g hqg).2
    have h2 : wr.heap.size ≤ g := by
      simp only [List.mem_cons] at hx
      rcases hx with rfl | rfl | rfl | rfl | hx
      · have := (ov.1.lt g hxg).1; omega
      · have := (ou.1.lt g hxg).1; omega
      · have := (orr.1.lt g hxg).1; omega
      · have := (ok.1.lt g hxg).1; omega
      · have := ((zm hx).1.lt g hxg).1; omega
    omega
  · refine List.pairwise_cons.2 ⟨fun x hx g hv hxg => ?_, List.pairwise_cons.2 ⟨fun x hx g hv hxg => ?_, List.pairwise_cons.2 ⟨fun x hx g hv hxg => ?_, List.pairwise_cons.2 ⟨fun x hx g hv hxg => ?_, ?_⟩⟩⟩⟩
    · simp only [List.mem_cons] at hx
      have h1 := (ov.1.lt g hv).2
      rcases hx with rfl | rfl | rfl | hx
      · exact hvu g hv hxg
      · have := (orr.1.lt g hxg).1; omega
      · have := (ok.1.lt g hxg).1; omega
      · have := ((zm hx).1.lt g hxg).1; omega
    · simp only [List.mem_cons] at hx
      have h1 := (ou.1.lt g hv).2
      rcases hx with rfl | rfl | hx
      · have := (orr.1.lt g hxg).1; omega
      · have := (ok.1.lt g hxg).1; omega
      · have := ((zm hx).1.lt g hxg).1; omega
    · simp only [List.mem_cons] at hx
      have h1 := orr.1.lt g hv
      rcases hx with rfl | hx
      · have := (ok.1.lt g hxg).1; omega
      · have := ((zm hx).1.lt g hxg).2; omega
    · have h1 := (ok.1.lt g hv).1
      have := ((zm hx).1.lt g hxg).2
      omega
    · rw [List.pairwise_iff_getElem]
      intro i j hi hj hij g hg hg'
      have e1 := (zp (List.getElem?_eq_getElem hi)).1
      have e2 := (zp (List.getElem?_eq_getElem hj)).1
      exact q4 i j _ _ (by omega) e1 e2 g hg hg'
  · have h1 := (q1.lt g hg).1
    refine ⟨fun e => ?_, fun e => ?_⟩
    · have := (h.sh.i.outV.lt g e).2; omega
    · have := (h.sh.i.outU.lt g e).2; omega
theorem Gz.cell {w0 w : World} {b B gc m M cP i : Nat} {ps : List Pr} {I J x : Value} {aP : Option Addr} {ri ui : List Rr} {ex : List (Value × List Int)} {vals : List Value} (h : Gz w0 b B gc m ps w I J ri ui ex (.slice aP M cP) vals) (hx : vals[i]? = some x) : ∃ g, aP = some ⟨g, 0, none⟩ ∧ w.cell? ⟨g, i, none⟩ = some x := by
  have hi := (List.getElem?_eq_some_iff.1 hx).1
  have ho := h.op
  obtain ⟨a, c, hv, ha, -⟩ := own_slice ho
  injection hv with e1 e2 e3
  subst e1
  obtain ⟨g, rfl⟩ := ha (by omega)
  have h1 := ho.cells rfl i x hx
  rw [addr_add, Nat.zero_add] at h1
  exact ⟨g, rfl, h1⟩
theorem zip_drop {vals : List Value} {pss : List (List Int)} {i : Nat} (hl : vals.length = pss.length) (hi : i < pss.length) : ∃ x E, vals[i]? = some x ∧ (vals.zip pss).drop i = (x, E) :: (vals.zip pss).drop (i + 1) := by
  refine ⟨vals[i]'(by omega), pss[i], List.getElem?_eq_getElem (by omega), ?_⟩
  rw [List.drop_eq_getElem_cons (by rw [List.length_zip]; omega), List.getElem_zip]
/-- the list is lent: GraphOwn's first world -/
theorem lent_first (a : Option Addr) (cap N : Nat) (ps : List Pr) (w wb : World) (hN : ps.length = N) (hwb : Below w.heap.size w wb) (hsb : wb.heap.size = w.heap.size + 1) (Yb : Bx wb w.heap.size (bxT (.slice none 0 0) (.slice none 0 0) (.slice none 0 0) (.slice none 0 0)) 30) (hL : LiesA w a ps) (hn : a = none → ps.length = 0 ∧ cap = 0) (hl : ps.length * 16 ≤ 140737488351232) :
    Calls Tryz.prog 4 #[.slice a N cap] wb fun e w3 => ∃ gc B, e = .returned (.slice (some ⟨gc, 0, none⟩) N (N + 2)) ∧ Gy w w.heap.size B gc 0 ps w3 (.slice none 0 0) (.slice none 0 0) [] [] := by
  subst hN
  refine (plent_own a cap ps wb (hL.below hwb) hn hl).mono fun e w3 ⟨h1, h2, h3⟩ => ?_
  have k1 := h2.size
  have k2 := (h3.lt _ rfl).2
  exact ⟨wb.heap.size, w3.heap.size, h1, ⟨⟨Yb.below h2 (by omega), She.nil _ _ _ _ _, She.nil _ _ _ _ _, by omega, Nat.le_refl _⟩, ⟨rfl, fun i r u h => by simp at h⟩, by simp, own_lower h3 (by omega), hwb.trans (h2.mono (by omega)), Nat.le_refl _, by omega, k2⟩⟩
end Go.Proofs.YtgijcbipnjmhgabGreat

namespace Go.Proofs.YtgijcbipnjmhgabGreat
open Go.ChangeShapes Go.WideShapes Go.ChangeAt Go.RowKit Go.Sort
set_option linter.unusedVariables false
set_option linter.unusedSimpArgs false

set_option maxRecDepth 1000000 in
set_option maxHeartbeats 8000000 in
theorem graphOwn_walk (n : Int) (a : Option Addr) (cap : Nat) (ps : List Pr) (am : Option Addr) (capm : Nat) (mo : List Pr) (w : World) (bn0 : -9223372036854775808 ≤ n) (bn1 : n ≤ 9223372036854775807) (hL : LiesA w a ps) (hn : a = none → ps.length = 0 ∧ cap = 0) (hl : ps.length * 16 ≤ 140737488351232) (hL2 : LiesA w am mo) (hn2 : am = none → mo.length = 0 ∧ capm = 0) (hl2 : mo.length * 16 ≤ 140737488351232) :
    Calls Tryz.prog 3 #[.int .i64 n, .slice a ps.length cap, .slice am mo.length capm] w fun e w' => e = .returned (.bool true) ∧ Below w.heap.size w w' := by
  obtain ⟨i0, hi0, hz0, hz1, hz2⟩ := info_parts infoPr
  obtain ⟨wb, eb, hwb, hsb, Yb⟩ := bx1 w (bxT (.slice none 0 0) (.slice none 0 0) (.slice none 0 0) (.slice none 0 0)) 30
  have HEb : Hid (w.alloc (.cells (bxT (.slice none 0 0) (.slice none 0 0) (.slice none 0 0) (.slice none 0 0)) 30) = wb) := eb
  obtain ⟨N, hN⟩ : ∃ N, ps.length = N := ⟨_, rfl⟩
  obtain ⟨M, hM⟩ : ∃ M, mo.length = M := ⟨_, rfl⟩
  have LE := hidH (lent_first a cap N ps w wb hN hwb hsb Yb hL hn hl)
  have HMO := hidH (And.intro hL2 hM)
  have HPN := hidH hN
  have hm : N ≤ 8796093022208 := by omega
  have hmm : M ≤ 8796093022208 := by omega
  rw [hN, hM]
  clear eb hwb hsb Yb hN hM hL hn hl hL2 hn2 hl2
  go_enter Tryz.func3, Tryz.ntmps3
  go_wp2_with fail
  rw [show (w.alloc (.cells #[.slice none 0 0, .slice none 0 0, .slice none 0 0, .slice none 0 0, .slice none 0 0, .slice none 0 0, .slice none 0 0, .slice none 0 0, .slice none 0 0, .slice none 0 0, .slice none 0 0, .slice none 0 0] 30)) = wb from HEb.out]
  refine LE.out.mono ?_
  rintro e w0 ⟨gc, B, rfl, hY⟩
  have HY0 := hidH hY
  clear hY LE HEb
  go_wp2_with fail
  go_loopg [9] 3 (fun gk si wr => ∃ (k : Nat) (ps1 : List Pr) (I J : Value) (ri ui : List Rr), gk = 3 - k ∧ k ≤ 3 ∧ si = .int .i64 (k : Int) ∧ ps1.length = N ∧ Gy w w.heap.size B gc (44 * k) ps1 wr I J ri ui)
  case atStart => exact ⟨0, ps, _, _, [], [], rfl, by omega, rfl, HPN.out, HY0.out⟩
  case round =>
    obtain ⟨k, ps1, I, J, ri, ui, rfl, hk, rfl, hl1, hY⟩ := hrel
    have HY := hidH hY
    have HLN := hidH hl1
    clear hY hl1 HY0
    by_cases hk3 : k < 3
    · have hk3' : (k : Int) < 3 := by omega
      have HL0 : Hid ((wr.alloc (.cells #[] 51)).ownsRow wr.heap.size 51 2 (.slice (some ⟨wr.heap.size, 0, none⟩) 0 0) 0 []) := World.ownsRow_lit wr #[] 0 (Nat.le_refl _) (by unfold maxLen; omega) rfl
      have FL : Hid ((flat ps1).length = N * 2) := by unfold Hid; rw [flat_length, HLN.out]; rfl
      have HNW : Hid (∀ ad, some (⟨gc, 0, none⟩ : Addr) = some ad → ∀ j u, (flat ps1)[j]? = some u → (wr.alloc (.cells #[] 51)).cell? (ad.add j) = some u) := by
        intro ad had j u hj
        cases had
        rcases (HY.out.below ((Below.refl _ wr).alloc (Nat.le_refl _) (.cells #[] 51))).lies with h | ⟨b, o, hab, h⟩
        · rw [h] at hj; simp [flat] at hj
        · cases hab; exact h.flat j u hj
      go_wp2_with (first
        | (at_builtin; (refine wpList_append_at _ rfl _ _ 22 rfl wr.heap.size 51 i0 (.agg #[.int .i64 0, .int .i64 0]) 2 16 Tryz.underlying22 hi0 hz0 hz1 hz2 rfl (by decide) _ 0 [] rfl HL0.out (some ⟨gc, 0, none⟩) N (N + 2) (flat ps1) rfl FL.out (fun h => by cases h) HNW.out (flat_oneCell ps1) (by unfold maxLen; omega) (by omega) (by simp) ?_); intro v1 w1 hown1 hgrow1 _; rw [Nat.zero_add, List.nil_append] at hown1; obtain ⟨a1, c1, rfl, -, -⟩ := own_slice hown1; have B1 := hidH (((Below.refl _ wr).alloc (Nat.le_refl _) (.cells #[] 51)).grown hgrow1 (by simp) (fun g h => (HL0.out.lt g h).1)); have LN1 : Hid (LiesA w1 a1 ps1) := (by have h9 := hown1; rw [← HLN.out] at h9; exact own_liesP h9); have Y1 := hidH (HY.out.below B1.out); clear hown1 hgrow1)
        | (go_at_call 5; (with_reducible refine (order_own n (some ⟨gc, 0, none⟩) (N + 2) N ps1 w1 HLN.out Y1.out.lies hm).mono ?_); rintro e w2 ⟨v, u, E2, zs, ys, rfl, hb2, ov, ou, hvu, oc⟩; have B2 := hidH hb2; have OV := hidH ov; have OU := hidH ou; have HVU := hidH hvu; have OC := hidH oc; have Y2 := hidH (Y1.out.below hb2); have LN2 := hidH (LN1.out.below hb2); clear hb2 ov ou hvu oc Y1 LN1)
        | (go_at_call 6; (with_reducible refine (parts_own2 n (some ⟨gc, 0, none⟩) (N + 2) N ps1 w2 HLN.out Y2.out.lies hm).mono ?_); rintro e w3 ⟨aP, cP, E3, pss, rfl, hb3, rp, pc, hpl⟩; have B3 := hidH hb3; have RP := hidH rp; have PC := hidH pc; have Y3 := hidH (Y2.out.below hb3); have LN3 := hidH (LN2.out.below hb3); clear hb3 rp pc Y2 LN2)
        | (go_at_call 7; (with_reducible refine (reach_own n _ (some ⟨gc, 0, none⟩) (N + 2) N ps1 w3 HLN.out Y3.out.lies hm).mono ?_); rintro e w4 ⟨r, E4, rs, rfl, hb4, orr, rc⟩; have B4 := hidH hb4; have OR := hidH orr; have RC := hidH rc; have Y4 := hidH (Y3.out.below hb4); have LN4 := hidH (LN3.out.below hb4); clear hb4 orr rc Y3 LN3)
        | (go_at_call 8; (with_reducible refine (classes_own n (some ⟨gc, 0, none⟩) (N + 2) N ps1 w4 HLN.out Y4.out.lies (fun h => by cases h) hm).mono ?_); rintro e w5 ⟨kk, E5, ks, rfl, hb5, ok, kc⟩; have B5 := hidH hb5; have OK := hidH ok; have KC := hidH kc; have LN5 := hidH (LN4.out.below hb5); clear hb5 ok kc Y4 LN4)
        | (go_at_call 9; (with_reducible refine (OC.out.go w5 a1 c1 LN5.out).mono ?_); rintro e w6 ⟨mv, yv, E6, rfl, hb6, rm, ry⟩; have B6 := hidH hb6; have RM := hidH rm; have RY := hidH ry; have LN6 := hidH (LN5.out.below hb6); clear hb6 rm ry OC LN5)
        | (go_at_call 10; (with_reducible refine (PC.out.go w6 a1 c1 LN6.out).mono ?_); rintro e w7 ⟨aq, cq, E7, rfl, hb7, rq⟩; have B7 := hidH hb7; have RQ := hidH rq; have LN7 := hidH (LN6.out.below hb7); clear hb7 rq PC LN6)
        | (go_at_call 11; (with_reducible refine (RC.out.go w7 a1 c1 LN7.out).mono ?_); rintro e w8 ⟨sv, E8, rfl, hb8, rs8⟩; have B8 := hidH hb8; have RS := hidH rs8; have LN8 := hidH (LN7.out.below hb8); clear hb8 rs8 RC LN7)
        | (go_at_call 12; (with_reducible refine (KC.out.go w8 a1 c1 LN8.out).mono ?_); rintro e w9 ⟨tv, E9, rfl, hb9, rt⟩; have C7 := B8.out.trans (hb9.mono B8.out.size); have C6 := B7.out.trans (C7.mono B7.out.size); have C5 := B6.out.trans (C6.mono B6.out.size); have C4 := B5.out.trans (C5.mono B5.out.size); have C3 := B4.out.trans (C4.mono B4.out.size); have C2 := B3.out.trans (C3.mono B3.out.size); have SV := hidH (OV.out.below C2); have SU := hidH (OU.out.below C2); have SP := hidH (RP.out.below C3); have SR := hidH (OR.out.below C4); have SK := hidH (OK.out.below C5); have SM := hidH (RM.out.below C6); have SY := hidH (RY.out.below C6); have SQ := hidH (RQ.out.below C7); have SS := hidH (RS.out.below hb9); have ST := hidH rt; have D5 := hidH C5; have X0 := hidH (Below.refl w9.heap.size w9); clear hb9 rt C7 C6 C5 C4 C3 C2 KC LN8 RM RY RQ RS B6 B7 B8)
        | (go_at_call 13; (with_reducible refine (SV.out.sameAt SM.out X0.out).mono ?_); rintro e x1 ⟨rfl, hx⟩; have X1 := hidH hx; clear hx SM SV X0)
        | (go_at_call 13; (with_reducible refine (SU.out.sameAt SY.out X1.out).mono ?_); rintro e x2 ⟨rfl, hx⟩; have X2 := hidH (X1.out.trans (hx.mono X1.out.size)); clear hx SU SY X1)
        | (go_at_call 14; (with_reducible refine (SP.out.sameAt SQ.out X2.out).mono ?_); rintro e x3 ⟨rfl, hx⟩; have X3 := hidH (X2.out.trans (hx.mono X2.out.size)); clear hx SP SQ X2)
        | (go_at_call 13; (with_reducible refine (SR.out.sameAt SS.out X3.out).mono ?_); rintro e x4 ⟨rfl, hx⟩; have X4 := hidH (X3.out.trans (hx.mono X3.out.size)); clear hx SR SS X3)
        | (go_at_call 13; (with_reducible refine (SK.out.sameAt ST.out X4.out).mono ?_); rintro e x5 ⟨rfl, hx⟩; have X5 := X4.out.trans (hx.mono X4.out.size); obtain ⟨vals, hvl, hg0⟩ := Gz.start HY.out B1.out B2.out B3.out B4.out B5.out (D5.out.trans (X5.mono D5.out.size)) OV.out OU.out HVU.out RP.out OR.out OK.out; have HVL := hidH hvl; have G0 := hidH hg0; clear hx X5 hvl hg0 SK ST X4 D5 HY B1 B2 B3 B4 B5 OV OU HVU RP OR OK)
        | (go_at_call 15; (with_reducible refine (G0.out.step (by omega)).mono ?_); rintro e y1 ⟨⟨_, rfl⟩, I1, J1, u1, hg⟩; have G1 := hidH hg; clear hg G0)
        | (go_at_call 15; (with_reducible refine (G1.out.step (by omega)).mono ?_); rintro e y2 ⟨⟨_, rfl⟩, I2, J2, u2, hg⟩; have G2 := hidH hg; clear hg G1)
        | (go_at_call 15; (with_reducible refine (G2.out.step (by omega)).mono ?_); rintro e y3 ⟨⟨_, rfl⟩, I3, J3, u3, hg⟩; have G3 := hidH hg; clear hg G2)
        | (go_at_call 15; (with_reducible refine (G3.out.step (by omega)).mono ?_); rintro e y4 ⟨⟨_, rfl⟩, I4, J4, u4, hg⟩; have G4 := hidH hg; clear hg G3))
      clear HL0 FL HNW
      go_loopg [132] pss.length (fun gk si wz => ∃ (i m : Nat) (I J : Value) (ri ui : List Rr), gk = pss.length - i ∧ i ≤ pss.length ∧ si = .int .i64 (i : Int) ∧ m ≤ 44 * k + 4 + i ∧ m ≤ 44 * k + 44 ∧ Gz w w.heap.size B gc m ps1 wz I J ri ui ((vals.zip pss).drop i) (.slice aP pss.length cP) vals)
      case atStart => exact ⟨0, _, I4, J4, _, _, rfl, Nat.zero_le _, rfl, by omega, by omega, G4.out⟩
      case round =>
        obtain ⟨i, m, I5, J5, ri5, ui5, rfl, hi, rfl, hm1, hm2, hG⟩ := hrel
        have GG := hidH hG
        clear hG G4
        by_cases hip : i < pss.length
        · have hip' : (i : Int) < (pss.length : Int) := by omega
          have hi0 : (0 : Int) ≤ (i : Int) := by omega
          obtain ⟨x, E, hx, hd⟩ := zip_drop HVL.out hip
          have G5 : Hid (Gz w w.heap.size B gc m ps1 wr I5 J5 ri5 ui5 ((x, E) :: (vals.zip pss).drop (i + 1)) (.slice aP pss.length cP) vals) := by unfold Hid; rw [← hd]; exact GG.out
          obtain ⟨g, rfl, cx⟩ := G5.out.cell hx
          clear hd hx GG
          by_cases h40 : i < 40
          · have h40' : (i : Int) < 40 := by omega
            go_wp2_with (go_at_call 15; (with_reducible refine (G5.out.step (by omega)).mono ?_); rintro e z1 ⟨⟨_, rfl⟩, I6, J6, u6, hg⟩; have G6 := hidH hg; clear hg)
            go_roundg (pss.length - (i + 1))
            case measure => omega
            case rel => exact ⟨i + 1, m + 1, I6, J6, _, _, rfl, by omega, by go_num, by omega, by omega, G6.out⟩
          · have h40' : ¬ (i : Int) < 40 := by omega
            go_wp2
            go_roundg (pss.length - (i + 1))
            case measure => omega
            case rel => exact ⟨i + 1, m, I5, J5, _, _, rfl, by omega, by go_num, by omega, by omega, G5.out.tail⟩
        · have hip' : ¬ (i : Int) < (pss.length : Int) := by omega
          have Y5 := hidH (GG.out.y.up (show m ≤ 44 * (k + 1) by omega))
          clear GG
          go_wp2
          clear hip hip' hi hm1 hm2
          by_cases hk1 : k = 1
          · subst hk1
            have e1 : ((1 : Nat) : Int) = 1 := rfl
            rw [e1]
            clear e1
            go_loopg [145] N (fun gk si wz => ∃ (i : Nat) (ps2 : List Pr), gk = N - i ∧ i ≤ N ∧ si = .int .i64 (i : Int) ∧ ps2.length = N ∧ Gy w w.heap.size B gc (44 * (1 + 1)) ps2 wz I5 J5 ri5 ui5)
            case atStart => exact ⟨0, ps1, rfl, Nat.zero_le _, rfl, HLN.out, Y5.out⟩
            case round =>
              obtain ⟨j, ps2, rfl, hj, rfl, hl2, hY⟩ := hrel
              have Y6 := hidH hY
              have HL2 := hidH hl2
              clear hY hl2 Y5
              by_cases hjN : j < N
              · have hjN' : (j : Int) < (N : Int) := by omega
                have hj0 : (0 : Int) ≤ (j : Int) := by omega
                by_cases hjM : j < M
                · have hjM' : (j : Int) < (M : Int) := by omega
                  obtain ⟨y, hy⟩ : ∃ y, mo[j]? = some y := ⟨_, List.getElem?_eq_getElem (by rw [HMO.out.2]; exact hjM)⟩
                  obtain ⟨b2, o2, ha, hLi⟩ : ∃ b o, am = some ⟨b, o, none⟩ ∧ Lies w b o mo := by
                    rcases HMO.out.1 with h | h
                    · rw [h] at hy; simp at hy
                    · exact h
                  subst ha
                  obtain ⟨d0, d1⟩ := (hLi.below Y6.out.bel hLi.1).pr hy
                  obtain ⟨r2, hr⟩ : ∃ r, ps2[j]? = some r := ⟨_, List.getElem?_eq_getElem (by rw [HL2.out]; exact hjN)⟩
                  obtain ⟨f0, f1⟩ := (Lies.own Y6.out.oc).pre.pr hr
                  rw [Nat.zero_add] at f0 f1
                  have z0 : wr.frozen? ⟨gc, j * 2, none⟩ = false := World.ownsRow.frozenAt Y6.out.oc (j * 2)
                  have z1 : wr.frozen? ⟨gc, j * 2 + 1, none⟩ = false := World.ownsRow.frozenAt Y6.out.oc (j * 2 + 1)
                  have Y7 := hidH (Y6.out.set (i := j) (by rw [HL2.out]; exact hjN) y)
                  clear hy hLi hr
                  go_wp2
                  go_roundg (N - (j + 1))
                  case measure => omega
                  case rel => exact ⟨j + 1, ps2.set j y, rfl, by omega, by go_num, by rw [List.length_set]; exact HL2.out, Y7.out⟩
                · have hjM' : ¬ (j : Int) < (M : Int) := by omega
                  go_wp2
                  go_roundg (N - (j + 1))
                  case measure => omega
                  case rel => exact ⟨j + 1, ps2, rfl, by omega, by go_num, HL2.out, Y6.out⟩
              · have hjN' : ¬ (j : Int) < (N : Int) := by omega
                go_wp2
                go_roundg (3 - (1 + 1))
                case measure => omega
                case rel => exact ⟨1 + 1, ps2, I5, J5, ri5, ui5, rfl, by omega, by go_num, HL2.out, Y6.out⟩
          · have q1 : ((k : Int) == 1) = false := beq_eq_false_iff_ne.2 (by omega)
            go_loopg [145] N (fun gk si wz => ∃ (i : Nat) (ps2 : List Pr), gk = N - i ∧ i ≤ N ∧ si = .int .i64 (i : Int) ∧ ps2.length = N ∧ Gy w w.heap.size B gc (44 * (k + 1)) ps2 wz I5 J5 ri5 ui5)
            case atStart => exact ⟨0, ps1, rfl, Nat.zero_le _, rfl, HLN.out, Y5.out⟩
            case round =>
              obtain ⟨j, ps2, rfl, hj, rfl, hl2, hY⟩ := hrel
              have Y6 := hidH hY
              have HL2 := hidH hl2
              clear hY hl2 Y5
              by_cases hjN : j < N
              · have hjN' : (j : Int) < (N : Int) := by omega
                have hj0 : (0 : Int) ≤ (j : Int) := by omega
                go_wp2
                go_roundg (N - (j + 1))
                case measure => omega
                case rel => exact ⟨j + 1, ps2, rfl, by omega, by go_num, HL2.out, Y6.out⟩
              · have hjN' : ¬ (j : Int) < (N : Int) := by omega
                go_wp2
                go_roundg (3 - (k + 1))
                case measure => omega
                case rel => exact ⟨k + 1, ps2, I5, J5, ri5, ui5, rfl, by omega, by go_num, HL2.out, Y6.out⟩
    · have hk3' : ¬ (k : Int) < 3 := by omega
      have SN : Sti Nd [] [] := ⟨rfl, fun i r u h => by simp at h⟩
      go_wp2_with (go_at_call 16; (with_reducible refine (own_shelf w.heap.size B _ _ _ I J [] [] ri ui HY.out.sh SN HY.out.si (by simp) (by have := HY.out.nm; omega)).mono ?_); rintro e x ⟨rfl, hb⟩; have HB5 := hidH (HY.out.bel.trans hb); clear hb)
      go_ret
      exact ⟨rfl, HB5.out⟩
end Go.Proofs.YtgijcbipnjmhgabGreat
