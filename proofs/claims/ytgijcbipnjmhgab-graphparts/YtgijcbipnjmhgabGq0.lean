import Derived.Test.YtgijcbipnjmhgabGr0
import Derived.Test.YtgijcbipnjmhgabGr1
import Derived.Test.YtgijcbipnjmhgabGq1
namespace Go.Proofs.Ytgijcbipnjmhgab
set_option linter.unusedVariables false
set_option linter.unusedSimpArgs false

/-- what can be come to -/
inductive Rch (ps : List Pr) : Nat → Nat → Prop
  | refl (x : Nat) : Rch ps x x
  | step {x y z : Nat} : (⟨(x : Int), (y : Int)⟩ : Pr) ∈ ps → Rch ps y z → Rch ps x z
theorem Rch.trans {ps : List Pr} {x y z : Nat} (h : Rch ps x y) (k : Rch ps y z) : Rch ps x z := by
  induction h with
  | refl => exact k
  | step e _ ih => exact .step e (ih k)
/-- how many are not marked -/
def unm (m : List Bool) : Nat := (m.filter fun b => !b).length
theorem unm_le : ∀ (m m' : List Bool), m'.length = m.length → (∀ y : Nat, m[y]? = some true → m'[y]? = some true) → unm m' ≤ unm m
  | [], [], _, _ => Nat.le_refl _
  | [], _ :: _, h, _ => by cases h
  | _ :: _, [], h, _ => by cases h
  | a :: m, b :: m', h, hm => by
    have ih := unm_le m m' (by simpa using h) (fun y hy => hm (y + 1) hy)
    have h0 := hm 0
    unfold unm at ih ⊢
    cases a <;> cases b <;> simp at h0 ⊢ <;> omega
theorem unm_set : ∀ (m : List Bool) (x : Nat), m[x]? = some false → unm (m.set x true) + 1 = unm m
  | [], _, h => by cases h
  | a :: m, 0, h => by simp at h; subst h; simp [unm]
  | a :: m, x + 1, h => by
    have := unm_set m x h
    unfold unm at this ⊢
    cases a <;> simp <;> omega
/-- a walk from marks m and told things t to marks m' and told things t': what is new is in P -/
structure Dq (ps : List Pr) (P : Nat → Prop) (m : List Bool) (t : List Nat) (m' : List Bool) (t' : List Nat) : Prop where
  len : m'.length = m.length
  mono : ∀ y : Nat, m[y]? = some true → m'[y]? = some true
  told : ∃ s : List Nat, t' = t ++ s ∧ s.Nodup ∧ (∀ y ∈ s, m[y]? = some false ∧ m'[y]? = some true) ∧ ∀ y : Nat, m'[y]? = some true → m[y]? = some true ∨ y ∈ s
  reach : ∀ y : Nat, m'[y]? = some true → m[y]? = some true ∨ P y
  closed : ∀ y y' : Nat, m[y]? = some false → m'[y]? = some true → (⟨(y : Int), (y' : Int)⟩ : Pr) ∈ ps → m'[y']? = some true
  cnt : t'.length + unm m' = t.length + unm m
theorem Dq.refl (ps : List Pr) (P : Nat → Prop) (m : List Bool) (t : List Nat) : Dq ps P m t m t :=
  ⟨rfl, fun _ h => h, ⟨[], by simp, List.nodup_nil, (fun y hy => by cases hy), fun y h => .inl h⟩, fun _ h => .inl h, (fun y y' h1 h2 => by rw [h1] at h2; cases h2), rfl⟩
theorem tf {m : List Bool} {y : Nat} (h : m[y]? = some true) (k : m[y]? = some false) : False := by rw [h] at k; cases k
theorem Dq.back {ps : List Pr} {P : Nat → Prop} {m m' : List Bool} {t t' : List Nat} (h : Dq ps P m t m' t') {y : Nat} (hy : m'[y]? = some false) : m[y]? = some false := by
  have hl : y < m.length := by have := (List.getElem?_eq_some_iff.1 hy).1; rw [h.len] at this; exact this
  cases hm : m[y] with
  | false => rw [List.getElem?_eq_getElem hl, hm]
  | true => exact (tf (h.mono y (by rw [List.getElem?_eq_getElem hl, hm])) hy).elim
theorem Dq.trans {ps : List Pr} {P P' : Nat → Prop} {m m1 m2 : List Bool} {t t1 t2 : List Nat} (h : Dq ps P m t m1 t1) (k : Dq ps P' m1 t1 m2 t2) (hP : ∀ y, P' y → P y) : Dq ps P m t m2 t2 := by
  obtain ⟨s1, hs1, hn1, hy1, hz1⟩ := h.told
  obtain ⟨s2, hs2, hn2, hy2, hz2⟩ := k.told
  refine ⟨k.len.trans h.len, fun y hy => k.mono y (h.mono y hy), ⟨s1 ++ s2, by rw [hs2, hs1, List.append_assoc], ?_, fun y hy => ?_, fun y hy => ?_⟩, fun y hy => ?_, fun y y' hy hy2' he => ?_, k.cnt.trans h.cnt⟩
  · refine List.nodup_append.2 ⟨hn1, hn2, fun a ha b hb hab => ?_⟩
    subst hab
    exact tf (hy1 a ha).2 (hy2 a hb).1
  · rcases List.mem_append.1 hy with hy | hy
    · exact ⟨(hy1 y hy).1, k.mono y (hy1 y hy).2⟩
    · exact ⟨h.back (hy2 y hy).1, (hy2 y hy).2⟩
  · rcases hz2 y hy with h2 | h2
    · rcases hz1 y h2 with h3 | h3
      · exact .inl h3
      · exact .inr (List.mem_append_left _ h3)
    · exact .inr (List.mem_append_right _ h2)
  · rcases k.reach y hy with h2 | h2
    · exact h.reach y h2
    · exact .inr (hP y h2)
  · have hl : y < m1.length := by have := (List.getElem?_eq_some_iff.1 hy).1; rw [← h.len] at this; exact this
    cases hm : m1[y] with
    | false => exact k.closed y y' (by rw [List.getElem?_eq_getElem hl, hm]) hy2' he
    | true => exact k.mono y' (h.closed y y' hy (by rw [List.getElem?_eq_getElem hl, hm]) he)
/-- a walk from a thing that was not met: marked, its own walked, told -/
theorem Dq.node {ps : List Pr} {x : Nat} {m m1 : List Bool} {t t1 : List Nat} (hx : m[x]? = some false) (h : Dq ps (Rch ps x) (m.set x true) t m1 t1) (hd : ∀ y' : Nat, (⟨(x : Int), (y' : Int)⟩ : Pr) ∈ ps → m1[y']? = some true) : Dq ps (Rch ps x) m t m1 (t1 ++ [x]) := by
  have hl := (List.getElem?_eq_some_iff.1 hx).1
  have hset : ∀ y : Nat, y ≠ x → (m.set x true)[y]? = m[y]? := fun y hy => by rw [List.getElem?_set, if_neg (fun e => hy e.symm)]
  have hsx : (m.set x true)[x]? = some true := by rw [List.getElem?_set, if_pos rfl, if_pos hl]
  obtain ⟨s, hs, hn, hy, hz⟩ := h.told
  refine ⟨by rw [h.len, List.length_set], fun y hy => h.mono y ?_, ⟨s ++ [x], by rw [hs, List.append_assoc], ?_, fun y hy' => ?_, fun y hy' => ?_⟩, fun y hy' => ?_, fun y y' hy1 hy2 he => ?_, by have h8 := h.cnt; have h9 := unm_set m x hx; rw [List.length_append]; simp; omega⟩
  · by_cases e : y = x
    · subst e; exact hsx
    · rw [hset y e]; exact hy
  · refine List.nodup_append.2 ⟨hn, by simp, fun a ha b hb hab => ?_⟩
    rw [List.mem_singleton] at hb
    subst hb
    subst hab
    exact tf hsx (hy _ ha).1
  · rcases List.mem_append.1 hy' with h1 | h1
    · refine ⟨?_, (hy y h1).2⟩
      have h2 := (hy y h1).1
      by_cases e : y = x
      · subst e; exact (tf hsx h2).elim
      · rw [hset y e] at h2; exact h2
    · rw [List.mem_singleton] at h1
      subst h1
      exact ⟨hx, h.mono _ hsx⟩
  · by_cases e : y = x
    · subst e; exact .inr (by simp)
    · rcases hz y hy' with h1 | h1
      · rw [hset y e] at h1; exact .inl h1
      · exact .inr (List.mem_append_left _ h1)
  · by_cases e : y = x
    · subst e; exact .inr (.refl _)
    · rcases h.reach y hy' with h1 | h1
      · rw [hset y e] at h1; exact .inl h1
      · exact .inr h1
  · by_cases e : y = x
    · subst e; exact hd y' he
    · exact h.closed y y' (by rw [hset y e]; exact hy1) hy2 he
theorem Dq.unm_le {ps : List Pr} {P : Nat → Prop} {m m' : List Bool} {t t' : List Nat} (h : Dq ps P m t m' t') : unm m' ≤ unm m := Go.Proofs.Ytgijcbipnjmhgab.unm_le m m' h.len h.mono
end Go.Proofs.Ytgijcbipnjmhgab

namespace Go.Proofs.Ytgijcbipnjmhgab
open Go.ChangeShapes Go.WideShapes Go.ChangeAt Go.RowKit
set_option linter.unusedVariables false
set_option linter.unusedSimpArgs false

theorem Bx.neR {w : World} {b B e s n g : Nat} {vs : Array Value} {t : TypeId} {v : Value} {xs : List Value} (h : Bx w b vs t) (h' : w.ownsRow B e s v n xs) (hne : e ≠ t) (hg : v.ownBlock = some g) : b ≠ g := by
  intro e1
  obtain ⟨c, fz, hh⟩ := row_kindR h' g hg
  have h2 : w.heap[b]? = _ := h
  rw [e1, hh] at h2
  cases h2
  exact hne rfl
theorem Bx.ne {w : World} {b g : Nat} {vs us : Array Value} {t u : TypeId} (h : Bx w b vs t) (h' : Bx w g us u) (hne : t ≠ u) : b ≠ g := by
  intro e1
  have h2 : w.heap[b]? = _ := h
  have h3 : w.heap[g]? = _ := h'
  rw [e1, h3] at h2
  cases h2
  exact hne rfl
/-- a cell of another block is written -/
theorem Lv.far {B gV n g i : Nat} {w0 w : World} {rs : List Rr} {x : Value} (h : Lv B gV n w0 w rs) (hV : gV ≠ g) (hr : ∀ r ∈ rs, r.v.ownBlock ≠ some g) (hB : B ≤ g) : Lv B gV n w0 (w.setCell ⟨g, i, none⟩ x) rs := by
  refine ⟨⟨ownsRow_setCell_other h.she.outV (a := ⟨g, i, none⟩) (fun e => by cases e; exact hV rfl) _, World.ownsRow_nil _ _ _ _, fun r hr' => ?_, h.she.apart, h.she.outs⟩, h.len, h.bel.setCell (p := ⟨g, i, none⟩) hB _, by simp; exact h.base⟩
  rw [List.append_nil] at hr'
  exact ownsRow_setCell_other (h.she.each r (by rw [List.append_nil]; exact hr')) (a := ⟨g, i, none⟩) (hr r hr') _
theorem Lv.farRow {B gV n e s k i : Nat} {w0 w : World} {rs : List Rr} {v x : Value} {xs : List Value} {g : Nat} (h : Lv B gV n w0 w rs) (h' : w.ownsRow B e s v k xs) (h1 : e ≠ 21) (h2 : e ≠ 59) (hg : v.ownBlock = some g) : Lv B gV n w0 (w.setCell ⟨g, i, none⟩ x) rs :=
  h.far (fun e => own_otherR h.she.outV h' h2 hg (by rw [← e]; rfl)) (fun r hr => own_otherR (h.she.each r (by rw [List.append_nil]; exact hr)) h' h1 hg) (h'.lt g hg).1
theorem Lv.farBox {B gV n i : Nat} {w0 w : World} {rs : List Rr} {x : Value} {b : Nat} {vs : Array Value} {t : TypeId} (h : Lv B gV n w0 w rs) (h' : Bx w b vs t) (h1 : 21 ≠ t) (h2 : 59 ≠ t) (hB : B ≤ b) : Lv B gV n w0 (w.setCell ⟨b, i, none⟩ x) rs :=
  h.far (fun e => h'.neR h.she.outV h2 rfl e.symm) (fun r hr hb => h'.neR (h.she.each r (by rw [List.append_nil]; exact hr)) h1 hb rfl) hB
theorem Lv.grw {B gV n e s k : Nat} {w0 w w' : World} {rs : List Rr} {v : Value} {xs : List Value} (h : Lv B gV n w0 w rs) (h' : w.ownsRow B e s v k xs) (h1 : e ≠ 21) (h2 : e ≠ 59) (hg : w.grownBy w' v.ownBlock) : Lv B gV n w0 w' rs := by
  refine ⟨⟨own_grwR h.she.outV hg (fun g hr => own_otherR h.she.outV h' h2 hr), World.ownsRow_nil _ _ _ _, fun r hr' => ?_, h.she.apart, h.she.outs⟩, h.len, h.bel.grown hg h.base (fun g hr => (h'.lt g hr).1), Nat.le_trans h.base hg.size⟩
  rw [List.append_nil] at hr'
  have h9 := h.she.each r (by rw [List.append_nil]; exact hr')
  exact own_grwR h9 hg (fun g hr => own_otherR h9 h' h1 hr)
/-- the walker's own: its lists, its marks, and the boxes that the closure holds -/
structure Wc (B bm bn bk bt gm gV n : Nat) (tv : Value) (w0 : World) (rs : List Rr) (m : List Bool) (z : World) : Prop where
  lv : Lv B gV n w0 z rs
  met : z.ownsRow B 4 1 (.slice (some ⟨gm, 0, none⟩) n n) n (m.map Value.bool)
  xm : Bx z bm #[.slice (some ⟨gm, 0, none⟩) n n] 75
  xn : Bx z bn #[.slice (some ⟨gV, 0, none⟩) n n] 43
  xk : Bx z bk #[.func (.func 50) #[] #[.pointer (some ⟨bm, 0, none⟩), .pointer (some ⟨bn, 0, none⟩), .pointer (some ⟨bk, 0, none⟩), .pointer (some ⟨bt, 0, none⟩)]] 46
  xt : Bx z bt #[tv] 46
theorem Wc.mlen {B bm bn bk bt gm gV n : Nat} {tv : Value} {w0 z : World} {rs : List Rr} {m : List Bool} (h : Wc B bm bn bk bt gm gV n tv w0 rs m z) : m.length = n := by
  have := h.met.1
  simpa using this
theorem Wc.get {B bm bn bk bt gm gV n : Nat} {tv : Value} {w0 z : World} {rs : List Rr} {m : List Bool} (h : Wc B bm bn bk bt gm gV n tv w0 rs m z) {x : Nat} {b : Bool} (hx : m[x]? = some b) : z.cell? ⟨gm, x, none⟩ = some (.bool b) ∧ z.frozen? ⟨gm, x, none⟩ = false := by
  have h1 := h.met.cells rfl x (.bool b) (by rw [List.getElem?_map, hx]; rfl)
  rw [addr_add, Nat.zero_add] at h1
  exact ⟨h1, h.met.frozenAt x⟩
theorem Wc.set {B bm bn bk bt gm gV n : Nat} {tv : Value} {w0 z : World} {rs : List Rr} {m : List Bool} (h : Wc B bm bn bk bt gm gV n tv w0 rs m z) (x : Nat) : Wc B bm bn bk bt gm gV n tv w0 rs (m.set x true) (z.setCell ⟨gm, x, none⟩ (.bool true)) := by
  refine ⟨h.lv.farRow h.met (by decide) (by decide) rfl, ?_, h.xm.other ⟨gm, x, none⟩ (h.xm.neR h.met (by decide) rfl) _, h.xn.other ⟨gm, x, none⟩ (h.xn.neR h.met (by decide) rfl) _, h.xk.other ⟨gm, x, none⟩ (h.xk.neR h.met (by decide) rfl) _, h.xt.other ⟨gm, x, none⟩ (h.xt.neR h.met (by decide) rfl) _⟩
  have := (World.ownsRow.stored h.met x (.bool true)).1
  rw [List.map_set]
  exact this
theorem Wc.below {B bm bn bk bt gm gV n : Nat} {tv : Value} {w0 z z' : World} {rs : List Rr} {m : List Bool} (h : Wc B bm bn bk bt gm gV n tv w0 rs m z) (hb : Below z.heap.size z z') : Wc B bm bn bk bt gm gV n tv w0 rs m z' :=
  ⟨h.lv.below hb, ownsRow_below h.met hb (Nat.le_refl _), h.xm.below hb h.xm.lt, h.xn.below hb h.xn.lt, h.xk.below hb h.xk.lt, h.xt.below hb h.xt.lt⟩
end Go.Proofs.Ytgijcbipnjmhgab

namespace Go.Proofs.Ytgijcbipnjmhgab
open Go.ChangeShapes Go.WideShapes Go.ChangeAt Go.RowKit
set_option linter.unusedVariables false
set_option linter.unusedSimpArgs false

/-- a pair with its ends changed for one another -/
def swapP (p : Pr) : Pr := ⟨p.b, p.a⟩

set_option maxRecDepth 1000000 in
set_option maxHeartbeats 4000000 in
theorem rows0_any (n cap : Nat) (a : Option Addr) (ps : List Pr) (w : World) (hL : LiesA w a ps) (hn : n ≤ 131072) (hm : ps.length ≤ 8796093022208) (hr : ∀ p ∈ ps, (0 ≤ p.a ∧ p.a < (n : Int)) ∧ (0 ≤ p.b ∧ p.b < (n : Int))) :
    Calls Try.prog 28 #[.int .i64 (n : Int), .slice a ps.length cap, .int .i64 0] w fun e w' => e = .returned (.slice (some ⟨w.heap.size, 0, none⟩) n n) ∧ ∃ rs, Lw w.heap.size w.heap.size n w w' rs ∧ Ad .i64 (ps.map swapP) rs := by
  obtain ⟨i0, hi0, hz0, hz1, hz2⟩ := info_parts infoRowI
  obtain ⟨i1, hi1, hy0, hy1, hy2⟩ := info_parts infoInt
  have HL : Hid (LiesA w a ps) := hL
  have HRg : Hid (∀ p ∈ ps, (0 ≤ p.a ∧ p.a < (n : Int)) ∧ (0 ≤ p.b ∧ p.b < (n : Int))) := hr
  clear hL hr
  go_enter Try.func28, Try.ntmps28
  go_wp2_with (at_make; refine wpList_make_full _ rfl _ _ 30 rfl w.heap.size 24 i0 (.slice none 0 0) 1 Try.underlying30 hi0 hz0 hz1 _ _ _ _ n rfl rfl rfl rfl (by rw [hz2]; omega) (by unfold maxLen; omega) (Nat.le_refl _) ?_; intro w1 hown1 hgr1; have L1 : Hid (Lw w.heap.size w.heap.size n w w1 (List.replicate n ⟨.slice none 0 0, 0, []⟩)) := ⟨She.made (by have h9 := rep_made (.slice none 0 0) n; rw [show (Value.slice none 0 0).cells = #[.slice none 0 0] by rfl] at hown1; rw [h9] at hown1; exact hown1), by simp, (Below.refl _ w).grown hgr1 (Nat.le_refl _) (fun k h => by cases h), hgr1.size⟩; clear hown1 hgr1)
  go_loopg [8] ps.length (fun gk si wr => ∃ (k : Nat) (rs : List Rr), gk = ps.length - k ∧ si = .int .i64 (k : Int) ∧ k ≤ ps.length ∧ Lw w.heap.size w.heap.size n w wr rs ∧ Ad .i64 ((ps.map swapP).take k) rs)
  case atStart => exact ⟨0, _, rfl, rfl, Nat.zero_le _, L1.out, Ad.start n⟩
  case round =>
    obtain ⟨k, rs, hgk, rfl, hk, hLv, hAd⟩ := hrel
    clear L1
    have LV : Hid (Lw w.heap.size w.heap.size n w wr rs) := hLv
    have HA : Hid (Ad .i64 ((ps.map swapP).take k) rs) := hAd
    clear hLv hAd
    by_cases hkp : k < ps.length
    · have hkp' : (k : Int) < (ps.length : Int) := by omega
      obtain ⟨p, hp⟩ : ∃ p, ps[k]? = some p := ⟨_, List.getElem?_eq_getElem hkp⟩
      obtain ⟨b, o, ha, hLi⟩ : ∃ b o, a = some ⟨b, o, none⟩ ∧ Lies w b o ps := by
        rcases HL.out with h | h
        · rw [h] at hkp; exact absurd hkp (Nat.not_lt_zero _)
        · exact h
      subst ha
      obtain ⟨⟨ha0, ha1⟩, hb0, hb1⟩ := HRg.out p (List.mem_of_getElem? hp)
      obtain ⟨pb, pa⟩ := p
      obtain ⟨x, rfl⟩ : ∃ x : Nat, pa = (x : Int) := ⟨pa.toNat, by simp only at ha0 hb0; omega⟩
      simp only at ha0 ha1 hb0 hb1
      have HP : Hid (ps[k]? = some ⟨pb, (x : Int)⟩) := hp
      have HLi : Hid (Lies wr b o ps) := hLi.below LV.out.bel hLi.1
      have HBW : Hid (b < w.heap.size ∧ w.heap.size ≤ wr.heap.size) := ⟨hLi.1, LV.out.base⟩
      obtain ⟨d0, d1⟩ := HLi.out.pr hp
      simp only at d0 d1
      obtain ⟨r, hrx⟩ : ∃ r, rs[x]? = some r := ⟨_, List.getElem?_eq_getElem (by have := LV.out.len; omega)⟩
      have HRX : Hid (rs[x]? = some r) := hrx
      clear hLi hp hrx
      go_upto_region 6 with fail
      obtain ⟨a1, c1, hv1, -, -⟩ := own_slice (LV.out.she.get HRX.out)
      obtain ⟨rv, rn, rx⟩ := r
      simp only at hv1
      subst hv1
      obtain ⟨ys, hy1, hy2', hy3, hy4⟩ := HA.out x _ HRX.out
      simp only at hy1 hy2'
      have hrn : rn ≤ 8796093022208 := by rw [hy1]; rw [List.length_take] at hy3; omega
      clear hy1 hy2' hy3 hy4 ys
      have hx0 : (0 : Int) ≤ (x : Int) := by omega
      have hxn2 : (x : Int) < (n : Int) := by omega
      have hk0 : (0 : Int) ≤ (k : Int) := by omega
      have HSr : wr.cell? ⟨b, o + k * 2, none⟩ = some (.int .i64 pb) ∧ wr.cell? ⟨w.heap.size, x, none⟩ = some (.slice a1 rn c1) := ⟨d0, (LV.out.cell HRX.out).1⟩
      refine wp_region_G (fun z => z.cell? ⟨b, o + k * 2, none⟩ = some (.int .i64 pb) ∧ z.cell? ⟨w.heap.size, x, none⟩ = some (.slice a1 rn c1)) 15 (by kernel_rfl) ?_
      refine wpAnyG_take (i := 0) (v := .slice (some ⟨w.heap.size, 0, none⟩) n n) rfl (by kernel_rfl) (by kernel_rfl) (by kernel_rfl) (fun _ _ _ h => h) (by kernel_rfl) (by kernel_rfl) (by kernel_rfl) (Or.inl ⟨by rfl, fun z hz => ?_⟩) HSr ?_
      · obtain ⟨hz0, hz1⟩ := hz
        go_simp
      try simp only [Act.put, List.setIfInBounds_toArray, List.set_cons_zero, List.set_cons_succ]
      refine wpAnyG_take (i := 1) (v := .int .i64 (x : Int)) rfl (by kernel_rfl) (by kernel_rfl) (by kernel_rfl) (fun _ _ _ h => h) (by kernel_rfl) (by kernel_rfl) (by kernel_rfl) (Or.inl ⟨by rfl, fun z hz => ?_⟩) HSr ?_
      · obtain ⟨hz0, hz1⟩ := hz
        go_simp
      try simp only [Act.put, List.setIfInBounds_toArray, List.set_cons_zero, List.set_cons_succ]
      refine wpAnyG_take (i := 2) (v := .slice (some ⟨w.heap.size, 0, none⟩) n n) rfl (by kernel_rfl) (by kernel_rfl) (by kernel_rfl) (fun _ _ _ h => h) (by kernel_rfl) (by kernel_rfl) (by kernel_rfl) (Or.inl ⟨by rfl, fun z hz => ?_⟩) HSr ?_
      · obtain ⟨hz0, hz1⟩ := hz
        go_simp
      try simp only [Act.put, List.setIfInBounds_toArray, List.set_cons_zero, List.set_cons_succ]
      refine wpAnyG_take (i := 3) (v := .int .i64 (x : Int)) rfl (by kernel_rfl) (by kernel_rfl) (by kernel_rfl) (fun _ _ _ h => h) (by kernel_rfl) (by kernel_rfl) (by kernel_rfl) (Or.inl ⟨by rfl, fun z hz => ?_⟩) HSr ?_
      · obtain ⟨hz0, hz1⟩ := hz
        go_simp
      try simp only [Act.put, List.setIfInBounds_toArray, List.set_cons_zero, List.set_cons_succ]
      refine wpAnyG_take (i := 4) (v := .pointer (some ⟨w.heap.size, x, none⟩)) rfl (by kernel_rfl) (by kernel_rfl) (by kernel_rfl) (fun _ _ _ h => h) (by kernel_rfl) (by kernel_rfl) (by kernel_rfl) (Or.inl ⟨by rfl, fun z hz => ?_⟩) HSr ?_
      · obtain ⟨hz0, hz1⟩ := hz
        go_simp
      try simp only [Act.put, List.setIfInBounds_toArray, List.set_cons_zero, List.set_cons_succ]
      refine wpAnyG_take (i := 5) (v := .slice a1 rn c1) rfl (by kernel_rfl) (by kernel_rfl) (by kernel_rfl) (fun _ _ _ h => h) (by kernel_rfl) (by kernel_rfl) (by kernel_rfl) (Or.inl ⟨by rfl, fun z hz => ?_⟩) HSr ?_
      · obtain ⟨hz0, hz1⟩ := hz
        go_simp
      try simp only [Act.put, List.setIfInBounds_toArray, List.set_cons_zero, List.set_cons_succ]
      refine wpAnyG_take (i := 6) (v := .slice (some ⟨b, o, none⟩) ps.length cap) rfl (by kernel_rfl) (by kernel_rfl) (by kernel_rfl) (fun _ _ _ h => h) (by kernel_rfl) (by kernel_rfl) (by kernel_rfl) (Or.inl ⟨by rfl, fun z hz => ?_⟩) HSr ?_
      · obtain ⟨hz0, hz1⟩ := hz
        go_simp
      try simp only [Act.put, List.setIfInBounds_toArray, List.set_cons_zero, List.set_cons_succ]
      refine wpAnyG_take (i := 7) (v := .int .i64 (k : Int)) rfl (by kernel_rfl) (by kernel_rfl) (by kernel_rfl) (fun _ _ _ h => h) (by kernel_rfl) (by kernel_rfl) (by kernel_rfl) (Or.inl ⟨by rfl, fun z hz => ?_⟩) HSr ?_
      · obtain ⟨hz0, hz1⟩ := hz
        go_simp
      try simp only [Act.put, List.setIfInBounds_toArray, List.set_cons_zero, List.set_cons_succ]
      refine wpAnyG_take (i := 8) (v := .int .i64 0) rfl (by kernel_rfl) (by kernel_rfl) (by kernel_rfl) (fun _ _ _ h => h) (by kernel_rfl) (by kernel_rfl) (by kernel_rfl) (Or.inl ⟨by rfl, fun z hz => ?_⟩) HSr ?_
      · obtain ⟨hz0, hz1⟩ := hz
        go_simp
      try simp only [Act.put, List.setIfInBounds_toArray, List.set_cons_zero, List.set_cons_succ]
      refine wpAnyG_take (i := 9) (v := .pointer (some ⟨b, o + k * 2, none⟩)) rfl (by kernel_rfl) (by kernel_rfl) (by kernel_rfl) (fun _ _ _ h => h) (by kernel_rfl) (by kernel_rfl) (by kernel_rfl) (Or.inl ⟨by rfl, fun z hz => ?_⟩) HSr ?_
      · obtain ⟨hz0, hz1⟩ := hz
        go_simp
      try simp only [Act.put, List.setIfInBounds_toArray, List.set_cons_zero, List.set_cons_succ]
      refine wpAnyG_take (i := 10) (v := .pointer (some ⟨b, o + k * 2, none⟩)) rfl (by kernel_rfl) (by kernel_rfl) (by kernel_rfl) (fun _ _ _ h => h) (by kernel_rfl) (by kernel_rfl) (by kernel_rfl) (Or.inl ⟨by rfl, fun z hz => ?_⟩) HSr ?_
      · obtain ⟨hz0, hz1⟩ := hz
        go_simp
      try simp only [Act.put, List.setIfInBounds_toArray, List.set_cons_zero, List.set_cons_succ]
      refine wpAnyG_take (i := 11) (v := .int .i64 pb) rfl (by kernel_rfl) (by kernel_rfl) (by kernel_rfl) (fun _ _ _ h => h) (by kernel_rfl) (by kernel_rfl) (by kernel_rfl) (Or.inl ⟨by rfl, fun z hz => ?_⟩) HSr ?_
      · obtain ⟨hz0, hz1⟩ := hz
        go_simp
      try simp only [Act.put, List.setIfInBounds_toArray, List.set_cons_zero, List.set_cons_succ]
      refine wpAnyG_one (i := 12) (by kernel_rfl) rfl (fun K hK0 => ?_)
      have hK : Hid _ := hK0
      clear hK0
      go_simp
      obtain ⟨WA, hWA⟩ : ∃ WA, (wr.alloc (.cells #[Value.int .i64 pb] 3)).drew = WA := ⟨_, rfl⟩
      have hA : Below wr.heap.size wr WA := by rw [← hWA]; exact ((Below.refl _ wr).alloc (Nat.le_refl _) _).drew
      have HNW : Hid (∀ j u, [Value.int .i64 pb][j]? = some u → WA.cell? ((⟨wr.heap.size, 0, none⟩ : Addr).add j) = some u) := by unfold Hid; rw [← hWA]; exact cells_newR wr [Value.int .i64 pb] 3
      have HZA : Hid (WA.heap.size = wr.heap.size + 1) := by unfold Hid; rw [← hWA]; show (wr.alloc _).heap.size = _; simp
      have LA : Hid (Lw w.heap.size w.heap.size n w WA rs) := LV.out.below hA
      have HSa : WA.cell? ⟨b, o + k * 2, none⟩ = some (.int .i64 pb) ∧ WA.cell? ⟨w.heap.size, x, none⟩ = some (.slice a1 rn c1) := ⟨(hA.cell (p := ⟨b, o + k * 2, none⟩) HLi.out.1).trans HSr.1, (LA.out.cell HRX.out).1⟩
      rw [hWA]
      clear hWA
      refine hK.out _ _ (fun _ => HSa) ?_
      clear hK K
      try simp only [Act.put, List.setIfInBounds_toArray, List.set_cons_zero, List.set_cons_succ]
      refine wpAnyG_one (i := 13) (by kernel_rfl) rfl (fun K hK0 => ?_)
      have hK : Hid _ := hK0
      clear hK0
      refine step_append_lies _ (by rfl) _ _ _ (by rfl) w.heap.size 3 i1 (.int .i64 0) 1 8 Try.underlying24 hi1 hy0 hy1 hy2 rfl (by omega) (.slice a1 rn c1) rn rx (by rfl) (LA.out.she.get HRX.out) ⟨wr.heap.size, 0, none⟩ 1 1 [Value.int .i64 pb] (by rfl) (by rfl) HNW.out (by intro u hu; simp at hu; subst hu; rfl) (by omega) (by unfold maxLen; omega) (by omega) LA.out.base (wr.heap.size + 1) HZA.out ?_
      intro gg cp w9 hown9 hgrow9 hat9 hlt9
      have hrb : (Value.slice a1 rn c1).ownBlock ≠ some b := fun h => by
        have h1 := (LV.out.she.get HRX.out).lt b h
        have h2 := HBW.out
        omega
      have hrV : (Value.slice a1 rn c1).ownBlock ≠ some w.heap.size := fun h => own_otherR LV.out.she.outV (LV.out.she.get HRX.out) (by decide) h rfl
      have hVl : w.heap.size < WA.heap.size := (LA.out.she.outV.lt w.heap.size rfl).2
      have hbl : b < WA.heap.size := by have := HBW.out; omega
      have cv9 : w9.cell? ⟨w.heap.size, x, none⟩ = some (.slice a1 rn c1) := (hgrow9.cell_far ⟨w.heap.size, x, none⟩ hVl (fun e => hrV e.symm)).trans HSa.2
      have fv9 : w9.frozen? ⟨w.heap.size, x, none⟩ = false := (hgrow9.frozen_far ⟨w.heap.size, x, none⟩ hVl (fun e => hrV e.symm)).trans (LA.out.cell HRX.out).2
      have HS9 : w9.cell? ⟨b, o + k * 2, none⟩ = some (.int .i64 pb) ∧ w9.cell? ⟨w.heap.size, x, none⟩ = some (.slice a1 rn c1) := ⟨(hgrow9.cell_far ⟨b, o + k * 2, none⟩ hbl (fun e => hrb e.symm)).trans HSa.1, cv9⟩
      have L9 : Hid (Lw w.heap.size w.heap.size n w (w9.setCell ⟨w.heap.size, x, none⟩ (.slice (some ⟨gg, 0, none⟩) (rn + 1) cp)) (rs.set x ⟨.slice (some ⟨gg, 0, none⟩) (rn + 1) cp, rn + 1, rx ++ [Value.int .i64 pb]⟩)) := LA.out.put HRX.out hown9 hgrow9 (hat9.elim (fun h => .inl h.symm) (fun h => .inr (by rw [h, HZA.out]; rfl)))
      clear hown9 hgrow9 hat9 hlt9
      refine hK.out _ _ (fun _ => HS9) ?_
      clear hK K
      try simp only [Act.put, List.setIfInBounds_toArray, List.set_cons_zero, List.set_cons_succ]
      refine wpAnyG_one (i := 14) (by kernel_rfl) rfl (fun K hK0 => ?_)
      have hK : Hid _ := hK0
      clear hK0
      go_simp
      refine hK.out _ _ (fun _ => HS9) ?_
      clear hK K
      try simp only [Act.put, List.setIfInBounds_toArray, List.set_cons_zero, List.set_cons_succ]
      refine wpAnyG_one (i := 15) (by kernel_rfl) rfl (fun K hK0 => ?_)
      have hK : Hid _ := hK0
      clear hK0
      go_simp
      refine hK.out _ _ (fun h => Bool.noConfusion (show true = false from h)) ?_
      clear hK K
      try simp only [Act.put, List.setIfInBounds_toArray, List.set_cons_zero, List.set_cons_succ]
      refine wpAnyG_done (by kernel_rfl) ?_ _
      go_wp2
      go_roundg (ps.length - (k + 1))
      case measure => omega
      case rel =>
        refine ⟨k + 1, _, rfl, by go_num, by omega, L9.out, ?_⟩
        have h9 := HA.out.more HRX.out (.slice (some ⟨gg, 0, none⟩) (rn + 1) cp) pb
        rw [List.take_add_one, List.getElem?_map, HP.out]
        exact h9
    · have hkp' : ¬ (k : Int) < (ps.length : Int) := by omega
      have HA2 : Hid (Ad .i64 (ps.map swapP) rs) := by unfold Hid; have h9 := HA.out; rw [List.take_of_length_le (by first | omega | (rw [List.length_map]; omega))] at h9; exact h9
      go_wp2
      go_ret
      exact ⟨rfl, rs, LV.out, HA2.out⟩
end Go.Proofs.Ytgijcbipnjmhgab
