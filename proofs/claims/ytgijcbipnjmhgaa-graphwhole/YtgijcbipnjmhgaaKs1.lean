import Derived.Test.YtgijcbipnjmhgaaLu0
import Derived.Test.YtgijcbipnjmhgaaKs0
import Derived.Test.YtgijcbipnjmhgaaGs1
namespace Go.Proofs.Ytgijcbipnjmhgaa
open Go.ChangeShapes Go.WideShapes Go.ChangeAt Go.RowKit
set_option linter.unusedVariables false
set_option linter.unusedSimpArgs false

theorem own_same {B e s n : Nat} {w w' : World} {v : Value} {xs : List Value} (h : w.ownsRow B e s v n xs) (hk : ∀ g, v.ownBlock = some g → w'.heap[g]? = w.heap[g]?) : w'.ownsRow B e s v n xs :=
  ⟨h.1, h.2.imp id (fun ⟨g, cap, cur, hv, hbase, hb, rest⟩ => ⟨g, cap, cur, hv, hbase, (hk g (by rw [hv]; rfl)).trans hb, rest⟩)⟩
/-- lists that are read: a row of rows, all below B -/
structure Rl (B : Nat) (w : World) (gV n : Nat) (N : Nat → List Int) : Prop where
  lt : gV < B
  row : ∀ x, x < n → ∃ a c, w.cell? ⟨gV, x, none⟩ = some (.slice a (N x).length c) ∧ (0 < (N x).length → ∃ g, a = some ⟨g, 0, none⟩ ∧ g < B ∧ ∀ j y, (N x)[j]? = some y → w.cell? ⟨g, j, none⟩ = some (.int .i32 y))
theorem Rl.below {B gV n : Nat} {w w' : World} {N : Nat → List Int} (h : Rl B w gV n N) (hb : Below B w w') : Rl B w' gV n N :=
  ⟨h.lt, fun x hx => by
    obtain ⟨a, c, h1, h2⟩ := h.row x hx
    refine ⟨a, c, (hb.cell (p := ⟨gV, x, none⟩) h.lt).trans h1, fun h0 => ?_⟩
    obtain ⟨g, e, hg, h3⟩ := h2 h0
    exact ⟨g, e, hg, fun j y hj => (hb.cell (p := ⟨g, j, none⟩) hg).trans (h3 j y hj)⟩⟩
/-- lineUp's world: the heap in its box, what is missing, what stands in line -/
structure Lw2 (B b gm n : Nat) (w : World) (V : Value) (xs ms : List Int) (O : Value) (os : List Int) : Prop where
  hq : Hq B b w V xs
  mi : w.ownsRow B 3 1 (.slice (some ⟨gm, 0, none⟩) n n) n (flat ms)
  ou : w.ownsRow B 3 1 O os.length (flat os)
  d1 : V.ownBlock ≠ some gm
  d2 : O.ownBlock ≠ some gm
  d3 : ∀ g, V.ownBlock = some g → O.ownBlock ≠ some g
theorem Lw2.below {B b gm n : Nat} {w w' : World} {V O : Value} {xs ms os : List Int} (h : Lw2 B b gm n w V xs ms O os) (hb : Below w.heap.size w w') : Lw2 B b gm n w' V xs ms O os :=
  ⟨h.hq.below hb, own_belowR h.mi hb (Nat.le_refl _), own_belowR h.ou hb (Nat.le_refl _), h.d1, h.d2, h.d3⟩
theorem Lw2.mlen {B b gm n : Nat} {w : World} {V O : Value} {xs ms os : List Int} (h : Lw2 B b gm n w V xs ms O os) : ms.length = n := by
  have := h.mi.1
  rw [flat_length] at this
  exact Nat.eq_of_mul_eq_mul_right (by decide) this
theorem Lw2.bgm {B b gm n : Nat} {w : World} {V O : Value} {xs ms os : List Int} (h : Lw2 B b gm n w V xs ms O os) : b ≠ gm := h.hq.box.neR h.mi (by decide) rfl
theorem Lw2.heap {B b gm n : Nat} {w w' : World} {V V' O : Value} {xs xs' ms os : List Int} (h : Lw2 B b gm n w V xs ms O os) (hq : Hq B b w' V' xs') (hn : Nb w V V') (hm : Mv B b V.ownBlock w w') : Lw2 B b gm n w' V' xs' ms O os := by
  have hg := (h.mi.lt gm rfl).2
  have hlt : ∀ g, O.ownBlock = some g → g < w.heap.size := fun g e => (h.ou.lt g e).2
  refine ⟨hq, own_same h.mi (fun g e => ?_), own_same h.ou (fun g e => hm.keep g (hlt g e) (fun e2 => ?_) (fun e2 => h.d3 g e2.symm e)), ?_, h.d2, ?_⟩
  · cases e
    exact hm.keep gm hg (fun e2 => h.bgm e2.symm) (fun e2 => h.d1 e2.symm)
  · exact h.hq.box.neR h.ou (by decide) e e2.symm
  · rcases hn with e | ⟨g, e, hg2⟩
    · rw [e]; exact h.d1
    · rw [e]; intro e2; injection e2; omega
  · rcases hn with e | ⟨g, e, hg2⟩
    · rw [e]; exact h.d3
    · rw [e]
      intro g' e2 e3
      injection e2 with e2
      have := hlt g' e3
      omega
theorem Lw2.get {B b gm n : Nat} {w : World} {V O : Value} {xs ms os : List Int} (h : Lw2 B b gm n w V xs ms O os) {y : Nat} (hy : y < n) : w.cell? ⟨gm, y, none⟩ = some (.int .i64 ms[y]!) ∧ w.frozen? ⟨gm, y, none⟩ = false := by
  have hl := h.mlen
  have h1 := h.mi.cells rfl y (.int .i64 ms[y]!) (by rw [flat_at, List.getElem?_eq_getElem (by omega), getElem!_pos ms y (by omega)]; rfl)
  rw [addr_add, Nat.zero_add] at h1
  refine ⟨h1, ?_⟩
  rcases h.mi.2 with ⟨hv, h0⟩ | ⟨g, c, cur, hv, hg, hh, h1, hm, hs, hx⟩
  · cases hv
  · cases hv
    simp [World.frozen?, hh]
theorem Lw2.set {B b gm n : Nat} {w : World} {V O : Value} {xs ms os : List Int} (h : Lw2 B b gm n w V xs ms O os) (y : Nat) (x : Int) : Lw2 B b gm n (w.setCell ⟨gm, y, none⟩ (.int .i64 x)) V xs (ms.set y x) O os := by
  refine ⟨⟨h.hq.box.other ⟨gm, y, none⟩ h.bgm _, ownsRow_setCell_other h.hq.row (a := ⟨gm, y, none⟩) h.d1 _, h.hq.le⟩, ?_, ownsRow_setCell_other h.ou (a := ⟨gm, y, none⟩) h.d2 _, h.d1, h.d2, h.d3⟩
  have := (World.ownsRow.stored h.mi y (.int .i64 x)).1
  rw [← flat_setI]
  exact this
theorem Lw2.out {B b gm n : Nat} {w w' : World} {V O O' : Value} {xs ms os os' : List Int} (h : Lw2 B b gm n w V xs ms O os) (ho : w'.ownsRow B 3 1 O' os'.length (flat os')) (hg : w.grownBy w' O.ownBlock) (hn : O'.ownBlock = O.ownBlock ∨ ∃ g, O'.ownBlock = some g ∧ w.heap.size ≤ g) : Lw2 B b gm n w' V xs ms O' os' := by
  have hbo : O.ownBlock ≠ some b := fun e => h.hq.box.neR h.ou (by decide) e rfl
  have hlt : ∀ g, V.ownBlock = some g → g < w.heap.size := fun g e => (h.hq.row.lt g e).2
  have hgm := (h.mi.lt gm rfl).2
  refine ⟨⟨h.hq.box.grw hg hbo, own_same h.hq.row (fun g e => hg.block g (hlt g e) (fun e2 => h.d3 g e e2.symm)), h.hq.le⟩, own_same h.mi (fun g e => ?_), ho, h.d1, ?_, ?_⟩
  · cases e
    exact hg.block gm hgm (fun e2 => h.d2 e2.symm)
  · rcases hn with e | ⟨g, e, hg2⟩
    · rw [e]; exact h.d2
    · rw [e]; intro e2; injection e2; omega
  · rcases hn with e | ⟨g, e, hg2⟩
    · rw [e]; exact h.d3
    · rw [e]
      intro g' e2 e3
      injection e3 with e3
      have := hlt g' e2
      omega
theorem Lw2.ready {B b gm n : Nat} {w w' : World} {V V' O : Value} {xs xs' ms os : List Int} (h : Lw2 B b gm n w V xs ms O os) (ho : w'.ownsRow B 3 1 V' xs'.length (flat xs')) (hg : w.grownBy w' V.ownBlock) (hn : Nb w V V') : Lw2 B b gm n (w'.setCell ⟨b, 0, none⟩ V') V' xs' ms O os := by
  have hbV : V.ownBlock ≠ some b := fun e => h.hq.box.neR h.hq.row (by decide) e rfl
  have X' : Bx w' b #[V] 68 := h.hq.box.grw hg hbV
  have hb' : V'.ownBlock ≠ some b := fun e => X'.neR ho (by decide) e rfl
  have hlt := h.hq.box.lt
  have hle := h.hq.le
  refine h.heap ⟨X'.set 0 V', ownsRow_setCell_other ho (a := ⟨b, 0, none⟩) hb' _, h.hq.le⟩ hn ⟨fun k hk hkb hg2 => (heap_setCell_other _ _ _ _ hkb).trans (hg.block k hk hg2), ?_⟩
  exact ((Below.refl B w).grown hg (by omega) (fun g e => (h.hq.row.lt g e).1)).setCell (p := ⟨b, 0, none⟩) h.hq.le _
theorem Nb.at {w w1 : World} {V V' : Value} (h : V.ownBlock = V'.ownBlock ∨ V'.ownBlock = some w1.heap.size) (hs : w.heap.size ≤ w1.heap.size) : Nb w V V' := h.imp Eq.symm (fun e => ⟨_, e, hs⟩)
end Go.Proofs.Ytgijcbipnjmhgaa

namespace Go.Proofs.Ytgijcbipnjmhgaa
set_option linter.unusedVariables false
set_option linter.unusedSimpArgs false

/-- one part: each comes to the other -/
def Sam (ps : List Pr) (x y : Nat) : Prop := Rch ps x y ∧ Rch ps y x
/-- the lowest of a part -/
def Low (ps : List Pr) (x z : Nat) : Prop := Sam ps x z ∧ ∀ y, Sam ps x y → z ≤ y
/-- the lists of one way, as pairs -/
abbrev Lst (n : Nat) (ps : List Pr) (N : Nat → List Int) : Prop := ∀ x : Nat, x < n → (N x).length ≤ 131072 ∧ ∀ y, y ∈ N x ↔ (⟨(x : Int), y⟩ : Pr) ∈ ps
/-- the pairs turned -/
abbrev Trn (ps qs : List Pr) : Prop := ∀ x y : Int, (⟨x, y⟩ : Pr) ∈ qs ↔ (⟨y, x⟩ : Pr) ∈ ps
theorem Sam.symm {ps : List Pr} {x y : Nat} (h : Sam ps x y) : Sam ps y x := ⟨h.2, h.1⟩
theorem Sam.trans {ps : List Pr} {x y z : Nat} (h : Sam ps x y) (k : Sam ps y z) : Sam ps x z := ⟨h.1.trans k.1, k.2.trans h.2⟩
theorem Rch.turn {ps qs : List Pr} (hq : Trn ps qs) {x y : Nat} (h : Rch qs x y) : Rch ps y x := by
  induction h with
  | refl x => exact .refl x
  | step e _ ih => exact ih.trans (.step ((hq _ _).1 e) (.refl _))
theorem Rch.back {ps qs : List Pr} (hq : Trn ps qs) {x y : Nat} (h : Rch ps y x) : Rch qs x y := h.turn (fun x y => (hq y x).symm)
theorem told_all {ps : List Pr} {P : Nat → Prop} {n : Nat} {m : List Bool} {t : List Nat} (h : Dk ps P (List.replicate n false) [] m t) (hm : ∀ y : Nat, y < n → m[y]? = some true) : t.Nodup ∧ (∀ y, y ∈ t ↔ y < n) ∧ Fnl ps t := by
  obtain ⟨s, e, hn, hy, hz⟩ := h.told
  obtain ⟨s', e', ho⟩ := h.od
  rw [List.nil_append] at e e'
  subst e'
  subst e
  refine ⟨hn, fun y => ⟨fun hy' => ?_, fun hy' => ?_⟩, ho.fin⟩
  · have := (List.getElem?_eq_some_iff.1 (hy y hy').1).1
    simpa using this
  · rcases hz y (hm y hy') with h1 | h1
    · rw [List.getElem?_replicate] at h1; split at h1 <;> cases h1
    · exact h1
/-- the parts that are known -/
structure Ki (ps : List Pr) (pre : List Nat) (m : List Bool) (ls : List Int) : Prop where
  clo : ∀ u v : Nat, (⟨(u : Int), (v : Int)⟩ : Pr) ∈ ps → m[v]? = some true → m[u]? = some true
  all : ∀ x ∈ pre, m[x]? = some true
  low : ∀ y : Nat, m[y]? = some true → ∃ z : Nat, ls[y]? = some (z : Int) ∧ Low ps y z
theorem Ki.start (ps : List Pr) (n : Nat) (ls : List Int) : Ki ps [] (List.replicate n false) ls := by
  have : ∀ y : Nat, (List.replicate n false)[y]? ≠ some true := fun y h => by rw [List.getElem?_replicate] at h; split at h <;> cases h
  exact ⟨fun u v _ h => absurd h (this v), fun x h => by simp at h, fun y h => absurd h (this y)⟩
theorem Ki.rch {ps : List Pr} {pre : List Nat} {m : List Bool} {ls : List Int} (h : Ki ps pre m ls) {x y : Nat} (hr : Rch ps x y) (hy : m[y]? = some true) : m[x]? = some true := by
  induction hr with
  | refl => exact hy
  | step e _ ih => exact h.clo _ _ e (ih hy)
/-- what a walk against the edges comes to: the part -/
theorem Ki.part {ps qs : List Pr} {n x : Nat} {t pre p0 s : List Nat} {m m' : List Bool} {ls : List Int} (hq : Trn ps qs) (hps : ∀ p ∈ ps, 0 ≤ p.b ∧ p.b < (n : Int)) (h : Ki ps pre m ls) (hml : m.length = n) (ht : t.Nodup) (hta : ∀ y, y ∈ t ↔ y < n) (hf : Fnl ps t) (e : t = p0 ++ x :: pre.reverse) (hd : Dq qs (Rch qs x) m [] m' s) (hx : m'[x]? = some true) :
    (∀ y ∈ s, Sam ps x y) ∧ (∀ u v : Nat, (⟨(u : Int), (v : Int)⟩ : Pr) ∈ ps → m'[v]? = some true → m'[u]? = some true) ∧ (∀ y : Nat, m'[y]? = some true → m[y]? = some true ∨ y ∈ s) ∧ (∀ y ∈ s, m[y]? = some false) ∧ ∀ y ∈ s, ∀ y', Sam ps y y' → y' ∈ s := by
  obtain ⟨s', es, hn, hy, hz⟩ := hd.told
  rw [List.nil_append] at es
  subst es
  have hclo : ∀ u v : Nat, (⟨(u : Int), (v : Int)⟩ : Pr) ∈ ps → m'[v]? = some true → m'[u]? = some true := fun u v he hv => by
    have hvl : v < m.length := by have := (List.getElem?_eq_some_iff.1 hv).1; rw [hd.len] at this; exact this
    cases hm : m[v] with
    | false => exact hd.closed v u (by rw [List.getElem?_eq_getElem hvl, hm]) hv ((hq _ _).2 he)
    | true => exact hd.mono u (h.clo u v he (by rw [List.getElem?_eq_getElem hvl, hm]))
  have hrch : ∀ {a b : Nat}, Rch ps a b → m'[b]? = some true → m'[a]? = some true := fun {a b} hr hb => by
    induction hr with
    | refl => exact hb
    | step e _ ih => exact hclo _ _ e (ih hb)
  have hsam : ∀ y ∈ s, Sam ps x y := fun y hys => by
    obtain ⟨h1, h2⟩ := hy y hys
    have hyx : Rch ps y x := by
      rcases hd.reach y h2 with h3 | h3
      · exact (tf h3 h1).elim
      · exact h3.turn hq
    refine ⟨kos (M := fun v => m[v]? = some true) ht hf e ?_ h.clo ?_ ?_ ?_ hyx, hyx⟩
    · intro u v he
      have := hps _ he
      simp only at this
      exact (hta v).2 (by omega)
    · intro v hv
      exact h.all v (List.mem_reverse.1 hv)
    · have := (List.getElem?_eq_some_iff.1 h1).1
      exact (hta y).2 (by omega)
    · intro h3
      exact tf h3 h1
  refine ⟨hsam, hclo, hz, fun y hys => (hy y hys).1, fun y hys y' hyy => ?_⟩
  have hxy := (hsam y hys).trans hyy
  rcases hz y' (hrch hxy.2 hx) with h3 | h3
  · exact (tf (h.rch hyy.1 h3) (hy y hys).1).elim
  · exact h3
theorem Ki.step {ps qs : List Pr} {n x z0 : Nat} {t pre p0 s : List Nat} {m m' : List Bool} {ls ls' : List Int} (hq : Trn ps qs) (hps : ∀ p ∈ ps, 0 ≤ p.b ∧ p.b < (n : Int)) (h : Ki ps pre m ls) (hml : m.length = n) (ht : t.Nodup) (hta : ∀ y, y ∈ t ↔ y < n) (hf : Fnl ps t) (e : t = p0 ++ x :: pre.reverse) (hd : Dq qs (Rch qs x) m [] m' s) (hx : m'[x]? = some true) (hz0 : ∀ y ∈ s, z0 ∈ s ∧ z0 ≤ y) (hl1 : ∀ y ∈ s, ls'[y]? = some (z0 : Int)) (hl2 : ∀ y : Nat, y ∉ s → ls'[y]? = ls[y]?) : Ki ps (pre ++ [x]) m' ls' := by
  obtain ⟨h1, h2, h3, h4, h5⟩ := h.part hq hps hml ht hta hf e hd hx
  refine ⟨h2, fun y hy => ?_, fun y hy => ?_⟩
  · rcases List.mem_append.1 hy with hy | hy
    · exact hd.mono y (h.all y hy)
    · rw [List.mem_singleton] at hy; subst hy; exact hx
  · by_cases hys : y ∈ s
    · refine ⟨z0, hl1 y hys, (h1 y hys).symm.trans (h1 z0 (hz0 y hys).1), fun y' hyy => (hz0 y' (h5 y hys y' hyy)).2⟩
    · rcases h3 y hy with h6 | h6
      · rw [hl2 y hys]; exact h.low y h6
      · exact absurd h6 hys
theorem Ki.done {ps : List Pr} {n : Nat} {t : List Nat} {m : List Bool} {ls : List Int} (h : Ki ps t.reverse m ls) (hta : ∀ y, y ∈ t ↔ y < n) (y : Nat) (hy : y < n) : ∃ z : Nat, ls[y]? = some (z : Int) ∧ Low ps y z :=
  h.low y (h.all y (List.mem_reverse.2 ((hta y).2 hy)))
end Go.Proofs.Ytgijcbipnjmhgaa
