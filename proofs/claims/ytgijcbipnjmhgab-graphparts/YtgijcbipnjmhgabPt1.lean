import Derived.Test.YtgijcbipnjmhgabLu2
import Derived.Test.YtgijcbipnjmhgabLo1
import Derived.Test.YtgijcbipnjmhgabGc1
namespace Go.Proofs.Ytgijcbipnjmhgab
open Go.ChangeShapes Go.WideShapes Go.ChangeAt Go.RowKit
set_option linter.unusedVariables false
set_option linter.unusedSimpArgs false

def unI : Value → Int
  | .int _ y => y
  | _ => 0
/-- the numbers of the lists -/
def nOf (rs : List Rr) (x : Nat) : List Int := ((rs[x]?).map fun r => r.xs.map unI).getD []
/-- lists of one way: each rises, and holds just what is needed -/
abbrev LstR (n : Nat) (ps : List Pr) (N : Nat → List Int) : Prop := ∀ x : Nat, x < n → (N x).Pairwise (· < ·) ∧ ∀ y, y ∈ N x ↔ (⟨(x : Int), y⟩ : Pr) ∈ ps
theorem unI_map (ys : List Int) (K : IntKind) : (ys.map (Value.int K)).map unI = ys := by
  rw [List.map_map]
  conv => rhs; rw [← List.map_id ys]
  rfl
theorem lists_rl {B gV n : Nat} {w0 w : World} {rs : List Rr} {ps : List Pr} (h : Lv B gV n w0 w rs) (ha : Ad .i32 ps rs) (hu : Ups n rs) : Rl w.heap.size w gV n (nOf rs) ∧ LstR n ps (nOf rs) := by
  have key : ∀ x, x < n → ∃ r ys, rs[x]? = some r ∧ nOf rs x = ys ∧ r.n = ys.length ∧ r.xs = ys.map (Value.int .i32) ∧ ys.Pairwise (· < ·) ∧ ∀ y, y ∈ ys ↔ (⟨(x : Int), y⟩ : Pr) ∈ ps := fun x hx => by
    obtain ⟨r, hr⟩ : ∃ r, rs[x]? = some r := ⟨_, List.getElem?_eq_getElem (by rw [h.len]; exact hx)⟩
    obtain ⟨ys, h1, h2, -, h4⟩ := ha x r hr
    obtain ⟨zs, h5, h6⟩ := hu x r hx hr
    have hyz : ys = zs := by rw [← unI_map ys .i32, ← unI_map zs .i32, ← h2, ← h5]
    subst hyz
    exact ⟨r, ys, hr, by unfold nOf; rw [hr, Option.map_some, Option.getD_some, h2, unI_map], h1, h2, h6, h4⟩
  refine ⟨⟨(h.she.outV.lt gV rfl).2, fun x hx => ?_⟩, fun x hx => ?_⟩
  · obtain ⟨r, ys, hr, e, h1, h2, -, -⟩ := key x hx
    have ho := h.she.get hr
    obtain ⟨a, c, hv, hav, -⟩ := own_slice ho
    rw [e]
    refine ⟨a, c, by rw [(h.cell hr).1, hv, h1], fun h0 => ?_⟩
    obtain ⟨g, rfl⟩ := hav (by omega)
    refine ⟨g, rfl, (ho.lt g (by rw [hv]; rfl)).2, fun j y hj => ?_⟩
    rw [hv, h2] at ho
    have h8 := ho.cells rfl j (.int .i32 y) (by rw [List.getElem?_map, hj]; rfl)
    rwa [addr_add, Nat.zero_add] at h8
  · obtain ⟨r, ys, hr, e, -, -, h3, h4⟩ := key x hx
    rw [e]
    exact ⟨h3, h4⟩
theorem listsR_any (n cap : Nat) (a : Option Addr) (ps : List Pr) (w : World) (hL : LiesA w a ps) (hn : n ≤ 131072) (hm : ps.length ≤ 17592186044416) (hr : ∀ p ∈ ps, (0 ≤ p.a ∧ p.a < (n : Int)) ∧ (0 ≤ p.b ∧ p.b < (n : Int))) :
    Calls Try.prog 18 #[.int .i64 (n : Int), .slice a ps.length cap] w fun e w' => e = .returned (.slice (some ⟨w.heap.size, 0, none⟩) n n) ∧ Below w.heap.size w w' ∧ ∃ N, Rl w'.heap.size w' w.heap.size n N ∧ LstR n ps N :=
  (listsS_any n cap a ps w hL hn hm hr).mono fun e w' ⟨h1, rs, h2, h3, h4⟩ => ⟨h1, h2.bel, nOf rs, lists_rl h2 h3 h4⟩
theorem pw_nodup {l : List Int} (h : l.Pairwise (· < ·)) : l.Nodup := h.imp (fun h => by omega)
theorem LstR.lst {n : Nat} {ps : List Pr} {N : Nat → List Int} (h : LstR n ps N) (hn : n ≤ 131072) (hps : ∀ p ∈ ps, 0 ≤ p.b ∧ p.b < (n : Int)) : Lst n ps N := fun x hx =>
  ⟨Nat.le_trans (nodup_le (pw_nodup (h x hx).1) (fun y hy => hps _ (((h x hx).2 y).1 hy))) hn, (h x hx).2⟩
theorem LstR.bth {n : Nat} {ps qs : List Pr} {N D : Nat → List Int} (h : LstR n ps N) (k : LstR n qs D) (hq : Trn ps qs) (hps : ∀ p ∈ ps, (0 ≤ p.a ∧ p.a < (n : Int)) ∧ (0 ≤ p.b ∧ p.b < (n : Int))) : Bth N D n := by
  refine ⟨fun x hx => pw_nodup (h x hx).1, fun x hx => pw_nodup (k x hx).1, fun x hx z hz => (hps _ (((h x hx).2 z).1 hz)).2, fun x hx y => ?_⟩
  rw [(k x hx).2, hq]
  constructor
  · intro he
    have h1 := (hps _ he).1
    simp only at h1
    refine ⟨h1.1, h1.2, ((h y.toNat (by omega)).2 x).2 ?_⟩
    rw [show ((y.toNat : Nat) : Int) = y by omega]
    exact he
  · rintro ⟨h1, h2, h3⟩
    have h4 := ((h y.toNat (by omega)).2 x).1 h3
    rwa [show ((y.toNat : Nat) : Int) = y by omega] at h4
theorem trn_swap (ps : List Pr) : Trn ps (ps.map swapP) := fun x y => by
  rw [List.mem_map]
  constructor
  · rintro ⟨⟨a, b⟩, h, e⟩
    simp only [swapP, Pr.mk.injEq] at e
    obtain ⟨rfl, rfl⟩ := e
    exact h
  · intro h
    exact ⟨_, h, rfl⟩
end Go.Proofs.Ytgijcbipnjmhgab

namespace Go.Proofs.Ytgijcbipnjmhgab
set_option linter.unusedVariables false
set_option linter.unusedSimpArgs false
open Classical in
/-- how many can be come to -/
noncomputable def cntR (ps : List Pr) (n x : Nat) : Nat := ((List.range n).filter fun y => decide (Rch ps x y)).length
theorem filter_lt {α : Type} {l : List α} {P Q : α → Bool} (h : ∀ y, P y = true → Q y = true) (hx : ∃ y ∈ l, Q y = true ∧ P y = false) : (l.filter P).length < (l.filter Q).length := by
  induction l with
  | nil => obtain ⟨y, hy, -⟩ := hx; cases hy
  | cons a l ih =>
    have hle : ∀ l : List α, (l.filter P).length ≤ (l.filter Q).length := fun l => by
      induction l with
      | nil => exact Nat.le_refl _
      | cons a l ih =>
        cases hp : P a
        · cases hq : Q a
          · rw [List.filter_cons_of_neg (by simp [hp]), List.filter_cons_of_neg (by simp [hq])]; exact ih
          · rw [List.filter_cons_of_neg (by simp [hp]), List.filter_cons_of_pos hq, List.length_cons]; omega
        · rw [List.filter_cons_of_pos hp, List.filter_cons_of_pos (h a hp), List.length_cons, List.length_cons]; omega
    obtain ⟨y, hy, hq, hp⟩ := hx
    rcases List.mem_cons.1 hy with rfl | hy
    · rw [List.filter_cons_of_neg (by simp [hp]), List.filter_cons_of_pos hq, List.length_cons]
      have := hle l
      omega
    · have ih := ih ⟨y, hy, hq, hp⟩
      cases hpa : P a
      · cases hqa : Q a
        · rw [List.filter_cons_of_neg (by simp [hpa]), List.filter_cons_of_neg (by simp [hqa])]; exact ih
        · rw [List.filter_cons_of_neg (by simp [hpa]), List.filter_cons_of_pos hqa, List.length_cons]; omega
      · rw [List.filter_cons_of_pos hpa, List.filter_cons_of_pos (h a hpa), List.length_cons, List.length_cons]; omega
theorem Sam.refl (ps : List Pr) (x : Nat) : Sam ps x x := ⟨.refl x, .refl x⟩
/-- the edges between the parts, each by its lowest thing -/
def btw (lw : Nat → Nat) (ps : List Pr) : List Pr := (ps.filter fun p => decide (lw p.a.toNat ≠ lw p.b.toNat)).map fun p => ⟨(lw p.a.toNat : Int), (lw p.b.toNat : Int)⟩
theorem mem_btw {lw : Nat → Nat} {ps : List Pr} {x y : Int} : (⟨x, y⟩ : Pr) ∈ btw lw ps ↔ ∃ p ∈ ps, lw p.a.toNat ≠ lw p.b.toNat ∧ x = (lw p.a.toNat : Int) ∧ y = (lw p.b.toNat : Int) := by
  unfold btw
  rw [List.mem_map]
  constructor
  · rintro ⟨p, hp, e⟩
    rw [List.mem_filter] at hp
    injection e with e1 e2
    exact ⟨p, hp.1, by simpa using hp.2, e1.symm, e2.symm⟩
  · rintro ⟨p, hp, hne, rfl, rfl⟩
    exact ⟨p, List.mem_filter.2 ⟨hp, by simpa using hne⟩, rfl⟩
/-- lw tells the lowest of each part -/
structure Lws (ps : List Pr) (n : Nat) (lw : Nat → Nat) : Prop where
  low : ∀ y, y < n → Low ps y (lw y)
  rng : ∀ p ∈ ps, (0 ≤ p.a ∧ p.a < (n : Int)) ∧ (0 ≤ p.b ∧ p.b < (n : Int))
theorem Lws.eq {ps : List Pr} {n : Nat} {lw : Nat → Nat} (h : Lws ps n lw) {x y : Nat} (hx : x < n) (hy : y < n) : lw x = lw y ↔ Sam ps x y := by
  constructor
  · intro e
    have h1 := (h.low x hx).1
    rw [e] at h1
    exact h1.trans (h.low y hy).1.symm
  · intro hs
    have h1 := (h.low x hx).2 _ (hs.trans (h.low y hy).1)
    have h2 := (h.low y hy).2 _ (hs.symm.trans (h.low x hx).1)
    omega
theorem Lws.lt {ps : List Pr} {n : Nat} {lw : Nat → Nat} (h : Lws ps n lw) {x : Nat} (hx : x < n) : lw x < n := by
  have := (h.low x hx).2 x (Sam.refl ps x)
  omega
theorem Lws.idem {ps : List Pr} {n : Nat} {lw : Nat → Nat} (h : Lws ps n lw) {x : Nat} (hx : x < n) : lw (lw x) = lw x := (h.eq (h.lt hx) hx).2 (h.low x hx).1.symm
theorem Lws.btw_rng {ps : List Pr} {n : Nat} {lw : Nat → Nat} (h : Lws ps n lw) : ∀ p ∈ btw lw ps, (0 ≤ p.a ∧ p.a < (n : Int)) ∧ (0 ≤ p.b ∧ p.b < (n : Int)) := by
  rintro ⟨x, y⟩ hp0
  obtain ⟨p, hp, -, rfl, rfl⟩ := mem_btw.1 hp0
  have h1 := h.rng p hp
  have h2 := h.lt (x := p.a.toNat) (by omega)
  have h3 := h.lt (x := p.b.toNat) (by omega)
  simp only
  omega
open Classical in
/-- all are lined up: between the parts there is no cycle -/
theorem all_lined {ps : List Pr} {n : Nat} {lw : Nat → Nat} {N : Nat → List Int} {os : List Int} (h : Lws ps n lw) (hN : LstR n (btw lw ps) N) (hl : Ln N n os) : ∀ c x : Nat, x < n → cntR ps n x ≤ c → (x : Int) ∈ os := by
  intro c
  induction c using Nat.strongRecOn with
  | ind c ih =>
  intro x hx hc
  apply Classical.byContradiction
  intro hno
  have h1 := hl.no (x : Int)
  unfold Rdy at h1
  have h2 : ∃ z ∈ N x, z ∉ os := by
    apply Classical.byContradiction
    intro h3
    refine h1 ⟨by omega, by omega, hno, fun z hz => ?_⟩
    rw [show ((x : Int)).toNat = x by omega] at hz
    apply Classical.byContradiction
    intro h4
    exact h3 ⟨z, hz, h4⟩
  obtain ⟨z, hz, hzo⟩ := h2
  obtain ⟨p, hp, hne, ex, rfl⟩ := mem_btw.1 (((hN x hx).2 z).1 hz)
  have hr := h.rng p hp
  obtain ⟨u, hu⟩ : ∃ u : Nat, p.a.toNat = u := ⟨_, rfl⟩
  obtain ⟨v, hv⟩ : ∃ v : Nat, p.b.toNat = v := ⟨_, rfl⟩
  rw [hu] at hne ex
  rw [hv] at hne hzo
  have hun : u < n := by omega
  have hvn : v < n := by omega
  have hxu : x = lw u := by omega
  subst hxu
  have hedge : Rch ps u v := .step (by rw [← hu, ← hv, show ((p.a.toNat : Nat) : Int) = p.a by omega, show ((p.b.toNat : Nat) : Int) = p.b by omega]; exact hp) (.refl _)
  have hxz : Rch ps (lw u) (lw v) := ((h.low u hun).1.2.trans hedge).trans (h.low v hvn).1.1
  have hzx : ¬ Rch ps (lw v) (lw u) := fun hb => by
    have hs : Sam ps u v := (h.low u hun).1.trans (Sam.trans ⟨hxz, hb⟩ (h.low v hvn).1.symm)
    exact hne ((h.eq hun hvn).2 hs)
  have hlt : cntR ps n (lw v) < cntR ps n (lw u) := by
    unfold cntR
    refine filter_lt (fun y hy => ?_) ⟨lw u, List.mem_range.2 hx, ?_, ?_⟩
    · rw [decide_eq_true_eq] at hy ⊢; exact hxz.trans hy
    · rw [decide_eq_true_eq]; exact .refl _
    · rw [decide_eq_false_iff_not]; exact hzx
  exact hzo (ih (cntR ps n (lw v)) (by omega) (lw v) (h.lt hvn) (Nat.le_refl _))
/-- the things of a part -/
def mem1 (n : Nat) (lw : Nat → Nat) (z : Nat) : List Int := ((List.range n).filter fun y => decide (lw y = z)).map fun (x : Nat) => (x : Int)
theorem mem_mem1 {n : Nat} {lw : Nat → Nat} {z : Nat} {y : Int} : y ∈ mem1 n lw z ↔ ∃ x : Nat, y = (x : Int) ∧ x < n ∧ lw x = z := by
  unfold mem1
  rw [List.mem_map]
  constructor
  · rintro ⟨x, hx, rfl⟩
    rw [List.mem_filter, List.mem_range] at hx
    exact ⟨x, rfl, hx.1, by simpa using hx.2⟩
  · rintro ⟨x, rfl, h1, h2⟩
    exact ⟨x, List.mem_filter.2 ⟨List.mem_range.2 h1, by simpa using h2⟩, rfl⟩
theorem mem1_up (n : Nat) (lw : Nat → Nat) (z : Nat) : (mem1 n lw z).Pairwise (· < ·) := by
  unfold mem1
  rw [List.pairwise_map]
  exact (List.pairwise_lt_range.filter _).imp (by intro a b h; omega)
/-- the parts, as they are lined up -/
def pts (n : Nat) (lw : Nat → Nat) (os : List Int) : List (List Int) := (os.filter fun x => decide ((lw x.toNat : Int) = x)).map fun x => mem1 n lw x.toNat
/-- what Parts answers -/
structure Prt (ps : List Pr) (n : Nat) (pss : List (List Int)) : Prop where
  up : ∀ (i : Nat) p, pss[i]? = some p → p.Pairwise (· < ·) ∧ p ≠ [] ∧ ∀ y ∈ p, 0 ≤ y ∧ y < (n : Int)
  sam : ∀ (i : Nat) p (a b : Nat), pss[i]? = some p → (a : Int) ∈ p → ((b : Int) ∈ p ↔ b < n ∧ Sam ps a b)
  all : ∀ y : Nat, y < n → ∃ (i : Nat) (p : List Int), pss[i]? = some p ∧ (y : Int) ∈ p
  one : ∀ (i j : Nat) p q (y : Int), pss[i]? = some p → pss[j]? = some q → y ∈ p → y ∈ q → i = j
theorem pts_prt {ps : List Pr} {n : Nat} {lw : Nat → Nat} {N : Nat → List Int} {os : List Int} (h : Lws ps n lw) (hN : LstR n (btw lw ps) N) (hl : Ln N n os) : Prt ps n (pts n lw os) := by
  have key : ∀ (i : Nat) p, (pts n lw os)[i]? = some p → ∃ z : Nat, (os.filter fun x => decide ((lw x.toNat : Int) = x))[i]? = some (z : Int) ∧ z < n ∧ lw z = z ∧ p = mem1 n lw z := fun i p hp => by
    unfold pts at hp
    rw [List.getElem?_map] at hp
    obtain ⟨x, hx, e⟩ := Option.map_eq_some_iff.1 hp
    have hm := List.mem_of_getElem? hx
    rw [List.mem_filter] at hm
    have hr := hl.rng x hm.1
    have h2 : (lw x.toNat : Int) = x := by simpa using hm.2
    exact ⟨x.toNat, by rw [hx, show ((x.toNat : Nat) : Int) = x by omega], by omega, by omega, e.symm⟩
  refine ⟨fun i p hp => ?_, fun i p a b hp ha => ?_, fun y hy => ?_, fun i j p q y hp hq hyp hyq => ?_⟩
  · obtain ⟨z, -, h1, h2, rfl⟩ := key i p hp
    refine ⟨mem1_up _ _ _, fun e => ?_, fun y hy => ?_⟩
    · have : (z : Int) ∈ mem1 n lw z := mem_mem1.2 ⟨z, rfl, h1, h2⟩
      rw [e] at this
      cases this
    · obtain ⟨x, rfl, h3, -⟩ := mem_mem1.1 hy
      omega
  · obtain ⟨z, -, h1, h2, rfl⟩ := key i p hp
    obtain ⟨a', ea, h3, h4⟩ := mem_mem1.1 ha
    have ea' : a' = a := by omega
    subst ea'
    rw [mem_mem1]
    constructor
    · rintro ⟨b', eb, h5, h6⟩
      have eb' : b' = b := by omega
      subst eb'
      exact ⟨h5, (h.eq h3 h5).1 (by rw [h4, h6])⟩
    · rintro ⟨h5, h6⟩
      exact ⟨b, rfl, h5, by rw [← (h.eq h3 h5).2 h6, h4]⟩
  · have h1 := all_lined h hN hl _ (lw y) (h.lt hy) (Nat.le_refl _)
    have h2 : (lw y : Int) ∈ os.filter fun x => decide ((lw x.toNat : Int) = x) := List.mem_filter.2 ⟨h1, by rw [show ((lw y : Int)).toNat = lw y by omega, h.idem hy]; simp⟩
    obtain ⟨i, hi⟩ := List.getElem?_of_mem h2
    refine ⟨i, mem1 n lw (lw y), ?_, mem_mem1.2 ⟨y, rfl, hy, rfl⟩⟩
    unfold pts
    rw [List.getElem?_map, hi]
    simp
  · obtain ⟨z, hz, -, -, rfl⟩ := key i p hp
    obtain ⟨z', hz', -, -, rfl⟩ := key j q hq
    obtain ⟨x, rfl, h1, h2⟩ := mem_mem1.1 hyp
    obtain ⟨x', e, h3, h4⟩ := mem_mem1.1 hyq
    have ex : x' = x := by omega
    subst ex
    rw [← h2] at hz
    rw [← h4] at hz'
    have hnd : (os.filter fun x => decide ((lw x.toNat : Int) = x)).Nodup := hl.nod.filter _
    obtain ⟨l1, e1⟩ := List.getElem?_eq_some_iff.1 hz
    obtain ⟨l2, e2⟩ := List.getElem?_eq_some_iff.1 hz'
    have hpw := List.pairwise_iff_getElem.1 hnd
    rcases Nat.lt_trichotomy i j with hij | hij | hij
    · exact absurd (e1.trans e2.symm) (hpw i j l1 l2 hij)
    · exact hij
    · exact absurd (e2.trans e1.symm) (hpw j i l2 l1 hij)
end Go.Proofs.Ytgijcbipnjmhgab
