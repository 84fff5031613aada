import Derived.Test.YtgijcbipnjmhgabGreatReachesW
import Derived.Test.YtgijcbipnjmhgabGreatLo1
import Derived.Test.YtgijcbipnjmhgabGreatGc1
namespace Go.Proofs.YtgijcbipnjmhgabGreat
open Go.ChangeShapes Go.WideShapes Go.ChangeAt Go.RowKit
set_option linter.unusedVariables false
set_option linter.unusedSimpArgs false

def unI : Value → Int
  | .int _ y => y
  | _ => 0
/-- the numbers of the lists -/
def nOf (rs : List Rr) (x : Nat) : List Int := ((rs[x]?).map fun r => r.xs.map unI).getD []
/-- lists of one way: each rises, and holds just what is needed -/
abbrev LstR (n : Nat) (ps : List Pr) (N : Nat → List Int) : Prop := ∀ x : Nat, x < n → (N x).Pairwise (· < ·) ∧ ∀ y, y ∈ N x ↔ (⟨(x : Int), y⟩ : Pr) ∈ ps
theorem unI_map (ys : List Int) (K : IntKind) : (ys.map (Value.int K)).map unI = ys := by
  rw [List.map_map]
  conv => rhs; rw [← List.map_id ys]
  rfl
theorem lists_rl {B gV n : Nat} {w0 w : World} {rs : List Rr} {ps : List Pr} (h : Lv B gV n w0 w rs) (ha : Ad .i32 ps rs) (hu : Ups n rs) : Rl w.heap.size w gV n (nOf rs) ∧ LstR n ps (nOf rs) := by
  have key : ∀ x, x < n → ∃ r ys, rs[x]? = some r ∧ nOf rs x = ys ∧ r.n = ys.length ∧ r.xs = ys.map (Value.int .i32) ∧ ys.Pairwise (· < ·) ∧ ∀ y, y ∈ ys ↔ (⟨(x : Int), y⟩ : Pr) ∈ ps := fun x hx => by
    obtain ⟨r, hr⟩ : ∃ r, rs[x]? = some r := ⟨_, List.getElem?_eq_getElem (by rw [h.len]; exact hx)⟩
    obtain ⟨ys, h1, h2, -, h4⟩ := ha x r hr
    obtain ⟨zs, h5, h6⟩ := hu x r hx hr
    have hyz : ys = zs := by rw [← unI_map ys .i32, ← unI_map zs .i32, ← h2, ← h5]
    subst hyz
    exact ⟨r, ys, hr, by unfold nOf; rw [hr, Option.map_some, Option.getD_some, h2, unI_map], h1, h2, h6, h4⟩
  refine ⟨⟨(h.she.outV.lt gV rfl).2, fun x hx => ?_⟩, fun x hx => ?_⟩
  · obtain ⟨r, ys, hr, e, h1, h2, -, -⟩ := key x hx
    have ho := h.she.get hr
    obtain ⟨a, c, hv, hav, -⟩ := own_slice ho
    rw [e]
    refine ⟨a, c, by rw [(h.cell hr).1, hv, h1], fun h0 => ?_⟩
    obtain ⟨g, rfl⟩ := hav (by omega)
    refine ⟨g, rfl, (ho.lt g (by rw [hv]; rfl)).2, fun j y hj => ?_⟩
    rw [hv, h2] at ho
    have h8 := ho.cells rfl j (.int .i32 y) (by rw [List.getElem?_map, hj]; rfl)
    rwa [addr_add, Nat.zero_add] at h8
  · obtain ⟨r, ys, hr, e, -, -, h3, h4⟩ := key x hx
    rw [e]
    exact ⟨h3, h4⟩
theorem listsR_any (n cap : Nat) (a : Option Addr) (ps : List Pr) (w : World) (hL : LiesA w a ps) (hn : n ≤ 131072) (hm : ps.length ≤ 17592186044416) (hr : ∀ p ∈ ps, (0 ≤ p.a ∧ p.a < (n : Int)) ∧ (0 ≤ p.b ∧ p.b < (n : Int))) :
    Calls Tryz.prog 18 #[.int .i64 (n : Int), .slice a ps.length cap] w fun e w' => e = .returned (.slice (some ⟨w.heap.size, 0, none⟩) n n) ∧ Below w.heap.size w w' ∧ ∃ N, Rl w'.heap.size w' w.heap.size n N ∧ LstR n ps N :=
  (listsS_any n cap a ps w hL hn hm hr).mono fun e w' ⟨h1, rs, h2, h3, h4⟩ => ⟨h1, h2.bel, nOf rs, lists_rl h2 h3 h4⟩
theorem pw_nodup {l : List Int} (h : l.Pairwise (· < ·)) : l.Nodup := h.imp (fun h => by omega)
theorem LstR.lst {n : Nat} {ps : List Pr} {N : Nat → List Int} (h : LstR n ps N) (hn : n ≤ 131072) (hps : ∀ p ∈ ps, 0 ≤ p.b ∧ p.b < (n : Int)) : Lst n ps N := fun x hx =>
  ⟨Nat.le_trans (nodup_le (pw_nodup (h x hx).1) (fun y hy => hps _ (((h x hx).2 y).1 hy))) hn, (h x hx).2⟩
theorem LstR.bth {n : Nat} {ps qs : List Pr} {N D : Nat → List Int} (h : LstR n ps N) (k : LstR n qs D) (hq : Trn ps qs) (hps : ∀ p ∈ ps, (0 ≤ p.a ∧ p.a < (n : Int)) ∧ (0 ≤ p.b ∧ p.b < (n : Int))) : Bth N D n := by
  refine ⟨fun x hx => pw_nodup (h x hx).1, fun x hx => pw_nodup (k x hx).1, fun x hx z hz => (hps _ (((h x hx).2 z).1 hz)).2, fun x hx y => ?_⟩
  rw [(k x hx).2, hq]
  constructor
  · intro he
    have h1 := (hps _ he).1
    simp only at h1
    refine ⟨h1.1, h1.2, ((h y.toNat (by omega)).2 x).2 ?_⟩
    rw [show ((y.toNat : Nat) : Int) = y by omega]
    exact he
  · rintro ⟨h1, h2, h3⟩
    have h4 := ((h y.toNat (by omega)).2 x).1 h3
    rwa [show ((y.toNat : Nat) : Int) = y by omega] at h4
theorem trn_swap (ps : List Pr) : Trn ps (ps.map swapP) := fun x y => by
  rw [List.mem_map]
  constructor
  · rintro ⟨⟨a, b⟩, h, e⟩
    simp only [swapP, Pr.mk.injEq] at e
    obtain ⟨rfl, rfl⟩ := e
    exact h
  · intro h
    exact ⟨_, h, rfl⟩
end Go.Proofs.YtgijcbipnjmhgabGreat

namespace Go.Proofs.YtgijcbipnjmhgabGreat
set_option linter.unusedVariables false
set_option linter.unusedSimpArgs false
open Classical in
/-- how many can be come to -/
noncomputable def cntR (ps : List Pr) (n x : Nat) : Nat := ((List.range n).filter fun y => decide (Rch ps x y)).length
theorem filter_lt {α : Type} {l : List α} {P Q : α → Bool} (h : ∀ y, P y = true → Q y = true) (hx : ∃ y ∈ l, Q y = true ∧ P y = false) : (l.filter P).length < (l.filter Q).length := by
  induction l with
  | nil => obtain ⟨y, hy, -⟩ := hx; cases hy
  | cons a l ih =>
    have hle : ∀ l : List α, (l.filter P).length ≤ (l.filter Q).length := fun l => by
      induction l with
      | nil => exact Nat.le_refl _
      | cons a l ih =>
        cases hp : P a
        · cases hq : Q a
          · rw [List.filter_cons_of_neg (by simp [hp]), List.filter_cons_of_neg (by simp [hq])]; exact ih
          · rw [List.filter_cons_of_neg (by simp [hp]), List.filter_cons_of_pos hq, List.length_cons]; omega
        · rw [List.filter_cons_of_pos hp, List.filter_cons_of_pos (h a hp), List.length_cons, List.length_cons]; omega
    obtain ⟨y, hy, hq, hp⟩ := hx
    rcases List.mem_cons.1 hy with rfl | hy
    · rw [List.filter_cons_of_neg (by simp [hp]), List.filter_cons_of_pos hq, List.length_cons]
      have := hle l
      omega
    · have ih := ih ⟨y, hy, hq, hp⟩
      cases hpa : P a
      · cases hqa : Q a
        · rw [List.filter_cons_of_neg (by simp [hpa]), List.filter_cons_of_neg (by simp [hqa])]; exact ih
        · rw [List.filter_cons_of_neg (by simp [hpa]), List.filter_cons_of_pos hqa, List.length_cons]; omega
      · rw [List.filter_cons_of_pos hpa, List.filter_cons_of_pos (h a hpa), List.length_cons, List.length_cons]; omega
theorem Sam.refl (ps : List Pr) (x : Nat) : Sam ps x x := ⟨.refl x, .refl x⟩
/-- the edges between the parts, each by its lowest thing -/
def btw (lw : Nat → Nat) (ps : List Pr) : List Pr := (ps.filter fun p => decide (lw p.a.toNat ≠ lw p.b.toNat)).map fun p => ⟨(lw p.a.toNat : Int), (lw p.b.toNat : Int)⟩
theorem mem_btw {lw : Nat → Nat} {ps : List Pr} {x y : Int} : (⟨x, y⟩ : Pr) ∈ btw lw ps ↔ ∃ p ∈ ps, lw p.a.toNat ≠ lw p.b.toNat ∧ x = (lw p.a.toNat : Int) ∧ y = (lw p.b.toNat : Int) := by
  unfold btw
  rw [List.mem_map]
  constructor
  · rintro ⟨p, hp, e⟩
    rw [List.mem_filter] at hp
    injection e with e1 e2
    exact ⟨p, hp.1, by simpa using hp.2, e1.symm, e2.symm⟩
  · rintro ⟨p, hp, hne, rfl, rfl⟩
    exact ⟨p, List.mem_filter.2 ⟨hp, by simpa using hne⟩, rfl⟩
/-- lw tells the lowest of each part -/
structure Lws (ps : List Pr) (n : Nat) (lw : Nat → Nat) : Prop where
  low : ∀ y, y < n → Low ps y (lw y)
  rng : ∀ p ∈ ps, (0 ≤ p.a ∧ p.a < (n : Int)) ∧ (0 ≤ p.b ∧ p.b < (n : Int))
theorem Lws.eq {ps : List Pr} {n : Nat} {lw : Nat → Nat} (h : Lws ps n lw) {x y : Nat} (hx : x < n) (hy : y < n) : lw x = lw y ↔ Sam ps x y := by
  constructor
  · intro e
    have h1 := (h.low x hx).1
    rw [e] at h1
    exact h1.trans (h.low y hy).1.symm
  · intro hs
    have h1 := (h.low x hx).2 _ (hs.trans (h.low y hy).1)
    have h2 := (h.low y hy).2 _ (hs.symm.trans (h.low x hx).1)
    omega
theorem Lws.lt {ps : List Pr} {n : Nat} {lw : Nat → Nat} (h : Lws ps n lw) {x : Nat} (hx : x < n) : lw x < n := by
  have := (h.low x hx).2 x (Sam.refl ps x)
  omega
theorem Lws.idem {ps : List Pr} {n : Nat} {lw : Nat → Nat} (h : Lws ps n lw) {x : Nat} (hx : x < n) : lw (lw x) = lw x := (h.eq (h.lt hx) hx).2 (h.low x hx).1.symm
theorem Lws.btw_rng {ps : List Pr} {n : Nat} {lw : Nat → Nat} (h : Lws ps n lw) : ∀ p ∈ btw lw ps, (0 ≤ p.a ∧ p.a < (n : Int)) ∧ (0 ≤ p.b ∧ p.b < (n : Int)) := by
  rintro ⟨x, y⟩ hp0
  obtain ⟨p, hp, -, rfl, rfl⟩ := mem_btw.1 hp0
  have h1 := h.rng p hp
  have h2 := h.lt (x := p.a.toNat) (by omega)
  have h3 := h.lt (x := p.b.toNat) (by omega)
  simp only
  omega
open Classical in
/-- all are lined up: between the parts there is no cycle -/
theorem all_lined {ps : List Pr} {n : Nat} {lw : Nat → Nat} {N : Nat → List Int} {os : List Int} (h : Lws ps n lw) (hN : LstR n (btw lw ps) N) (hl : Ln N n os) : ∀ c x : Nat, x < n → cntR ps n x ≤ c → (x : Int) ∈ os := by
  intro c
  induction c using Nat.strongRecOn with
  | ind c ih =>
  intro x hx hc
  apply Classical.byContradiction
  intro hno
  have h1 := hl.no (x : Int)
  unfold Rdy at h1
  have h2 : ∃ z ∈ N x, z ∉ os := by
    apply Classical.byContradiction
    intro h3
    refine h1 ⟨by omega, by omega, hno, fun z hz => ?_⟩
    rw [show ((x : Int)).toNat = x by omega] at hz
    apply Classical.byContradiction
    intro h4
    exact h3 ⟨z, hz, h4⟩
  obtain ⟨z, hz, hzo⟩ := h2
  obtain ⟨p, hp, hne, ex, rfl⟩ := mem_btw.1 (((hN x hx).2 z).1 hz)
  have hr := h.rng p hp
  obtain ⟨u, hu⟩ : ∃ u : Nat, p.a.toNat = u := ⟨_, rfl⟩
  obtain ⟨v, hv⟩ : ∃ v : Nat, p.b.toNat = v := ⟨_, rfl⟩
  rw [hu] at hne ex
  rw [hv] at hne hzo
  have hun : u < n := by omega
  have hvn : v < n := by omega
  have hxu : x = lw u := by omega
  subst hxu
  have hedge : Rch ps u v := .step (by rw [← hu, ← hv, show ((p.a.toNat : Nat) : Int) = p.a by omega, show ((p.b.toNat : Nat) : Int) = p.b by omega]; exact hp) (.refl _)
  have hxz : Rch ps (lw u) (lw v) := ((h.low u hun).1.2.trans hedge).trans (h.low v hvn).1.1
  have hzx : ¬ Rch ps (lw v) (lw u) := fun hb => by
    have hs : Sam ps u v := (h.low u hun).1.trans (Sam.trans ⟨hxz, hb⟩ (h.low v hvn).1.symm)
    exact hne ((h.eq hun hvn).2 hs)
  have hlt : cntR ps n (lw v) < cntR ps n (lw u) := by
    unfold cntR
    refine filter_lt (fun y hy => ?_) ⟨lw u, List.mem_range.2 hx, ?_, ?_⟩
    · rw [decide_eq_true_eq] at hy ⊢; exact hxz.trans hy
    · rw [decide_eq_true_eq]; exact .refl _
    · rw [decide_eq_false_iff_not]; exact hzx
  exact hzo (ih (cntR ps n (lw v)) (by omega) (lw v) (h.lt hvn) (Nat.le_refl _))
/-- the things of a part -/
def mem1 (n : Nat) (lw : Nat → Nat) (z : Nat) : List Int := ((List.range n).filter fun y => decide (lw y = z)).map fun (x : Nat) => (x : Int)
theorem mem_mem1 {n : Nat} {lw : Nat → Nat} {z : Nat} {y : Int} : y ∈ mem1 n lw z ↔ ∃ x : Nat, y = (x : Int) ∧ x < n ∧ lw x = z := by
  unfold mem1
  rw [List.mem_map]
  constructor
  · rintro ⟨x, hx, rfl⟩
    rw [List.mem_filter, List.mem_range] at hx
    exact ⟨x, rfl, hx.1, by simpa using hx.2⟩
  · rintro ⟨x, rfl, h1, h2⟩
    exact ⟨x, List.mem_filter.2 ⟨List.mem_range.2 h1, by simpa using h2⟩, rfl⟩
theorem mem1_up (n : Nat) (lw : Nat → Nat) (z : Nat) : (mem1 n lw z).Pairwise (· < ·) := by
  unfold mem1
  rw [List.pairwise_map]
  exact (List.pairwise_lt_range.filter _).imp (by intro a b h; omega)
/-- the parts, as they are lined up -/
def pts (n : Nat) (lw : Nat → Nat) (os : List Int) : List (List Int) := (os.filter fun x => decide ((lw x.toNat : Int) = x)).map fun x => mem1 n lw x.toNat
/-- what Parts answers -/
structure Prt (ps : List Pr) (n : Nat) (pss : List (List Int)) : Prop where
  up : ∀ (i : Nat) p, pss[i]? = some p → p.Pairwise (· < ·) ∧ p ≠ [] ∧ ∀ y ∈ p, 0 ≤ y ∧ y < (n : Int)
  sam : ∀ (i : Nat) p (a b : Nat), pss[i]? = some p → (a : Int) ∈ p → ((b : Int) ∈ p ↔ b < n ∧ Sam ps a b)
  all : ∀ y : Nat, y < n → ∃ (i : Nat) (p : List Int), pss[i]? = some p ∧ (y : Int) ∈ p
  one : ∀ (i j : Nat) p q (y : Int), pss[i]? = some p → pss[j]? = some q → y ∈ p → y ∈ q → i = j
theorem pts_prt {ps : List Pr} {n : Nat} {lw : Nat → Nat} {N : Nat → List Int} {os : List Int} (h : Lws ps n lw) (hN : LstR n (btw lw ps) N) (hl : Ln N n os) : Prt ps n (pts n lw os) := by
  have key : ∀ (i : Nat) p, (pts n lw os)[i]? = some p → ∃ z : Nat, (os.filter fun x => decide ((lw x.toNat : Int) = x))[i]? = some (z : Int) ∧ z < n ∧ lw z = z ∧ p = mem1 n lw z := fun i p hp => by
    unfold pts at hp
    rw [List.getElem?_map] at hp
    obtain ⟨x, hx, e⟩ := Option.map_eq_some_iff.1 hp
    have hm := List.mem_of_getElem? hx
    rw [List.mem_filter] at hm
    have hr := hl.rng x hm.1
    have h2 : (lw x.toNat : Int) = x := by simpa using hm.2
    exact ⟨x.toNat, by rw [hx, show ((x.toNat : Nat) : Int) = x by omega], by omega, by omega, e.symm⟩
  refine ⟨fun i p hp => ?_, fun i p a b hp ha => ?_, fun y hy => ?_, fun i j p q y hp hq hyp hyq => ?_⟩
  · obtain ⟨z, -, h1, h2, rfl⟩ := key i p hp
    refine ⟨mem1_up _ _ _, fun e => ?_, fun y hy => ?_⟩
    · have : (z : Int) ∈ mem1 n lw z := mem_mem1.2 ⟨z, rfl, h1, h2⟩
      rw [e] at this
      cases this
    · obtain ⟨x, rfl, h3, -⟩ := mem_mem1.1 hy
      omega
  · obtain ⟨z, -, h1, h2, rfl⟩ := key i p hp
    obtain ⟨a', ea, h3, h4⟩ := mem_mem1.1 ha
    have ea' : a' = a := by omega
    subst ea'
    rw [mem_mem1]
    constructor
    · rintro ⟨b', eb, h5, h6⟩
      have eb' : b' = b := by omega
      subst eb'
      exact ⟨h5, (h.eq h3 h5).1 (by rw [h4, h6])⟩
    · rintro ⟨h5, h6⟩
      exact ⟨b, rfl, h5, by rw [← (h.eq h3 h5).2 h6, h4]⟩
  · have h1 := all_lined h hN hl _ (lw y) (h.lt hy) (Nat.le_refl _)
    have h2 : (lw y : Int) ∈ os.filter fun x => decide ((lw x.toNat : Int) = x) := List.mem_filter.2 ⟨h1, by rw [show ((lw y : Int)).toNat = lw y by omega, h.idem hy]; simp⟩
    obtain ⟨i, hi⟩ := List.getElem?_of_mem h2
    refine ⟨i, mem1 n lw (lw y), ?_, mem_mem1.2 ⟨y, rfl, hy, rfl⟩⟩
    unfold pts
    rw [List.getElem?_map, hi]
    simp
  · obtain ⟨z, hz, -, -, rfl⟩ := key i p hp
    obtain ⟨z', hz', -, -, rfl⟩ := key j q hq
    obtain ⟨x, rfl, h1, h2⟩ := mem_mem1.1 hyp
    obtain ⟨x', e, h3, h4⟩ := mem_mem1.1 hyq
    have ex : x' = x := by omega
    subst ex
    rw [← h2] at hz
    rw [← h4] at hz'
    have hnd : (os.filter fun x => decide ((lw x.toNat : Int) = x)).Nodup := hl.nod.filter _
    obtain ⟨l1, e1⟩ := List.getElem?_eq_some_iff.1 hz
    obtain ⟨l2, e2⟩ := List.getElem?_eq_some_iff.1 hz'
    have hpw := List.pairwise_iff_getElem.1 hnd
    rcases Nat.lt_trichotomy i j with hij | hij | hij
    · exact absurd (e1.trans e2.symm) (hpw i j l1 l2 hij)
    · exact hij
    · exact absurd (e2.trans e1.symm) (hpw j i l2 l1 hij)
end Go.Proofs.YtgijcbipnjmhgabGreat

namespace Go.Proofs.YtgijcbipnjmhgabGreat
set_option linter.unusedVariables false
set_option linter.unusedSimpArgs false

/-- an edge -/
abbrev Eg (ps : List Pr) (x y : Nat) : Prop := (⟨(x : Int), (y : Int)⟩ : Pr) ∈ ps
/-- a thing on a cycle -/
def OnC (ps : List Pr) (x : Nat) : Prop := ∃ z : Nat, Eg ps x z ∧ Rch ps z x
/-- a way of so many edges -/
inductive Wy (ps : List Pr) (f : Nat) : Nat → Nat → Prop
  | nil : Wy ps f 0 f
  | cons {k x y : Nat} : Eg ps x y → Wy ps f k y → Wy ps f (k + 1) x
theorem Wy.rch {ps : List Pr} {f k x : Nat} (h : Wy ps f k x) : Rch ps x f := by
  induction h with
  | nil => exact .refl _
  | cons e _ ih => exact .step e ih
theorem Rch.wy {ps : List Pr} {x f : Nat} (h : Rch ps x f) : ∃ k, Wy ps f k x := by
  induction h with
  | refl x => exact ⟨0, .nil⟩
  | step e _ ih => obtain ⟨k, hk⟩ := ih; exact ⟨k + 1, .cons e hk⟩
/-- the edges of the shortest way -/
def Ds (ps : List Pr) (f y d : Nat) : Prop := Wy ps f d y ∧ ∀ k, Wy ps f k y → d ≤ k
theorem Ds.uniq {ps : List Pr} {f y d e : Nat} (h : Ds ps f y d) (k : Ds ps f y e) : d = e := by
  have := h.2 _ k.1
  have := k.2 _ h.1
  omega
theorem Ds.self (ps : List Pr) (f : Nat) : Ds ps f f 0 := ⟨.nil, fun k _ => Nat.zero_le _⟩
theorem Ds.zero {ps : List Pr} {f y : Nat} (h : Ds ps f y 0) : y = f := by
  cases h.1
  rfl
/-- one step along a shortest way -/
theorem Ds.next {ps : List Pr} {f y d : Nat} (h : Ds ps f y (d + 1)) : ∃ z, Eg ps y z ∧ Ds ps f z d := by
  cases h.1 with
  | cons e k =>
    refine ⟨_, e, k, fun j hj => ?_⟩
    have := h.2 _ (.cons e hj)
    omega
/-- breadth first: the distances F, the queue q, the place i in it; dn: what is done of the one at i -/
structure Bq (ps : List Pr) (n f : Nat) (F : Nat → Nat) (q : List Nat) (i : Nat) (dn : Nat → Prop) : Prop where
  nod : q.Nodup
  rng : ∀ y ∈ q, y < n
  fst : f ∈ q
  zer : F f = 0
  mkd : ∀ y, y < n → (y ∈ q ↔ F y ≠ n)
  wy : ∀ y ∈ q, Wy ps f (F y) y
  srt : q.Pairwise fun a b => F a ≤ F b
  lea : ∀ (a : Nat) y, q[a]? = some y → F y ≤ a
  top : ∀ x, q[i]? = some x → ∀ y ∈ q, F y ≤ F x + 1
  old : ∀ (a : Nat) x, a < i → q[a]? = some x → ∀ y, Eg ps y x → y ∈ q ∧ F y ≤ F x + 1
  cur : ∀ x, q[i]? = some x → ∀ y, dn y → y ∈ q ∧ F y ≤ F x + 1
theorem Bq.start {ps : List Pr} {n f : Nat} (hf : f < n) : Bq ps n f (fun y => if y = f then 0 else n) [f] 0 (fun _ => False) := by
  refine ⟨by simp, fun y hy => ?_, by simp, by simp, fun y hy => ?_, fun y hy => ?_, by simp, fun a y h => ?_, fun x hx y hy => ?_, fun a x ha => by omega, fun x hx y h => h.elim⟩
  · rw [List.mem_singleton] at hy; subst hy; exact hf
  · rw [List.mem_singleton]
    by_cases e : y = f
    · subst e; simp; omega
    · simp [e]
  · rw [List.mem_singleton] at hy; subst hy; simp; exact .nil
  · have h1 := List.mem_of_getElem? h
    rw [List.mem_singleton] at h1; subst h1; simp
  · rw [List.mem_singleton] at hy; subst hy; simp
theorem Bq.few {ps : List Pr} {n f i : Nat} {F : Nat → Nat} {q : List Nat} {dn : Nat → Prop} (h : Bq ps n f F q i dn) : q.length ≤ n := nodup_le0 n q h.nod h.rng
theorem Bq.have {ps : List Pr} {n f i y : Nat} {F : Nat → Nat} {q : List Nat} {dn : Nat → Prop} (h : Bq ps n f F q i dn) (hy : y < n) (hF : F y ≠ n) : Bq ps n f F q i (fun z => dn z ∨ z = y) :=
  ⟨h.nod, h.rng, h.fst, h.zer, h.mkd, h.wy, h.srt, h.lea, h.top, h.old, fun x hx z hz => hz.elim (h.cur x hx z) fun e => by subst e; exact ⟨(h.mkd z hy).2 hF, h.top x hx z ((h.mkd z hy).2 hF)⟩⟩
theorem Bq.new {ps : List Pr} {n f i x y : Nat} {F : Nat → Nat} {q : List Nat} {dn : Nat → Prop} (h : Bq ps n f F q i dn) (hx : q[i]? = some x) (hy : y < n) (hF : F y = n) (he : Eg ps y x) : F x + 1 < n ∧ q.length < n ∧ Bq ps n f (fun z => if z = y then F x + 1 else F z) (q ++ [y]) i (fun z => dn z ∨ z = y) := by
  have hyq : y ∉ q := fun hm => (h.mkd y hy).1 hm hF
  have hil := (List.getElem?_eq_some_iff.1 hx).1
  have hF' : ∀ z ∈ q, (if z = y then F x + 1 else F z) = F z := fun z hz => by rw [if_neg]; intro e; subst e; exact hyq hz
  have hxq := List.mem_of_getElem? hx
  have hnd : (q ++ [y]).Nodup := by
    rw [List.nodup_append]
    exact ⟨h.nod, by simp, fun a ha b hb e => hyq (by rw [List.mem_singleton] at hb; rw [← hb, ← e]; exact ha)⟩
  have hrg : ∀ z ∈ q ++ [y], z < n := fun z hz => (List.mem_append.1 hz).elim (h.rng z) fun e => by rw [List.mem_singleton] at e; subst e; exact hy
  have hlen := nodup_le0 n _ hnd hrg
  rw [List.length_append, List.length_singleton] at hlen
  have hFx := h.lea i x hx
  refine ⟨by omega, by omega, hnd, hrg, List.mem_append_left _ h.fst, by rw [hF' f h.fst]; exact h.zer, fun z hz => ?_, fun z hz => ?_, ?_, fun a z ha => ?_, fun x' hx' z hz => ?_, fun a x' ha hx' z hz => ?_, fun x' hx' z hz => ?_⟩
  · rw [List.mem_append, List.mem_singleton, h.mkd z hz]
    by_cases e : z = y
    · subst e; simp; omega
    · simp [e]
  · rcases List.mem_append.1 hz with hz | hz
    · rw [hF' z hz]; exact h.wy z hz
    · rw [List.mem_singleton] at hz; subst hz; rw [if_pos rfl]; exact .cons he (h.wy x hxq)
  · rw [List.pairwise_append]
    refine ⟨h.srt.imp_of_mem fun {a b} ha hb hab => by rw [hF' a ha, hF' b hb]; exact hab, by simp, fun a ha b hb => ?_⟩
    rw [List.mem_singleton] at hb
    subst hb
    rw [hF' a ha, if_pos rfl]
    exact h.top x hx a ha
  · by_cases hal : a < q.length
    · rw [List.getElem?_append_left hal] at ha
      rw [hF' z (List.mem_of_getElem? ha)]
      exact h.lea a z ha
    · rw [List.getElem?_append_right (by omega)] at ha
      have hz := List.mem_of_getElem? ha
      rw [List.mem_singleton] at hz
      subst hz
      rw [if_pos rfl]
      omega
  · rw [List.getElem?_append_left hil] at hx'
    have exx : x' = x := by rw [hx] at hx'; injection hx' with e; exact e.symm
    subst exx
    rw [hF' x' hxq]
    rcases List.mem_append.1 hz with hz | hz
    · rw [hF' z hz]; exact h.top x' hx z hz
    · rw [List.mem_singleton] at hz; subst hz; rw [if_pos rfl]; exact Nat.le_refl _
  · rw [List.getElem?_append_left (by omega)] at hx'
    obtain ⟨h1, h2⟩ := h.old a x' ha hx' z hz
    rw [hF' z h1, hF' x' (List.mem_of_getElem? hx')]
    exact ⟨List.mem_append_left _ h1, h2⟩
  · rw [List.getElem?_append_left hil] at hx'
    have exx : x' = x := by rw [hx] at hx'; injection hx' with e; exact e.symm
    subst exx
    rw [hF' x' hxq]
    rcases hz with hz | hz
    · obtain ⟨h1, h2⟩ := h.cur x' hx z hz
      rw [hF' z h1]
      exact ⟨List.mem_append_left _ h1, h2⟩
    · subst hz
      rw [if_pos rfl]
      exact ⟨by simp, Nat.le_refl _⟩
theorem Bq.next {ps : List Pr} {n f i x : Nat} {F : Nat → Nat} {q : List Nat} {dn : Nat → Prop} (h : Bq ps n f F q i dn) (hx : q[i]? = some x) (hd : ∀ y, Eg ps y x → dn y) : Bq ps n f F q (i + 1) (fun _ => False) := by
  refine ⟨h.nod, h.rng, h.fst, h.zer, h.mkd, h.wy, h.srt, h.lea, fun x' hx' y hy => ?_, fun a x' ha hx' y hy => ?_, fun x hx y hy => hy.elim⟩
  · have h1 := h.top x hx y hy
    obtain ⟨l1, e1⟩ := List.getElem?_eq_some_iff.1 hx
    obtain ⟨l2, e2⟩ := List.getElem?_eq_some_iff.1 hx'
    have h2 := List.pairwise_iff_getElem.1 h.srt i (i + 1) l1 l2 (by omega)
    rw [e1, e2] at h2
    omega
  · by_cases e : a = i
    · subst e
      have exx : x' = x := by rw [hx] at hx'; injection hx' with e; exact e.symm
      subst exx
      exact h.cur x' hx y (hd y hy)
    · exact h.old a x' (by omega) hx' y hy
/-- the distances to f: n where there is no way -/
structure Fr (ps : List Pr) (n f : Nat) (F : Nat → Nat) : Prop where
  ds : ∀ y, y < n → F y ≠ n → Ds ps f y (F y)
  wy : ∀ y k, Wy ps f k y → y < n ∧ F y < n
  le : ∀ y, y < n → F y ≤ n
theorem Bq.done {ps : List Pr} {n f : Nat} {F : Nat → Nat} {q : List Nat} {dn : Nat → Prop} (h : Bq ps n f F q q.length dn) : Fr ps n f F := by
  have key : ∀ k y, Wy ps f k y → y ∈ q ∧ F y ≤ k := by
    intro k y hw
    induction hw with
    | nil => exact ⟨h.fst, by rw [h.zer]; exact Nat.le_refl _⟩
    | cons e _ ih =>
      obtain ⟨h1, h2⟩ := ih
      obtain ⟨a, ha⟩ := List.getElem?_of_mem h1
      obtain ⟨h3, h4⟩ := h.old a _ (List.getElem?_eq_some_iff.1 ha).1 ha _ e
      exact ⟨h3, by omega⟩
  have hlt : ∀ y ∈ q, F y < n := fun y hy => by
    obtain ⟨a, ha⟩ := List.getElem?_of_mem hy
    have h1 := h.lea a y ha
    have h2 := (List.getElem?_eq_some_iff.1 ha).1
    have h3 := h.few
    omega
  refine ⟨fun y hy hF => ⟨h.wy y ((h.mkd y hy).2 hF), fun k hk => (key k y hk).2⟩, fun y k hk => ⟨h.rng y (key k y hk).1, hlt y (key k y hk).1⟩, fun y hy => ?_⟩
  by_cases e : F y = n
  · omega
  · have := hlt y ((h.mkd y hy).2 e)
    omega
/-- the nearest that is needed, the lowest of them -/
def Nst (ps : List Pr) (f x y : Nat) : Prop := Eg ps x y ∧ ∃ d, Ds ps f y d ∧ ∀ z e, Eg ps x z → Ds ps f z e → d ≤ e ∧ (e = d → y ≤ z)
theorem Nst.uniq {ps : List Pr} {f x y z : Nat} (h : Nst ps f x y) (k : Nst ps f x z) : y = z := by
  obtain ⟨h1, d, h2, h3⟩ := h
  obtain ⟨k1, e, k2, k3⟩ := k
  have a := h3 z e k1 k2
  have b := k3 y d h1 h2
  have := a.2 (by omega)
  have := b.2 (by omega)
  omega
/-- the way on from x back to f -/
inductive Cyc (ps : List Pr) (f : Nat) : Nat → List Int → Prop
  | fin {x : Nat} : Nst ps f x f → Cyc ps f x []
  | more {x y : Nat} {l : List Int} : Nst ps f x y → y ≠ f → Cyc ps f y l → Cyc ps f x ((y : Int) :: l)
theorem Cyc.uniq {ps : List Pr} {f x : Nat} {l : List Int} (h : Cyc ps f x l) : ∀ {m : List Int}, Cyc ps f x m → l = m := by
  induction h with
  | fin h =>
    intro m k
    cases k with
    | fin _ => rfl
    | more k1 k2 _ => exact absurd (h.uniq k1).symm k2
  | more h1 h2 _ ih =>
    intro m k
    cases k with
    | fin k1 => exact absurd (h1.uniq k1) h2
    | more k1 k2 k3 =>
      have e := h1.uniq k1
      subst e
      rw [ih k3]
/-- the first of the nearest among a rising list -/
theorem Fr.nst {ps : List Pr} {n f x y : Nat} {F : Nat → Nat} {l : List Int} (hF : Fr ps n f F) (hl : ∀ z, z ∈ l ↔ (⟨(x : Int), z⟩ : Pr) ∈ ps) (hy : (y : Int) ∈ l) (hyn : y < n) (hm : ∀ z : Nat, (z : Int) ∈ l → F y ≤ F z ∧ (F z = F y → y ≤ z)) (hw : ∃ z k, Eg ps x z ∧ Wy ps f k z) : Nst ps f x y ∧ Ds ps f y (F y) := by
  obtain ⟨z, k, hz, hk⟩ := hw
  have h1 := (hF.wy z k hk).2
  have h2 := (hm z ((hl _).2 hz)).1
  have h3 := hF.ds y hyn (by omega)
  refine ⟨⟨(hl _).1 hy, F y, h3, fun z e hz he => ?_⟩, h3⟩
  have h4 := hm z ((hl _).2 hz)
  have h5 := hF.wy z _ he.1
  have := (hF.ds z h5.1 (by omega)).uniq he
  rw [this] at h4
  exact h4
end Go.Proofs.YtgijcbipnjmhgabGreat

namespace Go.Proofs.YtgijcbipnjmhgabGreat
set_option linter.unusedVariables false
set_option linter.unusedSimpArgs false

/-- where onCycle stops -/
def Stp (ps : List Pr) (lw : Nat → Nat) (n x : Nat) : Prop := (∃ y, y < n ∧ y ≠ x ∧ lw y = x) ∨ Eg ps x x
theorem Rch.first {ps : List Pr} {x y : Nat} (h : Rch ps x y) (hne : x ≠ y) : ∃ z, Eg ps x z ∧ Rch ps z y := by
  cases h with
  | refl => exact absurd rfl hne
  | step e k => exact ⟨_, e, k⟩
theorem Stp.onc {ps : List Pr} {n x : Nat} {lw : Nat → Nat} (h : Lws ps n lw) (hs : Stp ps lw n x) : OnC ps x := by
  rcases hs with ⟨y, hy, hne, e⟩ | hs
  · have h1 := (h.low y hy).1
    rw [e] at h1
    obtain ⟨z, hz, hr⟩ := h1.2.first (fun e => hne e.symm)
    exact ⟨z, hz, hr.trans h1.1⟩
  · exact ⟨x, hs, .refl _⟩
theorem Lws.edge {ps : List Pr} {n x z : Nat} {lw : Nat → Nat} (h : Lws ps n lw) (he : Eg ps x z) : x < n ∧ z < n := by
  have := h.rng _ he
  simp only at this
  omega
theorem OnC.stp {ps : List Pr} {n x : Nat} {lw : Nat → Nat} (h : Lws ps n lw) (hs : OnC ps x) : ∃ z, z ≤ x ∧ Stp ps lw n z := by
  obtain ⟨z, hz, hr⟩ := hs
  obtain ⟨hx, hzn⟩ := h.edge hz
  have hle := (h.low x hx).2 x (Sam.refl ps x)
  by_cases e : lw x = x
  · refine ⟨x, Nat.le_refl _, ?_⟩
    by_cases e2 : z = x
    · subst e2; exact .inr hz
    · exact .inl ⟨z, hzn, e2, ((h.eq hzn hx).2 ⟨hr, .step hz (.refl _)⟩).trans e⟩
  · exact ⟨lw x, hle, .inl ⟨x, hx, fun e2 => e e2.symm, rfl⟩⟩
/-- the lowest thing on a cycle -/
def Fst (ps : List Pr) (f : Nat) : Prop := OnC ps f ∧ ∀ y, OnC ps y → f ≤ y
theorem Fst.uniq {ps : List Pr} {f g : Nat} (h : Fst ps f) (k : Fst ps g) : f = g := by
  have := h.2 _ k.1
  have := k.2 _ h.1
  omega
theorem stp_fst {ps : List Pr} {n x : Nat} {lw : Nat → Nat} (h : Lws ps n lw) (hs : Stp ps lw n x) (hb : ∀ y, y < x → ¬ Stp ps lw n y) : Fst ps x :=
  ⟨hs.onc h, fun y hy => by
    obtain ⟨z, hz, hs2⟩ := hy.stp h
    by_cases e : z < x
    · exact absurd hs2 (hb z e)
    · omega⟩
/-- others, as counted -/
def cnO (lw : Nat → Nat) (k l : Nat) : Nat := ((List.range k).filter fun y => decide (lw y = l) && decide (y ≠ l)).length
theorem cnO_succ (lw : Nat → Nat) (k l : Nat) : cnO lw (k + 1) l = cnO lw k l + if lw k = l ∧ k ≠ l then 1 else 0 := by
  unfold cnO
  rw [List.range_succ, List.filter_append, List.length_append]
  congr 1
  by_cases h : lw k = l ∧ k ≠ l
  · rw [if_pos h, List.filter_cons_of_pos (by simp [h.1, h.2])]; rfl
  · rw [if_neg h, List.filter_cons_of_neg (by simpa using h)]; rfl
theorem cnO_le (lw : Nat → Nat) (k l : Nat) : cnO lw k l ≤ k := by
  unfold cnO
  exact Nat.le_trans (List.length_filter_le _ _) (by rw [List.length_range]; exact Nat.le_refl _)
theorem cnO_zero (lw : Nat → Nat) (k l : Nat) : cnO lw k l = 0 ↔ ∀ y, y < k → ¬ (y ≠ l ∧ lw y = l) := by
  unfold cnO
  rw [List.length_eq_zero_iff, List.filter_eq_nil_iff]
  constructor
  · intro h y hy ⟨h1, h2⟩
    exact h y (List.mem_range.2 hy) (by simp [h1, h2])
  · intro h y hy h2
    simp only [Bool.and_eq_true, decide_eq_true_eq] at h2
    exact h y (List.mem_range.1 hy) ⟨h2.2, h2.1⟩
theorem stp_iff {ps : List Pr} {n x : Nat} {lw : Nat → Nat} : ¬ Stp ps lw n x ↔ cnO lw n x = 0 ∧ ¬ Eg ps x x := by
  rw [cnO_zero]
  unfold Stp
  constructor
  · intro h
    exact ⟨fun y hy hc => h (.inl ⟨y, hy, hc.1, hc.2⟩), fun he => h (.inr he)⟩
  · rintro ⟨h1, h2⟩ (⟨y, hy, h3, h4⟩ | h3)
    · exact h1 y hy ⟨h3, h4⟩
    · exact h2 h3
open Classical in
/-- where nothing is on a cycle, all are lined up -/
theorem all_in {ps : List Pr} {n : Nat} {N : Nat → List Int} {os : List Int} (hr : ∀ p ∈ ps, (0 ≤ p.a ∧ p.a < (n : Int)) ∧ (0 ≤ p.b ∧ p.b < (n : Int))) (hN : LstR n ps N) (hl : Ln N n os) (hno : ∀ x, ¬ OnC ps x) : ∀ c x : Nat, x < n → cntR ps n x ≤ c → (x : Int) ∈ os := by
  intro c
  induction c using Nat.strongRecOn with
  | ind c ih =>
  intro x hx hc
  apply Classical.byContradiction
  intro hxo
  have h1 := hl.no (x : Int)
  unfold Rdy at h1
  have h2 : ∃ z ∈ N x, z ∉ os := by
    apply Classical.byContradiction
    intro h3
    refine h1 ⟨by omega, by omega, hxo, fun z hz => ?_⟩
    rw [show ((x : Int)).toNat = x by omega] at hz
    apply Classical.byContradiction
    intro h4
    exact h3 ⟨z, hz, h4⟩
  obtain ⟨z0, hz, hzo⟩ := h2
  have he := ((hN x hx).2 z0).1 hz
  have hr1 := hr _ he
  simp only at hr1
  obtain ⟨z, rfl⟩ : ∃ z : Nat, z0 = (z : Int) := ⟨z0.toNat, by omega⟩
  have hlt : cntR ps n z < cntR ps n x := by
    unfold cntR
    refine filter_lt (fun y hy => ?_) ⟨x, List.mem_range.2 hx, ?_, ?_⟩
    · rw [decide_eq_true_eq] at hy ⊢; exact .step he hy
    · rw [decide_eq_true_eq]; exact .refl _
    · rw [decide_eq_false_iff_not]; exact fun hb => hno x ⟨z, he, hb⟩
  exact hzo (ih (cntR ps n z) (by omega) z (by omega) (Nat.le_refl _))
theorem ge_all : ∀ (n : Nat) (l : List Int), (∀ x : Nat, x < n → (x : Int) ∈ l) → n ≤ l.length
  | 0, _, _ => Nat.zero_le _
  | n + 1, l, h => by
    have h1 := ge_all n (l.erase (n : Int)) (fun x hx => (List.mem_erase_of_ne (by omega)).2 (h x (by omega)))
    have h2 := h n (Nat.lt_succ_self n)
    have h3 := List.length_pos_of_mem h2
    rw [List.length_erase_of_mem h2] at h1
    omega
theorem full_iff {n : Nat} {os : List Int} (h : os.Nodup) (hr : ∀ y ∈ os, 0 ≤ y ∧ y < (n : Int)) : os.length = n ↔ ∀ x : Nat, x < n → (x : Int) ∈ os := by
  constructor
  · intro hl x hx
    apply Classical.byContradiction
    intro hno
    have := nodup_le (n := n) (os := (x : Int) :: os) (List.nodup_cons.2 ⟨hno, h⟩) (fun y hy => (List.mem_cons.1 hy).elim (fun e => by subst e; omega) (hr y))
    rw [List.length_cons] at this
    omega
  · intro ha
    have h1 := nodup_le h hr
    have h2 := ge_all n os ha
    omega
/-- in a line each thing stands behind what it needs -/
theorem Gd.before {N : Nat → List Int} {n : Nat} {os : List Int} (h : Gd N n os) (hn : os.Nodup) {i j : Nat} {x z : Int} (hi : os[i]? = some x) (hj : os[j]? = some z) (hz : z ∈ N x.toNat) : j < i := by
  obtain ⟨l1, e1⟩ := List.getElem?_eq_some_iff.1 hi
  have hsp : os = os.take i ++ x :: os.drop (i + 1) := by
    rw [← e1, List.getElem_cons_drop, List.take_append_drop]
  have h1 := (h _ _ _ hsp).1.2.2.2 z hz
  obtain ⟨k, hk⟩ := List.getElem?_of_mem h1
  have hki : k < i := by
    have := (List.getElem?_eq_some_iff.1 hk).1
    rw [List.length_take] at this
    omega
  rw [List.getElem?_take, if_pos hki] at hk
  obtain ⟨l2, e2⟩ := List.getElem?_eq_some_iff.1 hk
  obtain ⟨l3, e3⟩ := List.getElem?_eq_some_iff.1 hj
  have hpw := List.pairwise_iff_getElem.1 hn
  rcases Nat.lt_trichotomy k j with hkj | hkj | hkj
  · exact absurd (e2.trans e3.symm) (hpw k j l2 l3 hkj)
  · omega
  · exact absurd (e3.trans e2.symm) (hpw j k l3 l2 hkj)
/-- what is lined up is on no cycle -/
theorem Ln.noc {ps : List Pr} {n : Nat} {N : Nat → List Int} {os : List Int} (hr : ∀ p ∈ ps, (0 ≤ p.a ∧ p.a < (n : Int)) ∧ (0 ≤ p.b ∧ p.b < (n : Int))) (hN : LstR n ps N) (hl : Ln N n os) (hf : os.length = n) (x : Nat) : ¬ OnC ps x := by
  have hall := (full_iff hl.nod hl.rng).1 hf
  have hedge : ∀ u v : Nat, Eg ps u v → u < n ∧ v < n := fun u v he => by
    have := hr _ he
    simp only at this
    omega
  have key : ∀ u v : Nat, Rch ps u v → u < n → ∀ i j : Nat, os[i]? = some (u : Int) → os[j]? = some (v : Int) → j ≤ i := by
    intro u v huv
    induction huv with
    | refl u =>
      intro hu i j hi hj
      obtain ⟨l1, e1⟩ := List.getElem?_eq_some_iff.1 hi
      obtain ⟨l2, e2⟩ := List.getElem?_eq_some_iff.1 hj
      have hpw := List.pairwise_iff_getElem.1 hl.nod
      by_cases hij : i < j
      · exact absurd (e1.trans e2.symm) (hpw i j l1 l2 hij)
      · omega
    | step e _ ih =>
      intro hu i j hi hj
      rename_i x y z _
      have hy := (hedge x y e).2
      obtain ⟨k, hk⟩ := List.getElem?_of_mem (hall y hy)
      have h1 := ih hy k j hk hj
      have h2 := hl.gd.before hl.nod hi hk (by rw [show ((x : Int)).toNat = x by omega]; exact ((hN x hu).2 _).2 e)
      omega
  rintro ⟨z, he, hrz⟩
  obtain ⟨hx, hz⟩ := hedge x z he
  obtain ⟨i, hi⟩ := List.getElem?_of_mem (hall x hx)
  obtain ⟨k, hk⟩ := List.getElem?_of_mem (hall z hz)
  have h1 := key z x hrz hz k i hk hi
  have h2 := hl.gd.before hl.nod hi hk (by rw [show ((x : Int)).toNat = x by omega]; exact ((hN x hx).2 _).2 he)
  omega
end Go.Proofs.YtgijcbipnjmhgabGreat
