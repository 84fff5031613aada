import Derived.Test.YtgijcbipnjmhgabTg2
import Derived.Test.YtgijcbipnjmhgabFa2
namespace Go.Proofs.Ytgijcbipnjmhgab
set_option linter.unusedVariables false
set_option linter.unusedSimpArgs false

theorem Cyc.edge {ps : List Pr} {f x : Nat} {l : List Int} (h : Cyc ps f x l) : ∀ (i : Nat) (y z : Int), ((x : Int) :: l)[i]? = some y → (l ++ [(f : Int)])[i]? = some z → (⟨y, z⟩ : Pr) ∈ ps := by
  induction h with
  | fin h =>
    intro i y z h1 h2
    cases i with
    | zero => simp at h1 h2; subst h1; subst h2; exact h.1
    | succ i => simp at h1
  | more h1 h2 _ ih =>
    intro i y z k1 k2
    cases i with
    | zero => simp at k1 k2; subst k1; subst k2; exact h1.1
    | succ i => exact ih i y z (by simpa using k1) (by simpa using k2)
theorem Cyc.mem {ps : List Pr} {f x : Nat} {l : List Int} (h : Cyc ps f x l) : ∀ y ∈ l, ∃ z : Nat, y = (z : Int) ∧ Rch ps x z ∧ Rch ps z f ∧ z ≠ f := by
  induction h with
  | fin h => intro y hy; cases hy
  | more h1 h2 h3 ih =>
    rename_i x y l
    intro u hu
    obtain ⟨he, d, hd, -⟩ := h1
    rcases List.mem_cons.1 hu with rfl | hu
    · exact ⟨y, rfl, .step he (.refl _), hd.1.rch, h2⟩
    · obtain ⟨z, e, k1, k2, k3⟩ := ih u hu
      exact ⟨z, e, .step he k1, k2, k3⟩
/-- what stands on the told cycle -/
theorem Cyc.on {ps : List Pr} {f : Nat} {l : List Int} (hf : Fst ps f) (h : Cyc ps f f l) : ∀ y ∈ (f : Int) :: l, ∃ z : Nat, y = (z : Int) ∧ Sam ps f z ∧ f ≤ z := fun y hy => by
  rcases List.mem_cons.1 hy with rfl | hy
  · exact ⟨f, rfl, Sam.refl ps f, Nat.le_refl _⟩
  · obtain ⟨z, e, k1, k2, k3⟩ := h.mem y hy
    obtain ⟨u, hu, hr⟩ := k2.first k3
    exact ⟨z, e, ⟨k1, k2⟩, hf.2 z ⟨u, hu, hr.trans k1⟩⟩
/-- its parts that stand ahead of f -/
theorem Fst.alone {ps : List Pr} {f x y : Nat} (hf : Fst ps f) (hx : x < f) (hs : Sam ps x y) : x = y := by
  apply Classical.byContradiction
  intro hne
  obtain ⟨u, hu, hr⟩ := hs.1.first hne
  have := hf.2 x ⟨u, hu, hr.trans hs.2⟩
  omega
theorem Fst.noself {ps : List Pr} {f x : Nat} (hf : Fst ps f) (hx : x < f) : ¬ Eg ps x x := fun he => by
  have := hf.2 x ⟨x, he, .refl _⟩
  omega
theorem Gn.nodup {S : Int → Prop} {R : Int → Int → Prop} {os : List Int} (h : Gn S R os) : os.Nodup := by
  have key : ∀ a ps : List Int, os = ps ++ a → ps.Nodup → (ps ++ a).Nodup := by
    intro a
    induction a with
    | nil => intro ps _ hn; rw [List.append_nil]; exact hn
    | cons x a ih =>
      intro ps e hn
      have h1 := (h.gd ps x a e).1.2.1
      have h2 := ih (ps ++ [x]) (by rw [e]; simp) (by
        rw [List.nodup_append]
        exact ⟨hn, by simp, fun a ha b hb e => h1 (by rw [List.mem_singleton] at hb; rw [← hb, ← e]; exact ha)⟩)
      rwa [List.append_assoc, List.singleton_append] at h2
  exact key os [] rfl List.nodup_nil
theorem at_uniq {l : List Int} (hn : l.Nodup) {i j : Nat} {x : Int} (hi : l[i]? = some x) (hj : l[j]? = some x) : i = j := by
  obtain ⟨l1, e1⟩ := List.getElem?_eq_some_iff.1 hi
  obtain ⟨l2, e2⟩ := List.getElem?_eq_some_iff.1 hj
  have hpw := List.pairwise_iff_getElem.1 hn
  rcases Nat.lt_trichotomy i j with h | h | h
  · exact absurd (e1.trans e2.symm) (hpw i j l1 l2 h)
  · exact h
  · exact absurd (e2.trans e1.symm) (hpw j i l2 l1 h)
theorem Gn.before {S : Int → Prop} {R : Int → Int → Prop} {os : List Int} (h : Gn S R os) {i j : Nat} {x z : Int} (hi : os[i]? = some x) (hj : os[j]? = some z) (hz : R x z) : j < i := by
  obtain ⟨l1, e1⟩ := List.getElem?_eq_some_iff.1 hi
  have hsp : os = os.take i ++ x :: os.drop (i + 1) := by rw [← e1, List.getElem_cons_drop, List.take_append_drop]
  have h1 := (h.gd _ _ _ hsp).1.2.2 z hz
  obtain ⟨k, hk⟩ := List.getElem?_of_mem h1
  have hki : k < i := by
    have := (List.getElem?_eq_some_iff.1 hk).1
    rw [List.length_take] at this
    omega
  rw [List.getElem?_take, if_pos hki] at hk
  rw [at_uniq h.nodup hj hk]
  exact hki
/-- where the parts stand: the lowest things, lined up -/
def los (lw : Nat → Nat) (os : List Int) : List Int := os.filter fun x => decide ((lw x.toNat : Int) = x)
theorem pts_los (n : Nat) (lw : Nat → Nat) (os : List Int) : pts n lw os = (los lw os).map fun x => mem1 n lw x.toNat := rfl
theorem los_gn {ps : List Pr} {n : Nat} {lw : Nat → Nat} {N : Nat → List Int} {os : List Int} (h : Lws ps n lw) (hN : LstR n (btw lw ps) N) (hl : Ln N n os) : Gn (fun x => (0 ≤ x ∧ x < (n : Int)) ∧ decide ((lw x.toNat : Int) = x) = true) (fun x z => (⟨x, z⟩ : Pr) ∈ btw lw ps) (los lw os) :=
  (hl.gn hN).filter _ fun x hx hp z hz => by
    obtain ⟨p, hp, -, -, rfl⟩ := mem_btw.1 hz
    have := h.rng p hp
    rw [decide_eq_true_eq, show ((lw p.b.toNat : Int)).toNat = lw p.b.toNat by omega, h.idem (x := p.b.toNat) (by omega)]
theorem pts_at {n i : Nat} {lw : Nat → Nat} {os : List Int} {p : List Int} {x : Nat} (h : (pts n lw os)[i]? = some p) (hr : ∀ y ∈ os, 0 ≤ y ∧ y < (n : Int)) (hx : (x : Int) ∈ p) : (los lw os)[i]? = some (lw x : Int) := by
  rw [pts_los, List.getElem?_map] at h
  obtain ⟨y, hy, e⟩ := Option.map_eq_some_iff.1 h
  subst e
  obtain ⟨x', e, -, h3⟩ := mem_mem1.1 hx
  have e' : x' = x := by omega
  subst e'
  have := hr y (List.mem_filter.1 (List.mem_of_getElem? hy)).1
  rw [hy, h3]
  congr 1
  omega
/-- what is needed stands in an earlier part, or in the same -/
theorem pts_edge {ps : List Pr} {n : Nat} {lw : Nat → Nat} {N : Nat → List Int} {os : List Int} (h : Lws ps n lw) (hN : LstR n (btw lw ps) N) (hl : Ln N n os) {u v i j : Nat} {p q : List Int} (he : Eg ps u v) (hp : (pts n lw os)[i]? = some p) (hq : (pts n lw os)[j]? = some q) (hu : (u : Int) ∈ p) (hv : (v : Int) ∈ q) : j ≤ i := by
  have h1 := pts_at hp hl.rng hu
  have h2 := pts_at hq hl.rng hv
  have hg := los_gn h hN hl
  by_cases e : lw u = lw v
  · rw [e] at h1
    have := at_uniq hg.nodup h1 h2
    omega
  · have := hg.before h1 h2 (mem_btw.2 ⟨_, he, by simpa using e, by simp, by simp⟩)
    omega
theorem flat_before {pss : List (List Int)} (hn : pss.flatten.Nodup) {i j a b : Nat} {p q : List Int} {x y : Int} (hp : pss[i]? = some p) (hq : pss[j]? = some q) (hij : i < j) (hx : x ∈ p) (hy : y ∈ q) (ha : pss.flatten[a]? = some x) (hb : pss.flatten[b]? = some y) : a < b := by
  have hsp : pss.flatten = (pss.take j).flatten ++ (pss.drop j).flatten := by rw [← List.flatten_append, List.take_append_drop]
  have h1 : x ∈ (pss.take j).flatten := List.mem_flatten.2 ⟨p, List.mem_of_getElem? (by rw [List.getElem?_take, if_pos hij]; exact hp), hx⟩
  have h2 : y ∈ (pss.drop j).flatten := List.mem_flatten.2 ⟨q, List.mem_of_getElem? (i := 0) (by rw [List.getElem?_drop]; exact hq), hy⟩
  obtain ⟨c, hc⟩ := List.getElem?_of_mem h1
  obtain ⟨d, hd⟩ := List.getElem?_of_mem h2
  have hcl := (List.getElem?_eq_some_iff.1 hc).1
  have h3 : pss.flatten[c]? = some x := by rw [hsp, List.getElem?_append_left hcl]; exact hc
  have h4 : pss.flatten[(pss.take j).flatten.length + d]? = some y := by rw [hsp, List.getElem?_append_right (by omega), Nat.add_sub_cancel_left]; exact hd
  have := at_uniq hn ha h3
  have := at_uniq hn hb h4
  omega
theorem flat_nodup : ∀ {pss : List (List Int)}, (∀ (i : Nat) p, pss[i]? = some p → p.Nodup) → (∀ (i j : Nat) p q (y : Int), pss[i]? = some p → pss[j]? = some q → y ∈ p → y ∈ q → i = j) → pss.flatten.Nodup
  | [], _, _ => List.nodup_nil
  | p :: pss, h1, h2 => by
    rw [List.flatten_cons, List.nodup_append]
    refine ⟨h1 0 p rfl, flat_nodup (fun i q hq => h1 (i + 1) q hq) (fun i j q r y hq hr hy hy' => by have := h2 (i + 1) (j + 1) q r y hq hr hy hy'; omega), fun a ha b hb e => ?_⟩
    obtain ⟨q, hq, hbq⟩ := List.mem_flatten.1 hb
    obtain ⟨i, hi⟩ := List.getElem?_of_mem hq
    have := h2 0 (i + 1) p q a rfl hi ha (by rw [e]; exact hbq)
    omega
theorem Prt.flat {ps : List Pr} {n : Nat} {pss : List (List Int)} (h : Prt ps n pss) : pss.flatten.Nodup ∧ (∀ y ∈ pss.flatten, 0 ≤ y ∧ y < (n : Int)) ∧ pss.flatten.length = n := by
  have h1 : pss.flatten.Nodup := flat_nodup (fun i p hp => pw_nodup (h.up i p hp).1) h.one
  have h2 : ∀ y ∈ pss.flatten, 0 ≤ y ∧ y < (n : Int) := fun y hy => by
    obtain ⟨p, hp, hyp⟩ := List.mem_flatten.1 hy
    obtain ⟨i, hi⟩ := List.getElem?_of_mem hp
    exact (h.up i p hi).2.2 y hyp
  refine ⟨h1, h2, (full_iff h1 h2).2 fun x hx => ?_⟩
  obtain ⟨i, p, hp, hxp⟩ := h.all x hx
  exact List.mem_flatten.2 ⟨p, List.mem_of_getElem? hp, hxp⟩
/-- all parts of one thing, none needs itself: the order is the parts -/
theorem Prt.single {ps : List Pr} {n : Nat} {lw : Nat → Nat} {N N1 : Nat → List Int} {os o1 : List Int} (h : Lws ps n lw) (hN : LstR n (btw lw ps) N) (hl : Ln N n os) (hs : ∀ p ∈ pts n lw os, p.length = 1) (hno : ∀ x, ¬ Eg ps x x) (hN1 : LstR n ps N1) (hl1 : Ln N1 n o1) : o1.length = n ∧ o1 = (pts n lw os).flatten := by
  have hP := pts_prt h hN hl
  have hone : ∀ x y : Nat, x < n → y < n → Sam ps x y → x = y := fun x y hx hy hxy => by
    obtain ⟨i, p, hp, hxp⟩ := hP.all x hx
    have hyp := (hP.sam i p x y hp hxp).2 ⟨hy, hxy⟩
    have h1 := hs p (List.mem_of_getElem? hp)
    obtain ⟨z, rfl⟩ := List.length_eq_one_iff.1 h1
    rw [List.mem_singleton] at hxp hyp
    omega
  have hlw : ∀ x, x < n → lw x = x := fun x hx => (hone x (lw x) hx (h.lt hx) (h.low x hx).1).symm
  have hnc : ∀ x, ¬ OnC ps x := fun x ⟨z, he, hr⟩ => by
    obtain ⟨hx, hz⟩ := h.edge he
    have := hone x z hx hz ⟨.step he (.refl _), hr⟩
    subst this
    exact hno x he
  have hfull : o1.length = n := (full_iff hl1.nod hl1.rng).2 fun x hx => all_in h.rng hN1 hl1 hnc _ x hx (Nat.le_refl _)
  refine ⟨hfull, ?_⟩
  have hbt : ∀ x z : Int, (⟨x, z⟩ : Pr) ∈ btw lw ps ↔ (⟨x, z⟩ : Pr) ∈ ps := fun x z => by
    rw [mem_btw]
    constructor
    · rintro ⟨p, hp, -, rfl, rfl⟩
      have := h.rng p hp
      rw [hlw _ (by omega), hlw _ (by omega), show ((p.a.toNat : Nat) : Int) = p.a by omega, show ((p.b.toNat : Nat) : Int) = p.b by omega]
      exact hp
    · intro hp
      have := h.rng _ hp
      simp only at this
      refine ⟨_, hp, ?_, ?_, ?_⟩
      · simp only
        rw [hlw _ (by omega), hlw _ (by omega)]
        intro e
        refine hno x.toNat ?_
        show (⟨((x.toNat : Nat) : Int), ((x.toNat : Nat) : Int)⟩ : Pr) ∈ ps
        rw [show ((x.toNat : Nat) : Int) = x by omega]
        have ez : z = x := by omega
        rw [ez] at hp
        exact hp
      · simp only; rw [hlw _ (by omega)]; omega
      · simp only; rw [hlw _ (by omega)]; omega
  have e1 : o1 = os := (hl1.gn hN1).uniq ((hl.gn hN).congr (fun x => Iff.rfl) (fun x _ z => hbt x z))
  have e2 : los lw os = os := List.filter_eq_self.2 fun y hy => by
    have := hl.rng y hy
    rw [decide_eq_true_eq, hlw _ (by omega)]
    omega
  rw [e1, pts_los, e2]
  have key : ∀ l : List Int, (∀ y ∈ l, 0 ≤ y ∧ y < (n : Int)) → (l.map fun x => mem1 n lw x.toNat).flatten = l := by
    intro l
    induction l with
    | nil => intro _; rfl
    | cons a l ih =>
      intro hl
      have ha := hl a List.mem_cons_self
      rw [List.map_cons, List.flatten_cons, ih (fun y hy => hl y (List.mem_cons_of_mem _ hy))]
      have hm : mem1 n lw a.toNat = [a] := sorted_unique _ _ (mem1_up _ _ _) (by simp) fun y => by
        rw [mem_mem1, List.mem_singleton]
        constructor
        · rintro ⟨x, rfl, hx, e⟩
          rw [hlw x hx] at e
          omega
        · rintro rfl
          exact ⟨y.toNat, by omega, by omega, hlw _ (by omega)⟩
      rw [hm]
      rfl
  exact (key os hl.rng).symm
/-- a part of more things, or a thing that needs itself: a cycle -/
theorem Prt.cyc {ps : List Pr} {n : Nat} {pss : List (List Int)} (h : Prt ps n pss) (hs : ¬ ((∀ p ∈ pss, p.length = 1) ∧ ∀ x, ¬ Eg ps x x)) : ∃ x, OnC ps x := by
  apply Classical.byContradiction
  intro hno
  refine hs ⟨fun p hp => ?_, fun x he => hno ⟨x, x, he, .refl _⟩⟩
  obtain ⟨i, hi⟩ := List.getElem?_of_mem hp
  obtain ⟨hup, hne, hrg⟩ := h.up i p hi
  cases p with
  | nil => exact absurd rfl hne
  | cons a p =>
    cases p with
    | nil => rfl
    | cons b p =>
      have ha := hrg a (by simp)
      have hb := hrg b (by simp)
      have hab : a < b := (List.pairwise_cons.1 hup).1 b (by simp)
      obtain ⟨a, rfl⟩ : ∃ x : Nat, a = (x : Int) := ⟨a.toNat, by omega⟩
      obtain ⟨b, rfl⟩ : ∃ x : Nat, b = (x : Int) := ⟨b.toNat, by omega⟩
      have hs := ((h.sam i _ a b hi (by simp)).1 (by simp)).2
      obtain ⟨u, hu, hr⟩ := hs.1.first (by omega)
      exact absurd ⟨a, u, hu, hr.trans hs.2⟩ hno
end Go.Proofs.Ytgijcbipnjmhgab

namespace Go.Proofs.Ytgijcbipnjmhgab
open Go.ChangeShapes Go.WideShapes Go.ChangeAt Go.RowKit
set_option linter.unusedVariables false
set_option linter.unusedSimpArgs false

/-- where the way goes on: the next one, and what the list will be -/
def Nx (ps : List Pr) (f : Nat) (cs : List Int) (x : Nat) : Prop := (x = f → Cyc ps f f cs) ∧ (x ≠ f → ∀ l, Cyc ps f x l → Cyc ps f f (cs ++ (x : Int) :: l))
theorem Nx.start {ps : List Pr} {f x : Nat} (h : Nst ps f f x) : Nx ps f [] x :=
  ⟨fun e => by subst e; exact .fin h, fun e l hl => .more h e hl⟩
theorem Nx.step {ps : List Pr} {f x y : Nat} {cs : List Int} (h : Nx ps f cs x) (hx : x ≠ f) (hy : Nst ps f x y) : Nx ps f (cs ++ [(x : Int)]) y :=
  ⟨fun e => by subst e; exact h.2 hx [] (.fin hy), fun e l hl => by rw [List.append_assoc]; exact h.2 hx _ (.more hy e hl)⟩
theorem Fr.go {ps : List Pr} {n f x m : Nat} {F : Nat → Nat} {l : List Int} (hF : Fr ps n f F) (hl : ∀ z, z ∈ l ↔ (⟨(x : Int), z⟩ : Pr) ∈ ps) (hr : ∀ y ∈ l, 0 ≤ y ∧ y < (n : Int)) (hM : Mf F l l.length m) (hw : ∃ z k, Eg ps x z ∧ Wy ps f k z) : m < n ∧ F m < n ∧ Nst ps f x m ∧ Ds ps f m (F m) := by
  have hm : (m : Int) ∈ l := List.mem_of_mem_take hM.mem
  have hmn := hr _ hm
  have h1 := hF.nst hl hm (by omega) (fun z hz => hM.min z (by rw [List.take_length]; exact hz)) hw
  exact ⟨by omega, (hF.wy m _ h1.2.1).2, h1⟩
theorem Fr.some {ps : List Pr} {n f x : Nat} {F : Nat → Nat} (hx : Ds ps f x (F x)) (hne : x ≠ f) : ∃ z k, Eg ps x z ∧ Wy ps f k z := by
  cases hd : F x with
  | zero => rw [hd] at hx; exact absurd hx.zero hne
  | succ d =>
    rw [hd] at hx
    obtain ⟨z, he, hz⟩ := hx.next
    exact ⟨z, d, he, hz.1⟩
theorem Fr.dec {ps : List Pr} {n f x m : Nat} {F : Nat → Nat} {l : List Int} (hF : Fr ps n f F) (hl : ∀ z, z ∈ l ↔ (⟨(x : Int), z⟩ : Pr) ∈ ps) (hM : Mf F l l.length m) (hx : Ds ps f x (F x)) (hne : x ≠ f) (hm : Ds ps f m (F m)) : F m + 1 = F x := by
  have he : Eg ps x m := (hl _).1 (List.mem_of_mem_take hM.mem)
  have h1 := hx.2 _ (.cons he hm.1)
  cases hd : F x with
  | zero => rw [hd] at hx; exact absurd hx.zero hne
  | succ d =>
    rw [hd] at hx
    obtain ⟨z, hez, hz⟩ := hx.next
    have h2 := hF.wy z d hz.1
    have h3 := (hF.ds z h2.1 (by omega)).uniq hz
    have h4 := (hM.min z (by rw [List.take_length]; exact (hl _).2 hez)).1
    omega
set_option maxRecDepth 1000000 in
set_option maxHeartbeats 4000000 in
theorem cycle_any (gV gD n : Nat) (N D : Nat → List Int) (ps qs : List Pr) (w : World) (hN : Rl w.heap.size w gV n N) (hD : Rl w.heap.size w gD n D) (hA : LstR n ps N) (hA2 : LstR n qs D) (hq : Trn ps qs) (hps : ∀ p ∈ ps, (0 ≤ p.a ∧ p.a < (n : Int)) ∧ (0 ≤ p.b ∧ p.b < (n : Int))) (hqs : ∀ p ∈ qs, (0 ≤ p.a ∧ p.a < (n : Int)) ∧ (0 ≤ p.b ∧ p.b < (n : Int))) (hn : n ≤ 131072) (hex : ∃ x, OnC ps x) :
    Calls Try.prog 21 #[.slice (some ⟨gV, 0, none⟩) n n, .slice (some ⟨gD, 0, none⟩) n n] w fun e w' => ∃ v, e = .returned v ∧ Below w.heap.size w w' ∧ ∃ (f : Nat) (l : List Int), w'.ownsRow w.heap.size 3 1 v ((f : Int) :: l).length (flat ((f : Int) :: l)) ∧ Fst ps f ∧ Cyc ps f f l := by
  have hmf : ∀ (fn : Fn) (first cap : Array Value) (w : World), (Instr.makeFunc fn first cap).run Try.prog w = .ok (.func fn first cap) w := fun _ _ _ _ => rfl
  obtain ⟨i0, hi0, hz0, hz1, hz2⟩ := info_parts infoIntH
  have hn0 : 0 < n := by
    obtain ⟨x, z, he, -⟩ := hex
    have := hps _ he
    simp only at this
    omega
  have HN := hidH hN
  have HD := hidH hD
  have HA := hidH hA
  have HA2 := hidH hA2
  have HQ := hidH hq
  have HPS := hidH hps
  have HQS := hidH hqs
  have HEX := hidH hex
  clear hN hD hA hA2 hq hps hqs hex
  go_enter Try.func21, Try.ntmps21
  go_upto_region 1 with fail
  obtain ⟨w1, e1, hb1, hs1, X1⟩ := bx1 w #[.slice (some ⟨gV, 0, none⟩) n n] 43
  obtain ⟨B, hB⟩ : ∃ B, w.heap.size = B := ⟨_, rfl⟩
  rw [e1]
  rw [hB] at HN HD X1 hb1 hs1 ⊢
  have c1 := X1.one
  have HC1 := hidH c1
  have HB1 := hidH hb1
  have HS1 := hidH hs1
  have hlt1 : B < w1.heap.size := by omega
  have hdr : Below w1.heap.size w1 w1.drew := ⟨rfl, rfl, rfl, Nat.le_refl _, fun _ _ => rfl⟩
  have hbd : Below B w w1.drew := hb1.trans (hdr.mono (by omega))
  have HDR := hidH hdr
  have LO := hidH (lowests_any gV gD n N D ps qs w1.drew ((HN.out.below hbd).up (Nat.le_of_lt hlt1)) ((HD.out.below hbd).up (Nat.le_of_lt hlt1)) (HA.out.lst hn (fun p hp => (HPS.out p hp).2)) (HA2.out.lst hn (fun p hp => (HQS.out p hp).2)) HQ.out (fun p hp => (HPS.out p hp).2) (fun p hp => (HQS.out p hp).2) hn)
  have OC : Hid (∀ (L : Value) (ls : List Int) (w2 : World), w2.ownsRow w1.drew.heap.size 3 1 L n (flat ls) → Below w1.drew.heap.size w1.drew w2 → (∀ y : Nat, y < n → ∃ z : Nat, ls[y]? = some (z : Int) ∧ Low ps y z) → Calls Try.prog 40 #[.slice (some ⟨gV, 0, none⟩) n n, L] w2 fun e w' => Below w2.heap.size w2 w' ∧ ∃ f : Nat, e = .returned (.int .i64 (f : Int)) ∧ f < n ∧ Fst ps f) := fun L ls w2 ho hb hlow => by
    obtain ⟨lw, hlw, hlv⟩ := lws_of HPS.out hlow
    obtain ⟨aL, cL, rfl, haL, -⟩ := own_slice ho
    obtain ⟨gL, rfl⟩ := haL hn0
    have hb2 : Below B w w2 := hbd.trans (hb.mono (Nat.le_of_lt hlt1))
    exact onCycle_any gV gL n cL N lw ps w2 ((HN.out.below hb2).up (Nat.le_trans (Nat.le_of_lt hlt1) hb.size)) HA.out ⟨(ho.lt gL rfl).2, fun y hy => (row_cell ho (hlv y hy)).1⟩ hlw HEX.out hn
  clear e1 hb1 hs1 X1 hdr hbd
  go_cut [5] (fun sl wc => ∃ f : Nat, sl = .int .i64 (f : Int) ∧ f < n ∧ Fst ps f ∧ Below w1.heap.size w1 wc)
  case first =>
    go_region_with (first
      | (go_at_call 22; (with_reducible refine LO.out.mono ?_); clear LO; rintro e w2 ⟨L, ls, rfl, hoL, hb2, hlow⟩; have c2 := (hb2.cell (p := ⟨B, 0, none⟩) hlt1).trans c1; have OC2 := hidH (OC.out L ls w2 hoL hb2 hlow); have HB2 := hidH (HDR.out.trans hb2); clear hoL hb2 hlow OC)
      | (go_at_call 40; (with_reducible refine OC2.out.mono ?_); clear OC2; rintro e w3 ⟨hb3, f, rfl, hfn, hF⟩; have HB3 := hidH (HB2.out.trans (hb3.mono HB2.out.size)); have HF := hidH hF; have HFN := hidH hfn; clear hb3 hF hfn))
    all_goals
      go_wp2_with fail
      go_meet
      exact ⟨_, rfl, HFN.out, HF.out, HB3.out⟩
  case rest =>
    obtain ⟨f, rfl, hfn, hF, hbw⟩ := hcut
    have HF := hidH hF
    have HBW := hidH hbw
    obtain ⟨w4, hw4⟩ : ∃ w4, w4 = wc := ⟨wc, rfl⟩
    subst hw4
    have hb4 : Below B w w4 := HB1.out.trans (hbw.mono (Nat.le_of_lt hlt1))
    have hlt4 : B < w4.heap.size := Nat.lt_of_lt_of_le hlt1 hbw.size
    have hDm : ∀ x, x < n → (D x).length ≤ n ∧ ∀ y, y ∈ D x ↔ (⟨y, (x : Int)⟩ : Pr) ∈ ps := fun x hx =>
      ⟨nodup_le (pw_nodup (HA2.out x hx).1) (fun y hy => (HQS.out _ (((HA2.out x hx).2 y).1 hy)).2), fun y => ((HA2.out x hx).2 y).trans (HQ.out _ _)⟩
    have FF := hidH (farFrom_any gD n f D ps w4 ((HD.out.below hb4).up (Nat.le_of_lt hlt4)) hDm HPS.out hfn hn)
    have HB4 := hidH hb4
    clear LO OC hF hbw hb4 hDm c1
    go_upto_region 3 with (first
      | (go_at_call 41; (with_reducible refine FF.out.mono ?_); clear FF; rintro e w5 ⟨rfl, hb5, F, ho5, hFr⟩; have HB5 := hidH hb5; have OF := hidH ho5; have FR := hidH hFr; clear hb5 ho5 hFr))
    obtain ⟨gF, hgF⟩ : ∃ gF, w4.heap.size = gF := ⟨_, rfl⟩
    obtain ⟨bF, hbF⟩ : ∃ bF, w5.heap.size = bF := ⟨_, rfl⟩
    obtain ⟨w6, e6, hb6, hs6, X6⟩ := bx1 w5 #[.slice (some ⟨gF, 0, none⟩) n n] 24
    rw [hgF] at OF ⊢
    rw [e6, hbF]
    have hgb := (OF.out.lt gF rfl).2
    have h45 := HB5.out.size
    have CF : Hid (Cf2 w6.heap.size bF gF n F w6) := ⟨by omega, by omega, by rw [← hbF]; exact X6.one, fun y hy => (hb6.cell (p := ⟨gF, y, none⟩) hgb).trans (row_cell OF.out (fL_get F hy)).1⟩
    have HB6 : Hid (Below B w w6) := HB4.out.trans ((HB5.out.trans (hb6.mono h45)).mono (Nat.le_of_lt hlt4))
    have CN : Hid (Cn2 w6.heap.size B gV n N w6) := by
      refine ⟨by omega, ?_, (HN.out.below HB6.out).up (by omega)⟩
      have h1 : Below w1.heap.size w1 w6 := HBW.out.trans ((HB5.out.trans (hb6.mono h45)).mono HBW.out.size)
      exact (h1.cell (p := ⟨B, 0, none⟩) hlt1).trans HC1.out
    obtain ⟨C, hC⟩ : ∃ C, w6.heap.size = C := ⟨_, rfl⟩
    have HCE := hidH hC
    have hBC : B ≤ C := by omega
    rw [hC] at CF CN
    have NS : Hid (∀ (x : Nat) (wq : World), x < n → (∃ z k, Eg ps x z ∧ Wy ps f k z) → Below C w6 wq → Calls Try.prog 42 #[.int .i64 (x : Int), .pointer (some ⟨B, 0, none⟩), .pointer (some ⟨bF, 0, none⟩)] wq fun e w' => Below wq.heap.size wq w' ∧ ∃ m : Nat, e = .returned (.int .i64 (m : Int)) ∧ Mf F (N x) (N x).length m) := fun x wq hx hw hq => by
      refine nearest_any C B gV bF gF n x F N wq (by have := hq.size; have := HCE.out; omega) (CN.out.below hq) (CF.out.below hq) hx (HA.out x hx).1 (fun y hy => (HPS.out _ (((HA.out x hx).2 y).1 hy)).2) ?_ hn
      intro e
      obtain ⟨z, k, he, -⟩ := hw
      have := ((HA.out x hx).2 _).2 he
      rw [e] at this
      cases this
    have GO : Hid (∀ x m : Nat, x < n → Mf F (N x) (N x).length m → (∃ z k, Eg ps x z ∧ Wy ps f k z) → m < n ∧ F m < n ∧ Nst ps f x m ∧ Ds ps f m (F m)) := fun x m hx hM hw => FR.out.go (HA.out x hx).2 (fun y hy => (HPS.out _ (((HA.out x hx).2 y).1 hy)).2) hM hw
    have HWF : Hid (∃ z k, Eg ps f z ∧ Wy ps f k z) := by
      obtain ⟨z, he, hr⟩ := HF.out.1
      obtain ⟨k, hk⟩ := hr.wy
      exact ⟨z, k, he, hk⟩
    have h6r := hidH (Below.refl C w6)
    clear e6 hb6 hs6 X6 CF CN OF
    go_upto_region 5 with fail
    obtain ⟨w7, e7, hb7, hs7, X7⟩ := bx1 w6 #[.int .i64 (f : Int)] 3
    have OO : Hid (w7.ownsRow C 3 1 (.slice (some ⟨C, 0, none⟩) 1 1) ([(f : Int)]).length (flat [(f : Int)])) := by
      have h1 := own_one C w6 (.int .i64 (f : Int)) 3 (by omega)
      rw [e7, hC] at h1
      exact h1
    have E7 : Hid (Below C w6 w7) := by rw [hC] at hb7; exact hb7
    have N7 := hidH (NS.out f w7 hfn HWF.out E7.out)
    rw [e7]
    clear hb7 hs7 X7 e7 h6r
    go_upto_region 6 with (first
      | (go_at_call 42; (with_reducible refine N7.out.mono ?_); clear N7; rintro e w8 ⟨hb8, m, rfl, hM⟩; have G8 := hidH (GO.out f m hfn hM HWF.out); have O8 := hidH (own_belowR OO.out hb8 (Nat.le_refl _)); have E8 := hidH (E7.out.trans (hb8.mono (by have := E7.out.size; have := HCE.out; omega))); clear hb8 hM))
    go_wp2
    go_loopg [8, 9] (F m) (fun gk s8 s9 wr => ∃ (x : Nat) (cs : List Int) (V : Value), gk = F x ∧ s8 = V ∧ s9 = .int .i64 (x : Int) ∧ x < n ∧ F x + cs.length + 1 ≤ n ∧ wr.ownsRow C 3 1 V ((f : Int) :: cs).length (flat ((f : Int) :: cs)) ∧ Nx ps f cs x ∧ Ds ps f x (F x) ∧ Below C w6 wr)
    case atStart => exact ⟨m, [], _, rfl, rfl, rfl, G8.out.1, by have := G8.out.2.1; simp; omega, O8.out, Nx.start G8.out.2.2.1, G8.out.2.2.2, E8.out⟩
    case round =>
      clear O8 E8 G8 OO E7
      obtain ⟨x, cs, V, hgk, rfl, rfl, hxn, hlen, hO, hNx, hDs, hE⟩ := hrel
      have OO := hidH hO
      have NX := hidH hNx
      have DS := hidH hDs
      have EE := hidH hE
      have HGK := hidH hgk
      clear hO hNx hDs hE hgk
      by_cases hxf : x = f
      · subst hxf
        go_wp2
        go_ret
        exact ⟨_, rfl, by rw [hB]; exact HB6.out.trans (EE.out.mono hBC), x, cs, by rw [hB]; exact own_lower OO.out hBC, HF.out, NX.out.1 rfl⟩
      · have hxf1 : ((x : Int) == (f : Int)) = false := by rw [beq_eq_false_iff_ne]; omega
        have hxf2 : ¬ (x : Int) = (f : Int) := by omega
        obtain ⟨aV, cV, hV, -, -⟩ := own_slice OO.out
        subst hV
        obtain ⟨q, hq⟩ : ∃ q, ((f : Int) :: cs).length = q := ⟨_, rfl⟩
        have hqn : q + F x ≤ n := by rw [← hq, List.length_cons]; omega
        have HQL := hidH hq
        obtain ⟨zA, eA, hbA, hsA, BA⟩ := bx1 wr #[.int .i64 (x : Int)] 3
        have OA : Hid (zA.ownsRow C 3 1 (.slice aV q cV) q (flat ((f : Int) :: cs))) := by have h9 := own_belowR OO.out hbA (Nat.le_refl _); rw [hq] at h9; exact h9
        have hCw : C ≤ wr.heap.size := by have := EE.out.size; have := HCE.out; omega
        have EA := hidH (EE.out.trans (hbA.mono hCw))
        have NA : Hid (∀ j u, [Value.int .i64 (x : Int)][j]? = some u → zA.cell? ((⟨wr.heap.size, 0, none⟩ : Addr).add j) = some u) := by unfold Hid; rw [← eA]; exact cells_newH wr [Value.int .i64 (x : Int)] 3
        have HEA := hidH eA
        have HSA := hidH hsA
        have hBA : C ≤ zA.heap.size := by omega
        have hxs := hidH (Fr.some (n := n) DS.out hxf)
        rw [hq]
        clear eA hbA hsA BA hq OO
        go_wp2_with (first
          | (at_builtin; rw [HEA.out]; refine wpList_append_lies _ rfl _ _ 24 rfl C 3 i0 (.int .i64 0) 1 8 Try.underlying24 hi0 hz0 hz1 hz2 rfl (by decide) (.slice aV q cV) q (flat ((f : Int) :: cs)) rfl OA.out ⟨wr.heap.size, 0, none⟩ 1 1 [Value.int .i64 (x : Int)] rfl rfl NA.out (by intro u hu; simp at hu; subst hu; rfl) (by decide) (by unfold maxLen; omega) (by omega) hBA (wr.heap.size + 1) HSA.out ?_; intro gg cp w9 hown9 hgrow9 hat9 hlt9; have O9 : Hid (w9.ownsRow C 3 1 (.slice (some ⟨gg, 0, none⟩) (q + 1) cp) ((f : Int) :: (cs ++ [(x : Int)])).length (flat ((f : Int) :: (cs ++ [(x : Int)])))) := (by unfold Hid; rw [← List.cons_append, flat_append, List.length_append, List.length_singleton, HQL.out]; exact hown9); have E9 : Hid (Below C w6 w9) := (EA.out.grown hgrow9 (by have := EA.out.size; have := HCE.out; omega) (fun g e => (OA.out.lt g e).1)); have N9 := hidH (NS.out x w9 hxn hxs.out E9.out); clear hown9 hgrow9 hat9 hlt9)
          | (go_at_call 42; (with_reducible refine N9.out.mono ?_); clear N9; rintro e wN ⟨hbN, m2, rfl, hM⟩; have G9 := hidH (GO.out x m2 hxn hM hxs.out); have D9 := hidH (FR.out.dec (HA.out x hxn).2 hM DS.out hxf G9.out.2.2.2); have OB := hidH (own_belowR O9.out hbN (Nat.le_refl _)); have EB := hidH (E9.out.trans (hbN.mono (by have := E9.out.size; have := HCE.out; omega))); clear hbN hM))
        go_roundg (F m2)
        case measure => have := D9.out; have := HGK.out; omega
        case rel => exact ⟨m2, cs ++ [(x : Int)], _, rfl, rfl, rfl, G9.out.1, by have := D9.out; rw [List.length_append, List.length_singleton]; omega, OB.out, NX.out.step hxf G9.out.2.2.1, G9.out.2.2.2, EB.out⟩
end Go.Proofs.Ytgijcbipnjmhgab
