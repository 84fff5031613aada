import Derived.Test.YtgijcbipnjmhgaaGq2
import Derived.Test.YtgijcbipnjmhgaaPt2
import Derived.BigQuiet
import Derived.Test.YtgijcbipnjmhgaaTg0
import Derived.Test.YtgijcbipnjmhgaaGraphTiedProof
import Derived.Test.YtgijcbipnjmhgaaOpp
namespace Go.Proofs.Ytgijcbipnjmhgaa
set_option linter.unusedVariables false
set_option linter.unusedSimpArgs false

/-- where onCycle stops -/
def Stp (ps : List Pr) (lw : Nat → Nat) (n x : Nat) : Prop := (∃ y, y < n ∧ y ≠ x ∧ lw y = x) ∨ Eg ps x x
theorem Rch.first {ps : List Pr} {x y : Nat} (h : Rch ps x y) (hne : x ≠ y) : ∃ z, Eg ps x z ∧ Rch ps z y := by
  cases h with
  | refl => exact absurd rfl hne
  | step e k => exact ⟨_, e, k⟩
theorem Stp.onc {ps : List Pr} {n x : Nat} {lw : Nat → Nat} (h : Lws ps n lw) (hs : Stp ps lw n x) : OnC ps x := by
  rcases hs with ⟨y, hy, hne, e⟩ | hs
  · have h1 := (h.low y hy).1
    rw [e] at h1
    obtain ⟨z, hz, hr⟩ := h1.2.first (fun e => hne e.symm)
    exact ⟨z, hz, hr.trans h1.1⟩
  · exact ⟨x, hs, .refl _⟩
theorem Lws.edge {ps : List Pr} {n x z : Nat} {lw : Nat → Nat} (h : Lws ps n lw) (he : Eg ps x z) : x < n ∧ z < n := by
  have := h.rng _ he
  simp only at this
  omega
theorem OnC.stp {ps : List Pr} {n x : Nat} {lw : Nat → Nat} (h : Lws ps n lw) (hs : OnC ps x) : ∃ z, z ≤ x ∧ Stp ps lw n z := by
  obtain ⟨z, hz, hr⟩ := hs
  obtain ⟨hx, hzn⟩ := h.edge hz
  have hle := (h.low x hx).2 x (Sam.refl ps x)
  by_cases e : lw x = x
  · refine ⟨x, Nat.le_refl _, ?_⟩
    by_cases e2 : z = x
    · subst e2; exact .inr hz
    · exact .inl ⟨z, hzn, e2, ((h.eq hzn hx).2 ⟨hr, .step hz (.refl _)⟩).trans e⟩
  · exact ⟨lw x, hle, .inl ⟨x, hx, fun e2 => e e2.symm, rfl⟩⟩
/-- the lowest thing on a cycle -/
def Fst (ps : List Pr) (f : Nat) : Prop := OnC ps f ∧ ∀ y, OnC ps y → f ≤ y
theorem Fst.uniq {ps : List Pr} {f g : Nat} (h : Fst ps f) (k : Fst ps g) : f = g := by
  have := h.2 _ k.1
  have := k.2 _ h.1
  omega
theorem stp_fst {ps : List Pr} {n x : Nat} {lw : Nat → Nat} (h : Lws ps n lw) (hs : Stp ps lw n x) (hb : ∀ y, y < x → ¬ Stp ps lw n y) : Fst ps x :=
  ⟨hs.onc h, fun y hy => by
    obtain ⟨z, hz, hs2⟩ := hy.stp h
    by_cases e : z < x
    · exact absurd hs2 (hb z e)
    · omega⟩
/-- others, as counted -/
def cnO (lw : Nat → Nat) (k l : Nat) : Nat := ((List.range k).filter fun y => decide (lw y = l) && decide (y ≠ l)).length
theorem cnO_succ (lw : Nat → Nat) (k l : Nat) : cnO lw (k + 1) l = cnO lw k l + if lw k = l ∧ k ≠ l then 1 else 0 := by
  unfold cnO
  rw [List.range_succ, List.filter_append, List.length_append]
  congr 1
  by_cases h : lw k = l ∧ k ≠ l
  · rw [if_pos h, List.filter_cons_of_pos (by simp [h.1, h.2])]; rfl
  · rw [if_neg h, List.filter_cons_of_neg (by simpa using h)]; rfl
theorem cnO_le (lw : Nat → Nat) (k l : Nat) : cnO lw k l ≤ k := by
  unfold cnO
  exact Nat.le_trans (List.length_filter_le _ _) (by rw [List.length_range]; exact Nat.le_refl _)
theorem cnO_zero (lw : Nat → Nat) (k l : Nat) : cnO lw k l = 0 ↔ ∀ y, y < k → ¬ (y ≠ l ∧ lw y = l) := by
  unfold cnO
  rw [List.length_eq_zero_iff, List.filter_eq_nil_iff]
  constructor
  · intro h y hy ⟨h1, h2⟩
    exact h y (List.mem_range.2 hy) (by simp [h1, h2])
  · intro h y hy h2
    simp only [Bool.and_eq_true, decide_eq_true_eq] at h2
    exact h y (List.mem_range.1 hy) ⟨h2.2, h2.1⟩
theorem stp_iff {ps : List Pr} {n x : Nat} {lw : Nat → Nat} : ¬ Stp ps lw n x ↔ cnO lw n x = 0 ∧ ¬ Eg ps x x := by
  rw [cnO_zero]
  unfold Stp
  constructor
  · intro h
    exact ⟨fun y hy hc => h (.inl ⟨y, hy, hc.1, hc.2⟩), fun he => h (.inr he)⟩
  · rintro ⟨h1, h2⟩ (⟨y, hy, h3, h4⟩ | h3)
    · exact h1 y hy ⟨h3, h4⟩
    · exact h2 h3
open Classical in
/-- where nothing is on a cycle, all are lined up -/
theorem all_in {ps : List Pr} {n : Nat} {N : Nat → List Int} {os : List Int} (hr : ∀ p ∈ ps, (0 ≤ p.a ∧ p.a < (n : Int)) ∧ (0 ≤ p.b ∧ p.b < (n : Int))) (hN : LstR n ps N) (hl : Ln N n os) (hno : ∀ x, ¬ OnC ps x) : ∀ c x : Nat, x < n → cntR ps n x ≤ c → (x : Int) ∈ os := by
  intro c
  induction c using Nat.strongRecOn with
  | ind c ih =>
  intro x hx hc
  apply Classical.byContradiction
  intro hxo
  have h1 := hl.no (x : Int)
  unfold Rdy at h1
  have h2 : ∃ z ∈ N x, z ∉ os := by
    apply Classical.byContradiction
    intro h3
    refine h1 ⟨by omega, by omega, hxo, fun z hz => ?_⟩
    rw [show ((x : Int)).toNat = x by omega] at hz
    apply Classical.byContradiction
    intro h4
    exact h3 ⟨z, hz, h4⟩
  obtain ⟨z0, hz, hzo⟩ := h2
  have he := ((hN x hx).2 z0).1 hz
  have hr1 := hr _ he
  simp only at hr1
  obtain ⟨z, rfl⟩ : ∃ z : Nat, z0 = (z : Int) := ⟨z0.toNat, by omega⟩
  have hlt : cntR ps n z < cntR ps n x := by
    unfold cntR
    refine filter_lt (fun y hy => ?_) ⟨x, List.mem_range.2 hx, ?_, ?_⟩
    · rw [decide_eq_true_eq] at hy ⊢; exact .step he hy
    · rw [decide_eq_true_eq]; exact .refl _
    · rw [decide_eq_false_iff_not]; exact fun hb => hno x ⟨z, he, hb⟩
  exact hzo (ih (cntR ps n z) (by omega) z (by omega) (Nat.le_refl _))
theorem ge_all : ∀ (n : Nat) (l : List Int), (∀ x : Nat, x < n → (x : Int) ∈ l) → n ≤ l.length
  | 0, _, _ => Nat.zero_le _
  | n + 1, l, h => by
    have h1 := ge_all n (l.erase (n : Int)) (fun x hx => (List.mem_erase_of_ne (by omega)).2 (h x (by omega)))
    have h2 := h n (Nat.lt_succ_self n)
    have h3 := List.length_pos_of_mem h2
    rw [List.length_erase_of_mem h2] at h1
    omega
theorem full_iff {n : Nat} {os : List Int} (h : os.Nodup) (hr : ∀ y ∈ os, 0 ≤ y ∧ y < (n : Int)) : os.length = n ↔ ∀ x : Nat, x < n → (x : Int) ∈ os := by
  constructor
  · intro hl x hx
    apply Classical.byContradiction
    intro hno
    have := nodup_le (n := n) (os := (x : Int) :: os) (List.nodup_cons.2 ⟨hno, h⟩) (fun y hy => (List.mem_cons.1 hy).elim (fun e => by subst e; omega) (hr y))
    rw [List.length_cons] at this
    omega
  · intro ha
    have h1 := nodup_le h hr
    have h2 := ge_all n os ha
    omega
/-- in a line each thing stands behind what it needs -/
theorem Gd.before {N : Nat → List Int} {n : Nat} {os : List Int} (h : Gd N n os) (hn : os.Nodup) {i j : Nat} {x z : Int} (hi : os[i]? = some x) (hj : os[j]? = some z) (hz : z ∈ N x.toNat) : j < i := by
  obtain ⟨l1, e1⟩ := List.getElem?_eq_some_iff.1 hi
  have hsp : os = os.take i ++ x :: os.drop (i + 1) := by
    rw [← e1, List.getElem_cons_drop, List.take_append_drop]
  have h1 := (h _ _ _ hsp).1.2.2.2 z hz
  obtain ⟨k, hk⟩ := List.getElem?_of_mem h1
  have hki : k < i := by
    have := (List.getElem?_eq_some_iff.1 hk).1
    rw [List.length_take] at this
    omega
  rw [List.getElem?_take, if_pos hki] at hk
  obtain ⟨l2, e2⟩ := List.getElem?_eq_some_iff.1 hk
  obtain ⟨l3, e3⟩ := List.getElem?_eq_some_iff.1 hj
  have hpw := List.pairwise_iff_getElem.1 hn
  rcases Nat.lt_trichotomy k j with hkj | hkj | hkj
  · exact absurd (e2.trans e3.symm) (hpw k j l2 l3 hkj)
  · omega
  · exact absurd (e3.trans e2.symm) (hpw j k l3 l2 hkj)
/-- what is lined up is on no cycle -/
theorem Ln.noc {ps : List Pr} {n : Nat} {N : Nat → List Int} {os : List Int} (hr : ∀ p ∈ ps, (0 ≤ p.a ∧ p.a < (n : Int)) ∧ (0 ≤ p.b ∧ p.b < (n : Int))) (hN : LstR n ps N) (hl : Ln N n os) (hf : os.length = n) (x : Nat) : ¬ OnC ps x := by
  have hall := (full_iff hl.nod hl.rng).1 hf
  have hedge : ∀ u v : Nat, Eg ps u v → u < n ∧ v < n := fun u v he => by
    have := hr _ he
    simp only at this
    omega
  have key : ∀ u v : Nat, Rch ps u v → u < n → ∀ i j : Nat, os[i]? = some (u : Int) → os[j]? = some (v : Int) → j ≤ i := by
    intro u v huv
    induction huv with
    | refl u =>
      intro hu i j hi hj
      obtain ⟨l1, e1⟩ := List.getElem?_eq_some_iff.1 hi
      obtain ⟨l2, e2⟩ := List.getElem?_eq_some_iff.1 hj
      have hpw := List.pairwise_iff_getElem.1 hl.nod
      by_cases hij : i < j
      · exact absurd (e1.trans e2.symm) (hpw i j l1 l2 hij)
      · omega
    | step e _ ih =>
      intro hu i j hi hj
      rename_i x y z _
      have hy := (hedge x y e).2
      obtain ⟨k, hk⟩ := List.getElem?_of_mem (hall y hy)
      have h1 := ih hy k j hk hj
      have h2 := hl.gd.before hl.nod hi hk (by rw [show ((x : Int)).toNat = x by omega]; exact ((hN x hu).2 _).2 e)
      omega
  rintro ⟨z, he, hrz⟩
  obtain ⟨hx, hz⟩ := hedge x z he
  obtain ⟨i, hi⟩ := List.getElem?_of_mem (hall x hx)
  obtain ⟨k, hk⟩ := List.getElem?_of_mem (hall z hz)
  have h1 := key z x hrz hz k i hk hi
  have h2 := hl.gd.before hl.nod hi hk (by rw [show ((x : Int)).toNat = x by omega]; exact ((hN x hx).2 _).2 he)
  omega
/-- where not all are lined up, there is a lowest one on a cycle -/
theorem Ln.fst {ps : List Pr} {n : Nat} {N : Nat → List Int} {os : List Int} (hr : ∀ p ∈ ps, (0 ≤ p.a ∧ p.a < (n : Int)) ∧ (0 ≤ p.b ∧ p.b < (n : Int))) (hN : LstR n ps N) (hl : Ln N n os) (hf : os.length ≠ n) : ∃ x, x < n ∧ OnC ps x := by
  apply Classical.byContradiction
  intro h
  have hno : ∀ x, ¬ OnC ps x := fun x hx => by
    obtain ⟨z, he, hrz⟩ := hx
    have := hr _ he
    simp only at this
    exact h ⟨x, by omega, z, he, hrz⟩
  exact hf ((full_iff hl.nod hl.rng).2 fun x hx => all_in hr hN hl hno _ x hx (Nat.le_refl _))
end Go.Proofs.Ytgijcbipnjmhgaa

namespace Go.Proofs.Ytgijcbipnjmhgaa
open Go.ChangeShapes Go.WideShapes Go.ChangeAt Go.RowKit
set_option linter.unusedVariables false
set_option linter.unusedSimpArgs false

/-- numbers of all things, as a list -/
def fL (n : Nat) (F : Nat → Nat) : List Int := (List.range n).map fun y => (F y : Int)
theorem fL_len (n : Nat) (F : Nat → Nat) : (fL n F).length = n := by unfold fL; simp
theorem fL_get {n y : Nat} (F : Nat → Nat) (h : y < n) : (fL n F)[y]? = some (F y : Int) := by
  unfold fL
  rw [List.getElem?_map, List.getElem?_range h]
  rfl
theorem fL_ext {n : Nat} {l : List Int} {F : Nat → Nat} (hl : l.length = n) (h : ∀ y, y < n → l[y]? = some (F y : Int)) : l = fL n F := by
  refine List.ext_getElem? fun y => ?_
  by_cases hy : y < n
  · rw [h y hy, fL_get F hy]
  · rw [List.getElem?_eq_none (by omega), List.getElem?_eq_none (by rw [fL_len]; omega)]
theorem fL_set {n y v : Nat} (F : Nat → Nat) (h : y < n) : (fL n F).set y (v : Int) = fL n (fun z => if z = y then v else F z) := fL_ext (by rw [List.length_set, fL_len]) fun z hz => by
  rw [List.getElem?_set]
  by_cases e : y = z
  · subst e; rw [if_pos rfl, if_pos (by rw [fL_len]; exact h), if_pos rfl]
  · rw [if_neg e, fL_get F hz, if_neg (fun e2 => e e2.symm)]
theorem fL_congr {n : Nat} {F G : Nat → Nat} (h : ∀ y, y < n → F y = G y) : fL n F = fL n G := fL_ext (fL_len n F) fun y hy => by rw [fL_get F hy, h y hy]
theorem fL_rep (n v : Nat) : List.replicate n (v : Int) = fL n (fun _ => v) := fL_ext (by simp) fun y hy => by rw [List.getElem?_replicate, if_pos hy]
/-- a row of the call's own, made here of one thing -/
theorem own_one (B : Nat) (w : World) (v : Value) (t : TypeId) (hB : B ≤ w.heap.size) : (w.alloc (.cells #[v] t)).ownsRow B t 1 (.slice (some ⟨w.heap.size, 0, none⟩) 1 1) 1 [v] :=
  ⟨rfl, .inr ⟨w.heap.size, 1, #[v], rfl, hB, heap_alloc_new w _, Nat.le_refl _, by unfold maxLen; omega, rfl, rfl⟩⟩
abbrev qI (q : List Nat) : List Int := q.map fun (x : Nat) => (x : Int)
theorem qI_get {q : List Nat} {i x : Nat} (h : q[i]? = some x) : (qI q)[i]? = some (x : Int) := by rw [List.getElem?_map, h]; rfl
theorem Bq.weak {ps : List Pr} {n f i : Nat} {F : Nat → Nat} {q : List Nat} {dn dn' : Nat → Prop} (h : Bq ps n f F q i dn) (hd : ∀ z, dn' z → dn z) : Bq ps n f F q i dn' :=
  ⟨h.nod, h.rng, h.fst, h.zer, h.mkd, h.wy, h.srt, h.lea, h.top, h.old, fun x hx y hy => h.cur x hx y (hd y hy)⟩
theorem take_mem {l : List Int} {j : Nat} {y z : Int} (hy : l[j]? = some y) (hz : z ∈ l.take (j + 1)) : z ∈ l.take j ∨ z = y := by
  obtain ⟨h1, e1⟩ := List.getElem?_eq_some_iff.1 hy
  rw [List.take_succ_eq_append_getElem h1, List.mem_append, List.mem_singleton, e1] at hz
  exact hz
/-- farFrom's world: the distances, the queue -/
structure Fw (B n : Nat) (w : World) (V : Value) (F : Nat → Nat) (q : List Nat) : Prop where
  fr : w.ownsRow B 3 1 (.slice (some ⟨B, 0, none⟩) n n) n (flat (fL n F))
  nx : w.ownsRow B 3 1 V q.length (flat (qI q))
  ap : V.ownBlock ≠ some B
theorem Fw.below {B n : Nat} {w w' : World} {V : Value} {F : Nat → Nat} {q : List Nat} (h : Fw B n w V F q) (hb : Below w.heap.size w w') : Fw B n w' V F q :=
  ⟨own_belowR h.fr hb (Nat.le_refl _), own_belowR h.nx hb (Nat.le_refl _), h.ap⟩
theorem Fw.set {B n y : Nat} {w : World} {V : Value} {F : Nat → Nat} {q : List Nat} (h : Fw B n w V F q) (hy : y < n) (v : Nat) : Fw B n (w.setCell ⟨B, y, none⟩ (.int .i64 (v : Int))) V (fun z => if z = y then v else F z) q := by
  refine ⟨?_, ownsRow_setCell_other h.nx (a := ⟨B, y, none⟩) h.ap _, h.ap⟩
  have h1 := (World.ownsRow.stored h.fr y (.int .i64 (v : Int))).1
  rw [flat_setI, fL_set F hy] at h1
  exact h1
theorem Fw.push {B n y : Nat} {w w' : World} {V V' : Value} {F : Nat → Nat} {q : List Nat} (h : Fw B n w V F q) (ho : w'.ownsRow B 3 1 V' (q.length + 1) (flat (qI q) ++ [.int .i64 (y : Int)])) (hg : w.grownBy w' V.ownBlock) (hn : V'.ownBlock = V.ownBlock ∨ ∃ g, V'.ownBlock = some g ∧ w.heap.size ≤ g) : Fw B n w' V' F (q ++ [y]) := by
  have hB := (h.fr.lt B rfl).2
  refine ⟨own_same h.fr (fun g e => ?_), ?_, ?_⟩
  · cases e
    exact hg.block B hB (fun e2 => h.ap e2.symm)
  · rw [List.length_append, List.length_singleton, qI, List.map_append, flat_append]
    exact ho
  · rcases hn with e | ⟨g, e, hg2⟩
    · rw [e]; exact h.ap
    · rw [e]; intro e2; injection e2; omega
theorem Fw.get {B n y : Nat} {w : World} {V : Value} {F : Nat → Nat} {q : List Nat} (h : Fw B n w V F q) (hy : y < n) : w.cell? ⟨B, y, none⟩ = some (.int .i64 (F y : Int)) ∧ w.frozen? ⟨B, y, none⟩ = false := row_cell h.fr (fL_get F hy)
set_option maxRecDepth 1000000 in
set_option maxHeartbeats 4000000 in
theorem farFrom_any (gD n f : Nat) (D : Nat → List Int) (ps : List Pr) (w : World) (hD : Rl w.heap.size w gD n D) (hm : ∀ x, x < n → (D x).length ≤ n ∧ ∀ y, y ∈ D x ↔ (⟨y, (x : Int)⟩ : Pr) ∈ ps) (hps : ∀ p ∈ ps, (0 ≤ p.a ∧ p.a < (n : Int)) ∧ (0 ≤ p.b ∧ p.b < (n : Int))) (hf : f < n) (hn : n ≤ 131072) :
    Calls Try.prog 50 #[.slice (some ⟨gD, 0, none⟩) n n, .int .i64 (f : Int)] w fun e w' => e = .returned (.slice (some ⟨w.heap.size, 0, none⟩) n n) ∧ Below w.heap.size w w' ∧ ∃ F, w'.ownsRow w.heap.size 3 1 (.slice (some ⟨w.heap.size, 0, none⟩) n n) n (flat (fL n F)) ∧ Fr ps n f F := by
  obtain ⟨i0, hi0, hz0, hz1, hz2⟩ := info_parts infoIntH
  have HD := hidH hD
  have HM := hidH hm
  have HPS := hidH hps
  obtain ⟨B, hB⟩ : ∃ B, w.heap.size = B := ⟨_, rfl⟩
  have H0 := hidH hB
  rw [hB] at HD
  have hf' : (f : Int) < (n : Int) := by omega
  clear hD hm hps
  go_enter Try.func50, Try.ntmps50
  go_wp2_with (at_make; refine wpList_make_full _ rfl _ _ 24 rfl B 3 i0 (.int .i64 0) 1 Try.underlying24 hi0 hz0 hz1 _ _ _ _ n rfl rfl rfl rfl (by rw [hz2]; omega) (by unfold maxLen; omega) (by omega) ?_; intro v1 hown1 hgr1; rw [hB] at hown1 ⊢; have O1 : Hid (v1.ownsRow B 3 1 (.slice (some ⟨B, 0, none⟩) n n) n (flat (fL n (fun y => if y < 0 then n else 0)))) := (by rw [show (Value.int .i64 0).cells = #[.int .i64 0] by rfl, rep_made] at hown1; unfold Hid; rw [fL_congr (G := fun _ => 0) (fun y _ => by simp), ← fL_rep n 0]; rw [show flat (List.replicate n ((0 : Nat) : Int)) = List.replicate n (Value.int .i64 0) by rw [flat_ints, List.map_replicate]; rfl]; exact hown1); have E1 : Hid (Below B w v1) := ((Below.refl _ _).grown hgr1 (by omega) (fun k h => by cases h)); clear hown1 hgr1)
  go_loopg [17] n (fun gk si wr => ∃ k : Nat, gk = n - k ∧ si = .int .i64 (k : Int) ∧ k ≤ n ∧ wr.ownsRow B 3 1 (.slice (some ⟨B, 0, none⟩) n n) n (flat (fL n (fun y => if y < k then n else 0))) ∧ Below B w wr)
  case atStart => exact ⟨0, rfl, rfl, Nat.zero_le _, O1.out, E1.out⟩
  case round =>
    clear O1 E1
    obtain ⟨k, hgk, rfl, hk, hO, hE⟩ := hrel
    have O1 := hidH hO
    have E1 := hidH hE
    clear hO hE
    by_cases hkn : k < n
    · have hkn' : (k : Int) < (n : Int) := by omega
      have kk : IntKind.i64.wrap ((k : Int) + 1) = ((k + 1 : Nat) : Int) := by rw [IntWalk.i64_in _ ⟨by omega, by omega⟩]; omega
      obtain ⟨cK, fK⟩ := row_cell O1.out (fL_get _ hkn)
      have O2 : Hid ((wr.setCell ⟨B, k, none⟩ (.int .i64 (n : Int))).ownsRow B 3 1 (.slice (some ⟨B, 0, none⟩) n n) n (flat (fL n (fun y => if y < k + 1 then n else 0)))) := by
        have h1 := (World.ownsRow.stored O1.out k (.int .i64 (n : Int))).1
        rw [flat_setI, fL_set _ hkn] at h1
        unfold Hid
        rw [fL_congr (n := n) (G := fun z => if z = k then n else if z < k then n else 0) (fun y hy => by by_cases e : y = k; (subst e; simp); (rw [if_neg e]; by_cases e2 : y < k; (rw [if_pos e2, if_pos (by omega)]); (rw [if_neg e2, if_neg (by omega)])))]
        exact h1
      have E2 := hidH (E1.out.setCell (p := ⟨B, k, none⟩) (Nat.le_refl _) (.int .i64 (n : Int)))
      go_wp2
      go_roundg (n - (k + 1))
      case measure => omega
      case rel => exact ⟨k + 1, rfl, rfl, by omega, O2.out, E2.out⟩
    · have hkn' : ¬ (k : Int) < (n : Int) := by omega
      have hk2 : k = n := by omega
      subst hk2
      obtain ⟨cF, fF⟩ := row_cell O1.out (fL_get _ hf)
      have O2 : Hid ((wr.setCell ⟨B, f, none⟩ (.int .i64 0)).ownsRow B 3 1 (.slice (some ⟨B, 0, none⟩) k k) k (flat (fL k (fun y => if y = f then 0 else k)))) := by
        have h1 := (World.ownsRow.stored O1.out f (.int .i64 ((0 : Nat) : Int))).1
        rw [flat_setI, fL_set _ hf] at h1
        unfold Hid
        rw [fL_congr (n := k) (G := fun z => if z = f then 0 else if z < k then k else 0) (fun y hy => by by_cases e : y = f; (rw [if_pos e, if_pos e]); (rw [if_neg e, if_neg e, if_pos hy]))]
        exact h1
      have E2 := hidH (E1.out.setCell (p := ⟨B, f, none⟩) (Nat.le_refl _) (.int .i64 0))
      go_upto_region 8 with fail
      obtain ⟨w2, hw2⟩ : ∃ w2, wr.setCell ⟨B, f, none⟩ (.int .i64 0) = w2 := ⟨_, rfl⟩
      rw [hw2] at O2 E2 ⊢
      have hB2 : B ≤ w2.heap.size := by have := (O2.out.lt B rfl).2; omega
      obtain ⟨gQ, hgQ⟩ : ∃ gQ, w2.heap.size = gQ := ⟨_, rfl⟩
      obtain ⟨w3, e3, hb3, hs3, X3⟩ := bx1 w2 #[.int .i64 (f : Int)] 3
      have W3 : Hid (Fw B k w3 (.slice (some ⟨gQ, 0, none⟩) 1 1) (fun y => if y = f then 0 else k) [f]) := by
        refine ⟨own_belowR O2.out hb3 (Nat.le_refl _), ?_, ?_⟩
        · have h1 := own_one B w2 (.int .i64 (f : Int)) 3 hB2
          rw [e3, hgQ] at h1
          exact h1
        · intro e
          injection e with e
          have := (O2.out.lt B rfl).2
          simp only at e
          omega
      have E3 := hidH (E2.out.trans (hb3.mono hB2))
      clear hw2
      go_upto_region 9 with fail
      clear e3 hb3 hs3 X3 O1 E1 O2 E2 hB2 hgQ hgk hk
      go_wp2
      go_loopg [7, 8] k (fun gk s7 s8 wq => ∃ (i : Nat) (V : Value) (F : Nat → Nat) (q : List Nat), gk = k - i ∧ s7 = V ∧ s8 = .int .i64 (i : Int) ∧ i ≤ q.length ∧ Fw B k wq V F q ∧ Bq ps k f F q i (fun _ => False) ∧ Below B w wq)
      case atStart => exact ⟨0, _, _, [f], rfl, rfl, rfl, Nat.zero_le _, W3.out, Bq.start hf, E3.out⟩
      case round =>
        clear W3 E3
        obtain ⟨i, V, F, q, hgk, rfl, rfl, hiq, hW, hQ, hE⟩ := hrel
        have FW := hidH hW
        have BQ := hidH hQ
        have EE := hidH hE
        have hqk := hQ.few
        obtain ⟨aV, cV, hV, haV, -⟩ := own_slice hW.nx
        subst hV
        clear hW hQ hE
        by_cases hil : i < q.length
        · have hil' : (i : Int) < (q.length : Int) := by omega
          have kk : IntKind.i64.wrap ((i : Int) + 1) = ((i + 1 : Nat) : Int) := by rw [IntWalk.i64_in _ ⟨by omega, by omega⟩]; omega
          obtain ⟨x, hx⟩ : ∃ x, q[i]? = some x := ⟨_, List.getElem?_eq_getElem hil⟩
          have hxk : x < k := BQ.out.rng x (List.mem_of_getElem? hx)
          have hxk' : (x : Int) < (k : Int) := by omega
          obtain ⟨gq, rfl⟩ := haV (by omega)
          have cx := (row_cell FW.out.nx (qI_get hx)).1
          obtain ⟨aD, cD, cD1, hrow⟩ := HD.out.row x hxk
          have cD0 := (EE.out.cell (p := ⟨gD, x, none⟩) HD.out.lt).trans cD1
          have HROW := hidH hrow
          clear cD1
          obtain ⟨r, hr⟩ : ∃ r, (D x).length = r := ⟨_, rfl⟩
          rw [hr] at cD0
          have HR := hidH hr
          have hrk : r ≤ k := by rw [← hr]; exact (HM.out x hxk).1
          have HX := hidH hx
          clear hr hx hrow
          obtain ⟨ql, hql⟩ : ∃ ql, q.length = ql := ⟨_, rfl⟩
          have HQL := hidH hql
          rw [hql] at hil' hqk hiq hil ⊢
          clear hql
          go_wp2
          go_loopg [7, 46] r (fun g3 s7 s46 wq => ∃ (j : Nat) (V : Value) (F : Nat → Nat) (q : List Nat), g3 = r - j ∧ s7 = V ∧ s46 = .int .i64 (j : Int) ∧ j ≤ r ∧ Fw B k wq V F q ∧ Bq ps k f F q i (fun z => (z : Int) ∈ (D x).take j) ∧ q[i]? = some x ∧ Below B w wq)
          case atStart => exact ⟨0, _, F, q, rfl, rfl, rfl, Nat.zero_le _, by rw [← HQL.out]; exact FW.out, BQ.out.weak (fun z hz => by simp at hz), HX.out, EE.out⟩
          case round =>
            clear FW BQ EE cx cD0
            obtain ⟨j, V, F, q, hg3, rfl, rfl, hj, hW, hQ, hx, hE⟩ := hrel
            have FW := hidH hW
            have BQ := hidH hQ
            have EE := hidH hE
            have HX := hidH hx
            have hqk2 := hQ.few
            obtain ⟨aV, cV, hV, haV, -⟩ := own_slice hW.nx
            subst hV
            clear hW hQ hE hx
            by_cases hjr : j < r
            · have hjr' : (j : Int) < (r : Int) := by omega
              have kj : IntKind.i64.wrap ((j : Int) + 1) = ((j + 1 : Nat) : Int) := by rw [IntWalk.i64_in _ ⟨by omega, by omega⟩]; omega
              obtain ⟨y0, hy0⟩ : ∃ y, (D x)[j]? = some y := ⟨_, List.getElem?_eq_getElem (by rw [HR.out]; exact hjr)⟩
              have hey := ((HM.out x hxk).2 y0).1 (List.mem_of_getElem? hy0)
              have hyr := (HPS.out _ hey).1
              simp only at hyr
              obtain ⟨y, rfl⟩ : ∃ y : Nat, y0 = (y : Int) := ⟨y0.toNat, by omega⟩
              have hyk : y < k := by omega
              have hyk' : (y : Int) < (k : Int) := by omega
              obtain ⟨gr, rfl, hgrB, hcell⟩ := HROW.out (by rw [HR.out]; omega)
              have cY := (EE.out.cell (p := ⟨gr, j, none⟩) hgrB).trans (hcell j _ hy0)
              obtain ⟨cF, fF⟩ := FW.out.get hyk
              obtain ⟨cX, -⟩ := FW.out.get hxk
              have HEY := hidH hey
              have HY0 := hidH hy0
              obtain ⟨u, hu⟩ : ∃ u, F y = u := ⟨_, rfl⟩
              obtain ⟨v, hv⟩ : ∃ v, F x = v := ⟨_, rfl⟩
              rw [hu] at cF
              rw [hv] at cX
              have HU := hidH hu
              have HV := hidH hv
              have ky : IntKind.i64.wrap (y : Int) = (y : Int) := by rw [IntWalk.i64_in _ ⟨by omega, by omega⟩]
              clear hcell hy0 hey hyr hu hv
              by_cases huk : u = k
              · subst huk
                obtain ⟨hvk, hql2, bq2⟩ := BQ.out.new HX.out hyk HU.out HEY.out
                rw [HV.out] at hvk bq2
                have BQ2 := hidH (bq2.weak (dn' := fun z => (z : Int) ∈ (D x).take (j + 1)) (fun z hz => (take_mem HY0.out hz).imp id (fun e => by omega)))
                have W2 := hidH (FW.out.set hyk (v + 1))
                have E2 := hidH (EE.out.setCell (p := ⟨B, y, none⟩) (Nat.le_refl _) (.int .i64 ((v : Int) + 1)))
                have kv : IntKind.i64.wrap ((v : Int) + 1) = (v : Int) + 1 := by rw [IntWalk.i64_in _ ⟨by omega, by omega⟩]
                clear bq2
                go_upto_region 18 with fail
                obtain ⟨w2, hw2⟩ : ∃ w2, wr.setCell ⟨B, y, none⟩ (.int .i64 ((v : Int) + 1)) = w2 := ⟨_, rfl⟩
                have W2' : Hid (Fw B u w2 (.slice aV q.length cV) (fun z => if z = y then v + 1 else F z) q) := by rw [← hw2]; exact W2.out
                rw [hw2] at E2 ⊢
                obtain ⟨p, hp⟩ : ∃ p, q.length = p := ⟨_, rfl⟩
                have HP := hidH hp
                obtain ⟨zA, eA, hbA, hsA, BA⟩ := bx1 w2 #[.int .i64 (y : Int)] 3
                have WA := hidH (W2'.out.below hbA)
                have hB2 : B ≤ w2.heap.size := by have := (W2'.out.fr.lt B rfl).2; omega
                have EA := hidH (E2.out.trans (hbA.mono hB2))
                have NA : Hid (∀ j u, [Value.int .i64 (y : Int)][j]? = some u → zA.cell? ((⟨w2.heap.size, 0, none⟩ : Addr).add j) = some u) := by unfold Hid; rw [← eA]; exact cells_newH w2 [Value.int .i64 (y : Int)] 3
                have HEA := hidH eA
                have HSA := hidH hsA
                have hBA : B ≤ zA.heap.size := by omega
                have OA : Hid (zA.ownsRow B 3 1 (.slice aV p cV) p (flat (qI q))) := by have h9 := WA.out.nx; rw [HP.out] at h9; exact h9
                rw [hp] at WA hqk2 hql2 ⊢
                clear hw2 eA hbA hsA BA hp W2 W2' E2 cY cF fF cX
                go_wp2_with (at_builtin; rw [HEA.out]; refine wpList_append_lies _ rfl _ _ 24 rfl B 3 i0 (.int .i64 0) 1 8 Try.underlying24 hi0 hz0 hz1 hz2 rfl (by decide) (.slice aV p cV) p (flat (qI q)) rfl OA.out ⟨w2.heap.size, 0, none⟩ 1 1 [Value.int .i64 (y : Int)] rfl rfl NA.out (by intro u hu; simp at hu; subst hu; rfl) (by decide) (by unfold maxLen; omega) (by omega) hBA (w2.heap.size + 1) HSA.out ?_; intro gg cp w9 hown9 hgrow9 hat9 hlt9; have L9 := hidH (WA.out.push (V' := .slice (some ⟨gg, 0, none⟩) (p + 1) cp) (y := y) (by rw [HP.out]; exact hown9) hgrow9 (by have h7 := HSA.out; rcases hat9 with e | e; exact .inl e.symm; exact .inr ⟨gg, rfl, by omega⟩)); have E9 := hidH (EA.out.grown hgrow9 hBA (fun g e => (OA.out.lt g e).1)); clear hown9 hgrow9 hat9 hlt9)
                go_roundg (r - (j + 1))
                case measure => omega
                case rel => exact ⟨j + 1, _, _, q ++ [y], rfl, rfl, rfl, by omega, L9.out, BQ2.out, by rw [List.getElem?_append_left (List.getElem?_eq_some_iff.1 HX.out).1]; exact HX.out, E9.out⟩
              · have hu1 : ((u : Int) == (k : Int)) = false := by rw [beq_eq_false_iff_ne]; omega
                have hu2 : ¬ (u : Int) = (k : Int) := by omega
                have BQ2 := hidH ((BQ.out.have hyk (by rw [HU.out]; exact huk)).weak (dn' := fun z => (z : Int) ∈ (D x).take (j + 1)) (fun z hz => (take_mem HY0.out hz).imp id (fun e => by omega)))
                go_wp2
                go_roundg (r - (j + 1))
                case measure => omega
                case rel => exact ⟨j + 1, _, F, q, rfl, rfl, rfl, by omega, FW.out, BQ2.out, HX.out, EE.out⟩
            · have hjr' : ¬ (j : Int) < (r : Int) := by omega
              have hj2 : j = r := by omega
              have BQ2 := hidH (BQ.out.next HX.out (fun z hz => by rw [List.take_of_length_le (by rw [HR.out]; omega)]; exact ((HM.out x hxk).2 _).2 hz))
              have hil2 := (List.getElem?_eq_some_iff.1 HX.out).1
              go_wp2
              go_roundg (k - (i + 1))
              case measure => omega
              case rel => exact ⟨i + 1, _, F, q, rfl, rfl, rfl, by omega, FW.out, BQ2.out, EE.out⟩
        · have hil' : ¬ (i : Int) < (q.length : Int) := by omega
          have hi2 : i = q.length := by omega
          have FR := hidH (BQ.out.weak (dn' := fun _ => False) (fun _ h => h))
          clear BQ
          go_wp2
          go_ret
          exact ⟨rfl, EE.out, F, FW.out.fr, by have h9 := FR.out; rw [hi2] at h9; exact h9.done⟩
end Go.Proofs.Ytgijcbipnjmhgaa

namespace Go.Proofs.Ytgijcbipnjmhgaa
open Go.ChangeShapes Go.WideShapes Go.ChangeAt Go.RowKit
set_option linter.unusedVariables false
set_option linter.unusedSimpArgs false

theorem nanI_any (x : Int) (w : World) : Calls Try.prog 63 #[.int .i64 x] w fun e w' => e = .returned (.bool false) ∧ w' = w := by
  go_enter Try.func63, Try.ntmps63
  go_wp2
  go_ret
  exact ⟨rfl, rfl⟩
/-- cmp.Compare's answer -/
def cmpI (x y : Int) : Int := if x < y then -1 else if y < x then 1 else 0
theorem compare_any (x y : Int) (w : World) : Calls Try.prog 54 #[.int .i64 x, .int .i64 y] w fun e w' => e = .returned (.int .i64 (cmpI x y)) ∧ w' = w := by
  by_cases h1 : x < y
  · have hc : cmpI x y = -1 := if_pos h1
    rw [hc]
    clear hc
    go_enter Try.func54, Try.ntmps54
    go_wp2_with (go_at_call 63; (with_reducible refine (nanI_any _ _).mono ?_); rintro e w2 ⟨rfl, rfl⟩)
    go_ret
    exact ⟨rfl, rfl⟩
  · by_cases h2 : y < x
    · have hc : cmpI x y = 1 := by unfold cmpI; rw [if_neg h1, if_pos h2]
      rw [hc]
      clear hc
      go_enter Try.func54, Try.ntmps54
      go_wp2_with (go_at_call 63; (with_reducible refine (nanI_any _ _).mono ?_); rintro e w2 ⟨rfl, rfl⟩)
      go_ret
      exact ⟨rfl, rfl⟩
    · have hc : cmpI x y = 0 := by unfold cmpI; rw [if_neg h1, if_neg h2]
      rw [hc]
      clear hc
      go_enter Try.func54, Try.ntmps54
      go_wp2_with (go_at_call 63; (with_reducible refine (nanI_any _ _).mono ?_); rintro e w2 ⟨rfl, rfl⟩)
      go_ret
      exact ⟨rfl, rfl⟩
/-- the distances as they are captured: a box that holds the row -/
structure Cf2 (B bF gF n : Nat) (F : Nat → Nat) (w : World) : Prop where
  lb : bF < B
  lg : gF < B
  box : w.cell? ⟨bF, 0, none⟩ = some (.slice (some ⟨gF, 0, none⟩) n n)
  get : ∀ y, y < n → w.cell? ⟨gF, y, none⟩ = some (.int .i64 (F y : Int))
theorem Cf2.below {B bF gF n : Nat} {F : Nat → Nat} {w w' : World} (h : Cf2 B bF gF n F w) (hb : Below B w w') : Cf2 B bF gF n F w' :=
  ⟨h.lb, h.lg, (hb.cell (p := ⟨bF, 0, none⟩) h.lb).trans h.box, fun y hy => (hb.cell (p := ⟨gF, y, none⟩) h.lg).trans (h.get y hy)⟩
set_option maxRecDepth 1000000 in
theorem nearer_any (B bF gF n x y : Nat) (F : Nat → Nat) (w : World) (h : Cf2 B bF gF n F w) (hx : x < n) (hy : y < n) : Calls Try.prog 53 #[.int .i32 (x : Int), .int .i32 (y : Int), .pointer (some ⟨bF, 0, none⟩)] w fun e w' => e = .returned (.int .i64 (cmpI (F x) (F y))) ∧ Below w.heap.size w w' := by
  have cb := h.box
  have cx := h.get x hx
  have cy := h.get y hy
  have hx0 : (0 : Int) ≤ (x : Int) := by omega
  have hy0 : (0 : Int) ≤ (y : Int) := by omega
  have hx1 : (x : Int) < (n : Int) := by omega
  have hy1 : (y : Int) < (n : Int) := by omega
  clear h
  go_enter Try.func53, Try.ntmps53
  go_upto_region 1 with fail
  go_quiet (first | (go_at_call 54; with_reducible exact Calls.quiet_of_same (compare_any _ _ _)))
  go_wp2
  go_ret
  exact ⟨rfl, ⟨rfl, rfl, rfl, Nat.le_refl _, fun _ _ => rfl⟩⟩
/-- the first of the nearest among the first k -/
structure Mf (F : Nat → Nat) (l : List Int) (k m : Nat) : Prop where
  mem : (m : Int) ∈ l.take k
  min : ∀ z : Nat, (z : Int) ∈ l.take k → F m ≤ F z ∧ (F z = F m → m ≤ z)
theorem Mf.step {F : Nat → Nat} {l : List Int} {k m x : Nat} (h : Mf F l k m) (hl : l.Pairwise (· < ·)) (hx : l[k]? = some (x : Int)) : Mf F l (k + 1) (if cmpI (F x) (F m) < 0 then x else m) := by
  obtain ⟨hk, ek⟩ := List.getElem?_eq_some_iff.1 hx
  have hmem : ∀ z : Int, z ∈ l.take (k + 1) ↔ z ∈ l.take k ∨ z = (x : Int) := fun z => by rw [List.take_succ_eq_append_getElem hk, List.mem_append, List.mem_singleton, ek]
  have hlt : m < x := by
    obtain ⟨i, hi⟩ := List.getElem?_of_mem h.mem
    have hik : i < k := by
      have := (List.getElem?_eq_some_iff.1 hi).1
      rw [List.length_take] at this
      omega
    rw [List.getElem?_take, if_pos hik] at hi
    obtain ⟨l1, e1⟩ := List.getElem?_eq_some_iff.1 hi
    have := List.pairwise_iff_getElem.1 hl i k l1 hk hik
    rw [e1, ek] at this
    omega
  have hc : cmpI (F x) (F m) < 0 ↔ F x < F m := by
    unfold cmpI
    by_cases h1 : (F x : Int) < (F m : Int)
    · rw [if_pos h1]; omega
    · rw [if_neg h1]
      by_cases h2 : (F m : Int) < (F x : Int)
      · rw [if_pos h2]; omega
      · rw [if_neg h2]; omega
  by_cases hcc : F x < F m
  · rw [if_pos (hc.2 hcc)]
    refine ⟨(hmem _).2 (.inr rfl), fun z hz => ?_⟩
    rcases (hmem _).1 hz with hz | hz
    · have := (h.min z hz).1
      omega
    · have e : z = x := by omega
      subst e
      exact ⟨Nat.le_refl _, fun _ => Nat.le_refl _⟩
  · rw [if_neg (fun e => hcc (hc.1 e))]
    refine ⟨(hmem _).2 (.inl h.mem), fun z hz => ?_⟩
    rcases (hmem _).1 hz with hz | hz
    · exact h.min z hz
    · have e : z = x := by omega
      subst e
      omega
theorem Mf.first (F : Nat → Nat) {l : List Int} {x : Nat} (hx : l[0]? = some (x : Int)) : Mf F l 1 x := by
  obtain ⟨hk, ek⟩ := List.getElem?_eq_some_iff.1 hx
  have e : l.take 1 = [(x : Int)] := by rw [List.take_succ_eq_append_getElem hk, ek]; rfl
  refine ⟨by rw [e]; simp, fun z hz => ?_⟩
  rw [e, List.mem_singleton] at hz
  have e : z = x := by omega
  subst e
  exact ⟨Nat.le_refl _, fun _ => Nat.le_refl _⟩
set_option maxRecDepth 1000000 in
set_option maxHeartbeats 2000000 in
theorem minFunc_any (B bF gF n g c : Nat) (F : Nat → Nat) (l : List Int) (w : World) (hB : B ≤ w.heap.size) (h : Cf2 B bF gF n F w) (hg : g < B) (hcell : ∀ (j : Nat) y, l[j]? = some y → w.cell? ⟨g, j, none⟩ = some (.int .i32 y)) (hl : l.Pairwise (· < ·)) (hr : ∀ y ∈ l, 0 ≤ y ∧ y < (n : Int)) (h0 : l ≠ []) (hn : n ≤ 131072) :
    Calls Try.prog 52 #[.slice (some ⟨g, 0, none⟩) l.length c, .func (.func 53) #[] #[.pointer (some ⟨bF, 0, none⟩)]] w fun e w' => Below w.heap.size w w' ∧ ∃ m : Nat, e = .returned (.int .i32 (m : Int)) ∧ Mf F l l.length m := by
  have hln := nodup_le (pw_nodup hl) hr
  obtain ⟨k1, hk1⟩ : ∃ k1, l.length = k1 + 1 := ⟨l.length - 1, by have := List.length_pos_iff.2 h0; omega⟩
  obtain ⟨x0, hx0⟩ : ∃ x0, l[0]? = some x0 := ⟨_, List.getElem?_eq_getElem (by omega)⟩
  have hr0 := hr x0 (List.mem_of_getElem? hx0)
  obtain ⟨x0, rfl⟩ : ∃ x : Nat, x0 = (x : Int) := ⟨x0.toNat, by omega⟩
  have c0 := hcell 0 _ hx0
  have M1 := hidH (Mf.first F hx0)
  have HL := hidH hl
  have HR := hidH hr
  have HC := hidH hcell
  have HF := hidH h
  have HK := hidH hk1
  have hl1 : ¬ ((k1 : Int) + 1 < 1) := by omega
  rw [hk1]
  clear hl hr hcell h h0 hx0
  go_enter Try.func52, Try.ntmps52
  go_wp2
  go_loopg [5, 6] k1 (fun gk s5 s6 wr => ∃ i m : Nat, gk = k1 + 1 - i ∧ s5 = .int .i32 (m : Int) ∧ s6 = .int .i64 (i : Int) ∧ 1 ≤ i ∧ i ≤ k1 + 1 ∧ Mf F l i m ∧ Below w.heap.size w wr)
  case atStart => exact ⟨1, x0, by omega, rfl, rfl, Nat.le_refl _, by omega, M1.out, Below.refl _ _⟩
  case round =>
    clear M1 c0
    obtain ⟨i, m, hgk, rfl, rfl, hi1, hi2, hM, hE⟩ := hrel
    have MM := hidH hM
    have EE := hidH hE
    clear hM hE
    by_cases hik : i < k1 + 1
    · have hik' : (i : Int) < (k1 : Int) + 1 := by omega
      have ki : IntKind.i64.wrap ((i : Int) + 1) = ((i + 1 : Nat) : Int) := by rw [IntWalk.i64_in _ ⟨by omega, by omega⟩]; omega
      obtain ⟨x, hx⟩ : ∃ x, l[i]? = some x := ⟨_, List.getElem?_eq_getElem (by rw [HK.out]; exact hik)⟩
      have hrx := HR.out x (List.mem_of_getElem? hx)
      obtain ⟨x, rfl⟩ : ∃ y : Nat, x = (y : Int) := ⟨x.toNat, by omega⟩
      have hrm := HR.out (m : Int) (List.mem_of_mem_take MM.out.mem)
      have cx := (EE.out.cell (p := ⟨g, i, none⟩) (by show g < _; omega)).trans (HC.out i _ hx)
      have C1 := hidH (nearer_any B bF gF n x m F wr (HF.out.below (EE.out.mono hB)) (by omega) (by omega))
      have M2 := hidH (MM.out.step HL.out hx)
      obtain ⟨cc, hcc⟩ : ∃ cc, cmpI (F x) (F m) = cc := ⟨_, rfl⟩
      rw [hcc] at C1 M2
      clear hx hrx hrm hcc
      by_cases hc0 : cc < 0
      · rw [if_pos hc0] at M2
        go_wp2_with (go_at_call 53; (with_reducible refine C1.out.mono ?_); clear C1; rintro e v1 ⟨rfl, hb1⟩; have cx1 := (hb1.cell (p := ⟨g, i, none⟩) (by show g < _; have := EE.out.size; omega)).trans cx; have E1 := hidH (EE.out.trans (hb1.mono EE.out.size)); clear hb1)
        go_roundg (k1 + 1 - (i + 1))
        case measure => omega
        case rel => exact ⟨i + 1, x, rfl, rfl, rfl, by omega, by omega, M2.out, E1.out⟩
      · rw [if_neg hc0] at M2
        go_wp2_with (go_at_call 53; (with_reducible refine C1.out.mono ?_); clear C1; rintro e v1 ⟨rfl, hb1⟩; have E1 := hidH (EE.out.trans (hb1.mono EE.out.size)); clear hb1)
        go_roundg (k1 + 1 - (i + 1))
        case measure => omega
        case rel => exact ⟨i + 1, m, rfl, rfl, rfl, by omega, by omega, M2.out, E1.out⟩
    · have hik' : ¬ (i : Int) < (k1 : Int) + 1 := by omega
      have hi3 : i = k1 + 1 := by omega
      go_wp2
      go_ret
      exact ⟨EE.out, m, rfl, by have h9 := MM.out; rw [hi3] at h9; exact h9⟩
/-- the captured lists: a box that holds the row of rows -/
structure Cn2 (B bN gV n : Nat) (N : Nat → List Int) (w : World) : Prop where
  lb : bN < B
  box : w.cell? ⟨bN, 0, none⟩ = some (.slice (some ⟨gV, 0, none⟩) n n)
  rl : Rl B w gV n N
theorem Cn2.below {B bN gV n : Nat} {N : Nat → List Int} {w w' : World} (h : Cn2 B bN gV n N w) (hb : Below B w w') : Cn2 B bN gV n N w' :=
  ⟨h.lb, (hb.cell (p := ⟨bN, 0, none⟩) h.lb).trans h.box, h.rl.below hb⟩
set_option maxRecDepth 1000000 in
set_option maxHeartbeats 2000000 in
theorem nearest_any (B bN gV bF gF n x : Nat) (F : Nat → Nat) (N : Nat → List Int) (w : World) (hB : B ≤ w.heap.size) (hN : Cn2 B bN gV n N w) (hF : Cf2 B bF gF n F w) (hx : x < n) (hl : (N x).Pairwise (· < ·)) (hr : ∀ y ∈ N x, 0 ≤ y ∧ y < (n : Int)) (h0 : N x ≠ []) (hn : n ≤ 131072) :
    Calls Try.prog 51 #[.int .i64 (x : Int), .pointer (some ⟨bN, 0, none⟩), .pointer (some ⟨bF, 0, none⟩)] w fun e w' => Below w.heap.size w w' ∧ ∃ m : Nat, e = .returned (.int .i64 (m : Int)) ∧ Mf F (N x) (N x).length m := by
  have hmf : ∀ (fn : Fn) (first cap : Array Value) (w : World), (Instr.makeFunc fn first cap).run Try.prog w = .ok (.func fn first cap) w := fun _ _ _ _ => rfl
  have hx1 : (x : Int) < (n : Int) := by omega
  obtain ⟨a, c, c1, hrow⟩ := hN.rl.row x hx
  obtain ⟨g, rfl, hg, hcell⟩ := hrow (List.length_pos_iff.2 h0)
  have cb := hN.box
  have CM := hidH (minFunc_any B bF gF n g c F (N x) w hB hF hg hcell hl hr h0 hn)
  have HR := hidH hr
  obtain ⟨r, hrr⟩ : ∃ r, (N x).length = r := ⟨_, rfl⟩
  rw [hrr] at c1 CM ⊢
  clear hN hF hl hr h0 hrow hcell
  go_enter Try.func51, Try.ntmps51
  go_upto_region 1 with fail
  go_wp2_with (go_at_call 52; (with_reducible refine CM.out.mono ?_); clear CM; rintro e v1 ⟨hb1, m, rfl, hM⟩; have km : IntKind.i64.wrap (m : Int) = (m : Int) := (by rw [IntWalk.i64_in _ (by have := HR.out _ (List.mem_of_mem_take hM.mem); exact ⟨by omega, by omega⟩)]); have HB := hidH hb1; have HM := hidH hM; clear hb1 hM)
  go_ret
  exact ⟨HB.out, m, rfl, HM.out⟩
end Go.Proofs.Ytgijcbipnjmhgaa

namespace Go.Proofs.Ytgijcbipnjmhgaa
open Go.ChangeShapes Go.WideShapes Go.ChangeAt Go.RowKit
set_option linter.unusedVariables false
set_option linter.unusedSimpArgs false

/-- a row of numbers of 32 bits that is read -/
def R32 (w : World) (a : Option Addr) (xs : List Int) : Prop := 0 < xs.length → ∃ g, a = some ⟨g, 0, none⟩ ∧ ∀ (j : Nat) y, xs[j]? = some y → w.cell? ⟨g, j, none⟩ = some (.int .i32 y)
set_option maxRecDepth 1000000 in
set_option maxHeartbeats 1000000 in
theorem index32_any (a : Option Addr) (cap : Nat) (xs : List Int) (v : Int) (w : World) (h : R32 w a xs) (hl : xs.length ≤ 131072) :
    Calls Try.prog 76 #[.slice a xs.length cap, .int .i32 v] w fun e w' => (∃ i : Int, e = .returned (.int .i64 i) ∧ decide (0 ≤ i) = xs.contains v) ∧ w' = w := by
  have H := hidH h
  clear h
  go_enter Try.func76, Try.ntmps76
  go_wp2
  go_loopw [8] (fun i wr => ∃ k : Nat, k ≤ xs.length ∧ i = .int .i64 (k : Int) ∧ wr = w ∧ v ∉ xs.take k) (fun i _ => xs.length - (intOf i).toNat)
  case atStart => exact ⟨0, by omega, rfl, rfl, by simp⟩
  case round =>
    obtain ⟨k, hk, rfl, rfl, hno⟩ := hrel
    have HNO := hidH hno
    clear hno
    by_cases hkl : k < xs.length
    · obtain ⟨y, hy⟩ : ∃ y, xs[k]? = some y := ⟨_, List.getElem?_eq_getElem hkl⟩
      obtain ⟨g, rfl, hc⟩ := H.out (by omega)
      have d0 := hc k y hy
      have HY := hidH hy
      have hk1 : (k : Int) < (xs.length : Int) := by omega
      clear hy hc
      by_cases hv : v = y
      · subst hv
        have HC : Hid (xs.contains v = true) := List.contains_iff_mem.2 (List.mem_of_getElem? HY.out)
        go_wp2
        go_ret
        exact ⟨⟨k, rfl, by rw [HC.out]; simp⟩, rfl⟩
      · have HV := hidH hv
        go_wp2
        go_roundw
        case rel =>
          refine ⟨k + 1, by omega, by simp, by trivial, ?_⟩
          rw [List.take_add_one, HY.out]
          intro hm
          rcases List.mem_append.1 hm with hm | hm
          · exact HNO.out hm
          · simp at hm; exact HV.out hm
        case measure => simp [intOf]; omega
    · have hke : k = xs.length := by omega
      subst hke
      have HC : Hid (xs.contains v = false) := by
        unfold Hid
        rw [Bool.eq_false_iff]
        intro hm
        exact HNO.out (by rw [List.take_length]; exact List.contains_iff_mem.1 hm)
      go_wp2
      go_ret
      exact ⟨⟨-1, rfl, by rw [HC.out]; rfl⟩, rfl⟩
theorem contains32_any (a : Option Addr) (cap : Nat) (xs : List Int) (v : Int) (w : World) (h : R32 w a xs) (hl : xs.length ≤ 131072) :
    Calls Try.prog 62 #[.slice a xs.length cap, .int .i32 v] w fun e w' => e = .returned (.bool (xs.contains v)) ∧ w' = w := by
  have H := hidH h
  clear h
  go_enter Try.func62, Try.ntmps62
  go_wp2_with (go_at_call 76; refine (index32_any a cap xs v _ H.out hl).mono ?_; rintro e w' ⟨⟨i, rfl, hi⟩, rfl⟩; have HI : Hid (decide (0 ≤ i) = xs.contains v) := hi; clear hi)
  go_ret
  exact ⟨congrArg (fun b => Ending.returned (.bool b)) HI.out, rfl⟩
theorem Rl.r32 {B gV n x : Nat} {w : World} {N : Nat → List Int} (h : Rl B w gV n N) (hx : x < n) : ∃ a c, w.cell? ⟨gV, x, none⟩ = some (.slice a (N x).length c) ∧ R32 w a (N x) := by
  obtain ⟨a, c, h1, h2⟩ := h.row x hx
  exact ⟨a, c, h1, fun h0 => by obtain ⟨g, e, -, h3⟩ := h2 h0; exact ⟨g, e, h3⟩⟩
theorem cnO_set {lw : Nat → Nat} {n k l : Nat} (hl : l < n) (e : lw k = l) (hne : l ≠ k) : (fL n (cnO lw k)).set l ((cnO lw k l + 1 : Nat) : Int) = fL n (cnO lw (k + 1)) := by
  rw [fL_set _ hl]
  refine fL_congr fun z hz => ?_
  rw [cnO_succ]
  by_cases h : z = l
  · subst h; rw [if_pos rfl, if_pos ⟨e, fun e2 => hne e2.symm⟩]
  · rw [if_neg h, if_neg (fun e2 => h (e2.1.symm.trans e))]; rfl
theorem cnO_still {lw : Nat → Nat} {n k : Nat} (e : lw k = k) : fL n (cnO lw (k + 1)) = fL n (cnO lw k) :=
  fL_congr fun z hz => by rw [cnO_succ, if_neg (fun e2 => e2.2 (by rw [← e2.1, e])), Nat.add_zero]
set_option maxRecDepth 1000000 in
set_option maxHeartbeats 2000000 in
theorem onCycle_any (gV gL n cL : Nat) (N : Nat → List Int) (lw : Nat → Nat) (ps : List Pr) (w : World) (hN : Rl w.heap.size w gV n N) (hLs : LstR n ps N) (hL : Rr1 w.heap.size w gL n lw) (hW : Lws ps n lw) (hex : ∃ x, OnC ps x) (hn : n ≤ 131072) :
    Calls Try.prog 49 #[.slice (some ⟨gV, 0, none⟩) n n, .slice (some ⟨gL, 0, none⟩) n cL] w fun e w' => Below w.heap.size w w' ∧ ∃ f : Nat, e = .returned (.int .i64 (f : Int)) ∧ f < n ∧ Fst ps f := by
  obtain ⟨i0, hi0, hz0, hz1, hz2⟩ := info_parts infoIntH
  have hlen : ∀ x, x < n → (N x).length ≤ 131072 := fun x hx => Nat.le_trans (nodup_le (pw_nodup (hLs x hx).1) (fun y hy => (hW.rng _ (((hLs x hx).2 y).1 hy)).2)) hn
  obtain ⟨s0, hs0, hs1⟩ : ∃ s0, Stp ps lw n s0 ∧ s0 < n := by
    obtain ⟨x, hx⟩ := hex
    obtain ⟨z, -, hz⟩ := hx.stp hW
    obtain ⟨u, he, -⟩ := hz.onc hW
    exact ⟨z, hz, (hW.edge he).1⟩
  have HN := hidH hN
  have HLS := hidH hLs
  have HL := hidH hL
  have HW := hidH hW
  have HLEN := hidH hlen
  have HS0 := hidH hs0
  obtain ⟨B, hB⟩ : ∃ B, w.heap.size = B := ⟨_, rfl⟩
  rw [hB] at HN HL
  clear hN hLs hL hW hlen hs0 hex
  go_enter Try.func49, Try.ntmps49
  go_wp2_with (at_make; refine wpList_make_full _ rfl _ _ 24 rfl B 3 i0 (.int .i64 0) 1 Try.underlying24 hi0 hz0 hz1 _ _ _ _ n rfl rfl rfl rfl (by rw [hz2]; omega) (by unfold maxLen; omega) (by omega) ?_; intro v1 hown1 hgr1; rw [hB] at hown1 ⊢; have O1 : Hid (v1.ownsRow B 3 1 (.slice (some ⟨B, 0, none⟩) n n) n (flat (fL n (cnO lw 0)))) := (by rw [show (Value.int .i64 0).cells = #[.int .i64 0] by rfl, rep_made] at hown1; unfold Hid; rw [show fL n (cnO lw 0) = fL n (fun _ => 0) from fL_congr (fun y _ => rfl), ← fL_rep n 0]; rw [show flat (List.replicate n ((0 : Nat) : Int)) = List.replicate n (Value.int .i64 0) by rw [flat_ints, List.map_replicate]; rfl]; exact hown1); have E1 : Hid (Below B w v1) := ((Below.refl _ _).grown hgr1 (by omega) (fun k h => by cases h)); clear hown1 hgr1)
  go_loopg [14] n (fun gk si wr => ∃ k : Nat, gk = n - k ∧ si = .int .i64 (k : Int) ∧ k ≤ n ∧ wr.ownsRow B 3 1 (.slice (some ⟨B, 0, none⟩) n n) n (flat (fL n (cnO lw k))) ∧ Below B w wr)
  case atStart => exact ⟨0, rfl, rfl, Nat.zero_le _, O1.out, E1.out⟩
  case round =>
    clear O1 E1
    obtain ⟨k, hgk, rfl, hk, hO, hE⟩ := hrel
    have O1 := hidH hO
    have E1 := hidH hE
    clear hO hE
    by_cases hkn : k < n
    · have hkn' : (k : Int) < (n : Int) := by omega
      have kk : IntKind.i64.wrap ((k : Int) + 1) = ((k + 1 : Nat) : Int) := by rw [IntWalk.i64_in _ ⟨by omega, by omega⟩]; omega
      have cl := (HL.out.below E1.out).2 k hkn
      have hln := HW.out.lt hkn
      obtain ⟨l, hl⟩ : ∃ l, lw k = l := ⟨_, rfl⟩
      have HLK := hidH hl
      rw [hl] at cl hln
      have hln' : (l : Int) < (n : Int) := by omega
      clear hl
      by_cases hlk : l = k
      · subst hlk
        go_wp2
        go_roundg (n - (l + 1))
        case measure => omega
        case rel => exact ⟨l + 1, rfl, rfl, by omega, by rw [cnO_still HLK.out]; exact O1.out, E1.out⟩
      · have hlk1 : ((l : Int) == (k : Int)) = false := by rw [beq_eq_false_iff_ne]; omega
        have hlk2 : ¬ (l : Int) = (k : Int) := by omega
        obtain ⟨cO, fO⟩ := row_cell O1.out (fL_get _ hln)
        have hcl := cnO_le lw k l
        obtain ⟨v, hv⟩ : ∃ v, cnO lw k l = v := ⟨_, rfl⟩
        have HV := hidH hv
        rw [hv] at cO hcl
        have kv : IntKind.i64.wrap ((v : Int) + 1) = (v : Int) + 1 := by rw [IntWalk.i64_in _ ⟨by omega, by omega⟩]
        have O2 : Hid ((wr.setCell ⟨B, l, none⟩ (.int .i64 ((v : Int) + 1))).ownsRow B 3 1 (.slice (some ⟨B, 0, none⟩) n n) n (flat (fL n (cnO lw (k + 1))))) := by
          have h1 := (World.ownsRow.stored O1.out l (.int .i64 ((cnO lw k l + 1 : Nat) : Int))).1
          rw [flat_setI, cnO_set hln HLK.out hlk, HV.out] at h1
          exact h1
        have E2 := hidH (E1.out.setCell (p := ⟨B, l, none⟩) (Nat.le_refl _) (.int .i64 ((v : Int) + 1)))
        clear hv
        go_wp2
        go_roundg (n - (k + 1))
        case measure => omega
        case rel => exact ⟨k + 1, rfl, rfl, by omega, O2.out, E2.out⟩
    · have hkn' : ¬ (k : Int) < (n : Int) := by omega
      have hk2 : k = n := by omega
      subst hk2
      obtain ⟨wA, hwA⟩ : ∃ wA, wA = wr := ⟨wr, rfl⟩
      subst hwA
      go_wp2
      go_loopg [8] k (fun gk s8 wq => ∃ x : Nat, gk = k - x ∧ s8 = .int .i64 (x : Int) ∧ (∀ y, y < x → ¬ Stp ps lw k y) ∧ wq = wA)
      case atStart => exact ⟨0, rfl, rfl, fun y hy => by omega, rfl⟩
      case round =>
        obtain ⟨x, hgk2, rfl, hno, rfl⟩ := hrel
        have HNO := hidH hno
        have hxk : x < k := by
          by_cases h : s0 < x
          · exact absurd HS0.out (hno s0 h)
          · omega
        have hxk' : (x : Int) < (k : Int) := by omega
        have kx : IntKind.i64.wrap ((x : Int) + 1) = ((x + 1 : Nat) : Int) := by rw [IntWalk.i64_in _ ⟨by omega, by omega⟩]; omega
        have kx2 : IntKind.i32.wrap (x : Int) = (x : Int) := by simp [IntKind.wrap, IntKind.bits, IntKind.signed]; omega
        obtain ⟨cO, fO⟩ := row_cell O1.out (fL_get _ hxk)
        obtain ⟨c, hc⟩ : ∃ c, cnO lw k x = c := ⟨_, rfl⟩
        have HC := hidH hc
        rw [hc] at cO
        clear hno hc
        by_cases hc0 : c = 0
        · subst hc0
          obtain ⟨a, cp, c1, h32⟩ := (HN.out.below E1.out).r32 hxk
          have CC := hidH (contains32_any a cp (N x) (x : Int) wr h32 (HLEN.out x hxk))
          obtain ⟨t, ht⟩ : ∃ t, (N x).contains (x : Int) = t := ⟨_, rfl⟩
          have HT := hidH ht
          obtain ⟨r, hr⟩ : ∃ r, (N x).length = r := ⟨_, rfl⟩
          rw [hr] at c1 CC
          rw [ht] at CC
          clear ht hr h32
          cases t with
          | true =>
            have HF := hidH (stp_fst HW.out (.inr (((HLS.out x hxk).2 _).1 (List.contains_iff_mem.1 HT.out))) HNO.out)
            go_wp2_with (go_at_call 62; (with_reducible refine CC.out.mono ?_); clear CC; rintro e v1 ⟨rfl, hvv⟩; subst hvv)
            go_ret
            exact ⟨by rw [hB]; exact E1.out, x, rfl, hxk, HF.out⟩
          | false =>
            have NX : Hid (¬ Stp ps lw k x) := stp_iff.2 ⟨HC.out, fun he => by have h9 := HT.out; rw [Bool.eq_false_iff] at h9; exact h9 (List.contains_iff_mem.2 (((HLS.out x hxk).2 _).2 he))⟩
            go_wp2_with (go_at_call 62; (with_reducible refine CC.out.mono ?_); clear CC; rintro e v1 ⟨rfl, hvv⟩; subst hvv)
            go_roundg (k - (x + 1))
            case measure => omega
            case rel => exact ⟨x + 1, rfl, rfl, fun y hy => by by_cases e : y = x; (subst e; exact NX.out); exact HNO.out y (by omega), rfl⟩
        · have hc1 : ((c : Int) == 0) = false := by rw [beq_eq_false_iff_ne]; omega
          have hc2 : ¬ (c : Int) = 0 := by omega
          have HF : Hid (Fst ps x) := stp_fst HW.out (Classical.byContradiction fun h => hc0 (HC.out.symm.trans (stp_iff.1 h).1)) HNO.out
          go_wp2
          go_ret
          exact ⟨by rw [hB]; exact E1.out, x, rfl, hxk, HF.out⟩
end Go.Proofs.Ytgijcbipnjmhgaa

namespace Go.Proofs.Ytgijcbipnjmhgaa
open Go.ChangeShapes Go.WideShapes Go.ChangeAt Go.RowKit
set_option linter.unusedVariables false
set_option linter.unusedSimpArgs false

/-- where the way goes on: the next one, and what the list will be -/
def Nx (ps : List Pr) (f : Nat) (cs : List Int) (x : Nat) : Prop := (x = f → Cyc ps f f cs) ∧ (x ≠ f → ∀ l, Cyc ps f x l → Cyc ps f f (cs ++ (x : Int) :: l))
theorem Nx.start {ps : List Pr} {f x : Nat} (h : Nst ps f f x) : Nx ps f [] x :=
  ⟨fun e => by subst e; exact .fin h, fun e l hl => .more h e hl⟩
theorem Nx.step {ps : List Pr} {f x y : Nat} {cs : List Int} (h : Nx ps f cs x) (hx : x ≠ f) (hy : Nst ps f x y) : Nx ps f (cs ++ [(x : Int)]) y :=
  ⟨fun e => by subst e; exact h.2 hx [] (.fin hy), fun e l hl => by rw [List.append_assoc]; exact h.2 hx _ (.more hy e hl)⟩
theorem Fr.go {ps : List Pr} {n f x m : Nat} {F : Nat → Nat} {l : List Int} (hF : Fr ps n f F) (hl : ∀ z, z ∈ l ↔ (⟨(x : Int), z⟩ : Pr) ∈ ps) (hr : ∀ y ∈ l, 0 ≤ y ∧ y < (n : Int)) (hM : Mf F l l.length m) (hw : ∃ z k, Eg ps x z ∧ Wy ps f k z) : m < n ∧ F m < n ∧ Nst ps f x m ∧ Ds ps f m (F m) := by
  have hm : (m : Int) ∈ l := List.mem_of_mem_take hM.mem
  have hmn := hr _ hm
  have h1 := hF.nst hl hm (by omega) (fun z hz => hM.min z (by rw [List.take_length]; exact hz)) hw
  exact ⟨by omega, (hF.wy m _ h1.2.1).2, h1⟩
theorem Fr.some {ps : List Pr} {n f x : Nat} {F : Nat → Nat} (hx : Ds ps f x (F x)) (hne : x ≠ f) : ∃ z k, Eg ps x z ∧ Wy ps f k z := by
  cases hd : F x with
  | zero => rw [hd] at hx; exact absurd hx.zero hne
  | succ d =>
    rw [hd] at hx
    obtain ⟨z, he, hz⟩ := hx.next
    exact ⟨z, d, he, hz.1⟩
theorem Fr.dec {ps : List Pr} {n f x m : Nat} {F : Nat → Nat} {l : List Int} (hF : Fr ps n f F) (hl : ∀ z, z ∈ l ↔ (⟨(x : Int), z⟩ : Pr) ∈ ps) (hM : Mf F l l.length m) (hx : Ds ps f x (F x)) (hne : x ≠ f) (hm : Ds ps f m (F m)) : F m + 1 = F x := by
  have he : Eg ps x m := (hl _).1 (List.mem_of_mem_take hM.mem)
  have h1 := hx.2 _ (.cons he hm.1)
  cases hd : F x with
  | zero => rw [hd] at hx; exact absurd hx.zero hne
  | succ d =>
    rw [hd] at hx
    obtain ⟨z, hez, hz⟩ := hx.next
    have h2 := hF.wy z d hz.1
    have h3 := (hF.ds z h2.1 (by omega)).uniq hz
    have h4 := (hM.min z (by rw [List.take_length]; exact (hl _).2 hez)).1
    omega
set_option maxRecDepth 1000000 in
set_option maxHeartbeats 4000000 in
theorem cycle_any (gV gD n : Nat) (N D : Nat → List Int) (ps qs : List Pr) (w : World) (hN : Rl w.heap.size w gV n N) (hD : Rl w.heap.size w gD n D) (hA : LstR n ps N) (hA2 : LstR n qs D) (hq : Trn ps qs) (hps : ∀ p ∈ ps, (0 ≤ p.a ∧ p.a < (n : Int)) ∧ (0 ≤ p.b ∧ p.b < (n : Int))) (hqs : ∀ p ∈ qs, (0 ≤ p.a ∧ p.a < (n : Int)) ∧ (0 ≤ p.b ∧ p.b < (n : Int))) (hn : n ≤ 131072) (hex : ∃ x, OnC ps x) :
    Calls Try.prog 36 #[.slice (some ⟨gV, 0, none⟩) n n, .slice (some ⟨gD, 0, none⟩) n n] w fun e w' => ∃ v, e = .returned v ∧ Below w.heap.size w w' ∧ ∃ (f : Nat) (l : List Int), w'.ownsRow w.heap.size 3 1 v ((f : Int) :: l).length (flat ((f : Int) :: l)) ∧ Fst ps f ∧ Cyc ps f f l := by
  have hmf : ∀ (fn : Fn) (first cap : Array Value) (w : World), (Instr.makeFunc fn first cap).run Try.prog w = .ok (.func fn first cap) w := fun _ _ _ _ => rfl
  obtain ⟨i0, hi0, hz0, hz1, hz2⟩ := info_parts infoIntH
  have hn0 : 0 < n := by
    obtain ⟨x, z, he, -⟩ := hex
    have := hps _ he
    simp only at this
    omega
  have HN := hidH hN
  have HD := hidH hD
  have HA := hidH hA
  have HA2 := hidH hA2
  have HQ := hidH hq
  have HPS := hidH hps
  have HQS := hidH hqs
  have HEX := hidH hex
  clear hN hD hA hA2 hq hps hqs hex
  go_enter Try.func36, Try.ntmps36
  go_upto_region 1 with fail
  obtain ⟨w1, e1, hb1, hs1, X1⟩ := bx1 w #[.slice (some ⟨gV, 0, none⟩) n n] 50
  obtain ⟨B, hB⟩ : ∃ B, w.heap.size = B := ⟨_, rfl⟩
  rw [e1]
  rw [hB] at HN HD X1 hb1 hs1 ⊢
  have c1 := X1.one
  have HC1 := hidH c1
  have HB1 := hidH hb1
  have HS1 := hidH hs1
  have hlt1 : B < w1.heap.size := by omega
  have hdr : Below w1.heap.size w1 w1.drew := ⟨rfl, rfl, rfl, Nat.le_refl _, fun _ _ => rfl⟩
  have hbd : Below B w w1.drew := hb1.trans (hdr.mono (by omega))
  have HDR := hidH hdr
  have LO := hidH (lowests_any gV gD n N D ps qs w1.drew ((HN.out.below hbd).up (Nat.le_of_lt hlt1)) ((HD.out.below hbd).up (Nat.le_of_lt hlt1)) (HA.out.lst hn (fun p hp => (HPS.out p hp).2)) (HA2.out.lst hn (fun p hp => (HQS.out p hp).2)) HQ.out (fun p hp => (HPS.out p hp).2) (fun p hp => (HQS.out p hp).2) hn)
  have OC : Hid (∀ (L : Value) (ls : List Int) (w2 : World), w2.ownsRow w1.drew.heap.size 3 1 L n (flat ls) → Below w1.drew.heap.size w1.drew w2 → (∀ y : Nat, y < n → ∃ z : Nat, ls[y]? = some (z : Int) ∧ Low ps y z) → Calls Try.prog 49 #[.slice (some ⟨gV, 0, none⟩) n n, L] w2 fun e w' => Below w2.heap.size w2 w' ∧ ∃ f : Nat, e = .returned (.int .i64 (f : Int)) ∧ f < n ∧ Fst ps f) := fun L ls w2 ho hb hlow => by
    obtain ⟨lw, hlw, hlv⟩ := lws_of HPS.out hlow
    obtain ⟨aL, cL, rfl, haL, -⟩ := own_slice ho
    obtain ⟨gL, rfl⟩ := haL hn0
    have hb2 : Below B w w2 := hbd.trans (hb.mono (Nat.le_of_lt hlt1))
    exact onCycle_any gV gL n cL N lw ps w2 ((HN.out.below hb2).up (Nat.le_trans (Nat.le_of_lt hlt1) hb.size)) HA.out ⟨(ho.lt gL rfl).2, fun y hy => (row_cell ho (hlv y hy)).1⟩ hlw HEX.out hn
  clear e1 hb1 hs1 X1 hdr hbd
  go_cut [5] (fun sl wc => ∃ f : Nat, sl = .int .i64 (f : Int) ∧ f < n ∧ Fst ps f ∧ Below w1.heap.size w1 wc)
  case first =>
    go_region_with (first
      | (go_at_call 34; (with_reducible refine LO.out.mono ?_); clear LO; rintro e w2 ⟨L, ls, rfl, hoL, hb2, hlow⟩; have c2 := (hb2.cell (p := ⟨B, 0, none⟩) hlt1).trans c1; have OC2 := hidH (OC.out L ls w2 hoL hb2 hlow); have HB2 := hidH (HDR.out.trans hb2); clear hoL hb2 hlow OC)
      | (go_at_call 49; (with_reducible refine OC2.out.mono ?_); clear OC2; rintro e w3 ⟨hb3, f, rfl, hfn, hF⟩; have HB3 := hidH (HB2.out.trans (hb3.mono HB2.out.size)); have HF := hidH hF; have HFN := hidH hfn; clear hb3 hF hfn))
    all_goals
      go_wp2_with fail
      go_meet
      exact ⟨_, rfl, HFN.out, HF.out, HB3.out⟩
  case rest =>
    obtain ⟨f, rfl, hfn, hF, hbw⟩ := hcut
    have HF := hidH hF
    have HBW := hidH hbw
    obtain ⟨w4, hw4⟩ : ∃ w4, w4 = wc := ⟨wc, rfl⟩
    subst hw4
    have hb4 : Below B w w4 := HB1.out.trans (hbw.mono (Nat.le_of_lt hlt1))
    have hlt4 : B < w4.heap.size := Nat.lt_of_lt_of_le hlt1 hbw.size
    have hDm : ∀ x, x < n → (D x).length ≤ n ∧ ∀ y, y ∈ D x ↔ (⟨y, (x : Int)⟩ : Pr) ∈ ps := fun x hx =>
      ⟨nodup_le (pw_nodup (HA2.out x hx).1) (fun y hy => (HQS.out _ (((HA2.out x hx).2 y).1 hy)).2), fun y => ((HA2.out x hx).2 y).trans (HQ.out _ _)⟩
    have FF := hidH (farFrom_any gD n f D ps w4 ((HD.out.below hb4).up (Nat.le_of_lt hlt4)) hDm HPS.out hfn hn)
    have HB4 := hidH hb4
    clear LO OC hF hbw hb4 hDm c1
    go_upto_region 3 with (first
      | (go_at_call 50; (with_reducible refine FF.out.mono ?_); clear FF; rintro e w5 ⟨rfl, hb5, F, ho5, hFr⟩; have HB5 := hidH hb5; have OF := hidH ho5; have FR := hidH hFr; clear hb5 ho5 hFr))
    obtain ⟨gF, hgF⟩ : ∃ gF, w4.heap.size = gF := ⟨_, rfl⟩
    obtain ⟨bF, hbF⟩ : ∃ bF, w5.heap.size = bF := ⟨_, rfl⟩
    obtain ⟨w6, e6, hb6, hs6, X6⟩ := bx1 w5 #[.slice (some ⟨gF, 0, none⟩) n n] 24
    rw [hgF] at OF ⊢
    rw [e6, hbF]
    have hgb := (OF.out.lt gF rfl).2
    have h45 := HB5.out.size
    have CF : Hid (Cf2 w6.heap.size bF gF n F w6) := ⟨by omega, by omega, by rw [← hbF]; exact X6.one, fun y hy => (hb6.cell (p := ⟨gF, y, none⟩) hgb).trans (row_cell OF.out (fL_get F hy)).1⟩
    have HB6 : Hid (Below B w w6) := HB4.out.trans ((HB5.out.trans (hb6.mono h45)).mono (Nat.le_of_lt hlt4))
    have CN : Hid (Cn2 w6.heap.size B gV n N w6) := by
      refine ⟨by omega, ?_, (HN.out.below HB6.out).up (by omega)⟩
      have h1 : Below w1.heap.size w1 w6 := HBW.out.trans ((HB5.out.trans (hb6.mono h45)).mono HBW.out.size)
      exact (h1.cell (p := ⟨B, 0, none⟩) hlt1).trans HC1.out
    obtain ⟨C, hC⟩ : ∃ C, w6.heap.size = C := ⟨_, rfl⟩
    have HCE := hidH hC
    have hBC : B ≤ C := by omega
    rw [hC] at CF CN
    have NS : Hid (∀ (x : Nat) (wq : World), x < n → (∃ z k, Eg ps x z ∧ Wy ps f k z) → Below C w6 wq → Calls Try.prog 51 #[.int .i64 (x : Int), .pointer (some ⟨B, 0, none⟩), .pointer (some ⟨bF, 0, none⟩)] wq fun e w' => Below wq.heap.size wq w' ∧ ∃ m : Nat, e = .returned (.int .i64 (m : Int)) ∧ Mf F (N x) (N x).length m) := fun x wq hx hw hq => by
      refine nearest_any C B gV bF gF n x F N wq (by have := hq.size; have := HCE.out; omega) (CN.out.below hq) (CF.out.below hq) hx (HA.out x hx).1 (fun y hy => (HPS.out _ (((HA.out x hx).2 y).1 hy)).2) ?_ hn
      intro e
      obtain ⟨z, k, he, -⟩ := hw
      have := ((HA.out x hx).2 _).2 he
      rw [e] at this
      cases this
    have GO : Hid (∀ x m : Nat, x < n → Mf F (N x) (N x).length m → (∃ z k, Eg ps x z ∧ Wy ps f k z) → m < n ∧ F m < n ∧ Nst ps f x m ∧ Ds ps f m (F m)) := fun x m hx hM hw => FR.out.go (HA.out x hx).2 (fun y hy => (HPS.out _ (((HA.out x hx).2 y).1 hy)).2) hM hw
    have HWF : Hid (∃ z k, Eg ps f z ∧ Wy ps f k z) := by
      obtain ⟨z, he, hr⟩ := HF.out.1
      obtain ⟨k, hk⟩ := hr.wy
      exact ⟨z, k, he, hk⟩
    have h6r := hidH (Below.refl C w6)
    clear e6 hb6 hs6 X6 CF CN OF
    go_upto_region 5 with fail
    obtain ⟨w7, e7, hb7, hs7, X7⟩ := bx1 w6 #[.int .i64 (f : Int)] 3
    have OO : Hid (w7.ownsRow C 3 1 (.slice (some ⟨C, 0, none⟩) 1 1) ([(f : Int)]).length (flat [(f : Int)])) := by
      have h1 := own_one C w6 (.int .i64 (f : Int)) 3 (by omega)
      rw [e7, hC] at h1
      exact h1
    have E7 : Hid (Below C w6 w7) := by rw [hC] at hb7; exact hb7
    have N7 := hidH (NS.out f w7 hfn HWF.out E7.out)
    rw [e7]
    clear hb7 hs7 X7 e7 h6r
    go_upto_region 6 with (first
      | (go_at_call 51; (with_reducible refine N7.out.mono ?_); clear N7; rintro e w8 ⟨hb8, m, rfl, hM⟩; have G8 := hidH (GO.out f m hfn hM HWF.out); have O8 := hidH (own_belowR OO.out hb8 (Nat.le_refl _)); have E8 := hidH (E7.out.trans (hb8.mono (by have := E7.out.size; have := HCE.out; omega))); clear hb8 hM))
    go_wp2
    go_loopg [8, 9] (F m) (fun gk s8 s9 wr => ∃ (x : Nat) (cs : List Int) (V : Value), gk = F x ∧ s8 = V ∧ s9 = .int .i64 (x : Int) ∧ x < n ∧ F x + cs.length + 1 ≤ n ∧ wr.ownsRow C 3 1 V ((f : Int) :: cs).length (flat ((f : Int) :: cs)) ∧ Nx ps f cs x ∧ Ds ps f x (F x) ∧ Below C w6 wr)
    case atStart => exact ⟨m, [], _, rfl, rfl, rfl, G8.out.1, by have := G8.out.2.1; simp; omega, O8.out, Nx.start G8.out.2.2.1, G8.out.2.2.2, E8.out⟩
    case round =>
      clear O8 E8 G8 OO E7
      obtain ⟨x, cs, V, hgk, rfl, rfl, hxn, hlen, hO, hNx, hDs, hE⟩ := hrel
      have OO := hidH hO
      have NX := hidH hNx
      have DS := hidH hDs
      have EE := hidH hE
      have HGK := hidH hgk
      clear hO hNx hDs hE hgk
      by_cases hxf : x = f
      · subst hxf
        go_wp2
        go_ret
        exact ⟨_, rfl, by rw [hB]; exact HB6.out.trans (EE.out.mono hBC), x, cs, by rw [hB]; exact own_lower OO.out hBC, HF.out, NX.out.1 rfl⟩
      · have hxf1 : ((x : Int) == (f : Int)) = false := by rw [beq_eq_false_iff_ne]; omega
        have hxf2 : ¬ (x : Int) = (f : Int) := by omega
        obtain ⟨aV, cV, hV, -, -⟩ := own_slice OO.out
        subst hV
        obtain ⟨q, hq⟩ : ∃ q, ((f : Int) :: cs).length = q := ⟨_, rfl⟩
        have hqn : q + F x ≤ n := by rw [← hq, List.length_cons]; omega
        have HQL := hidH hq
        obtain ⟨zA, eA, hbA, hsA, BA⟩ := bx1 wr #[.int .i64 (x : Int)] 3
        have OA : Hid (zA.ownsRow C 3 1 (.slice aV q cV) q (flat ((f : Int) :: cs))) := by have h9 := own_belowR OO.out hbA (Nat.le_refl _); rw [hq] at h9; exact h9
        have hCw : C ≤ wr.heap.size := by have := EE.out.size; have := HCE.out; omega
        have EA := hidH (EE.out.trans (hbA.mono hCw))
        have NA : Hid (∀ j u, [Value.int .i64 (x : Int)][j]? = some u → zA.cell? ((⟨wr.heap.size, 0, none⟩ : Addr).add j) = some u) := by unfold Hid; rw [← eA]; exact cells_newH wr [Value.int .i64 (x : Int)] 3
        have HEA := hidH eA
        have HSA := hidH hsA
        have hBA : C ≤ zA.heap.size := by omega
        have hxs := hidH (Fr.some (n := n) DS.out hxf)
        rw [hq]
        clear eA hbA hsA BA hq OO
        go_wp2_with (first
          | (at_builtin; rw [HEA.out]; refine wpList_append_lies _ rfl _ _ 24 rfl C 3 i0 (.int .i64 0) 1 8 Try.underlying24 hi0 hz0 hz1 hz2 rfl (by decide) (.slice aV q cV) q (flat ((f : Int) :: cs)) rfl OA.out ⟨wr.heap.size, 0, none⟩ 1 1 [Value.int .i64 (x : Int)] rfl rfl NA.out (by intro u hu; simp at hu; subst hu; rfl) (by decide) (by unfold maxLen; omega) (by omega) hBA (wr.heap.size + 1) HSA.out ?_; intro gg cp w9 hown9 hgrow9 hat9 hlt9; have O9 : Hid (w9.ownsRow C 3 1 (.slice (some ⟨gg, 0, none⟩) (q + 1) cp) ((f : Int) :: (cs ++ [(x : Int)])).length (flat ((f : Int) :: (cs ++ [(x : Int)])))) := (by unfold Hid; rw [← List.cons_append, flat_append, List.length_append, List.length_singleton, HQL.out]; exact hown9); have E9 : Hid (Below C w6 w9) := (EA.out.grown hgrow9 (by have := EA.out.size; have := HCE.out; omega) (fun g e => (OA.out.lt g e).1)); have N9 := hidH (NS.out x w9 hxn hxs.out E9.out); clear hown9 hgrow9 hat9 hlt9)
          | (go_at_call 51; (with_reducible refine N9.out.mono ?_); clear N9; rintro e wN ⟨hbN, m2, rfl, hM⟩; have G9 := hidH (GO.out x m2 hxn hM hxs.out); have D9 := hidH (FR.out.dec (HA.out x hxn).2 hM DS.out hxf G9.out.2.2.2); have OB := hidH (own_belowR O9.out hbN (Nat.le_refl _)); have EB := hidH (E9.out.trans (hbN.mono (by have := E9.out.size; have := HCE.out; omega))); clear hbN hM))
        go_roundg (F m2)
        case measure => have := D9.out; have := HGK.out; omega
        case rel => exact ⟨m2, cs ++ [(x : Int)], _, rfl, rfl, rfl, G9.out.1, by have := D9.out; rw [List.length_append, List.length_singleton]; omega, OB.out, NX.out.step hxf G9.out.2.2.1, G9.out.2.2.2, EB.out⟩
end Go.Proofs.Ytgijcbipnjmhgaa

namespace Go.Proofs.Ytgijcbipnjmhgaa
open Go.ChangeShapes Go.WideShapes Go.ChangeAt Go.RowKit
set_option linter.unusedVariables false
set_option linter.unusedSimpArgs false

set_option maxRecDepth 1000000 in
set_option maxHeartbeats 2000000 in
theorem order_bad (n : Int) (a : Option Addr) (cap : Nat) (ps : List Pr) (w : World) (hL : LiesA w a ps) (hm : ps.length ≤ 8796093022208) (h : things n ps = false) :
    Calls Try.prog 19 #[.int .i64 n, .slice a ps.length cap] w fun e w' => e = .returned (.tuple #[.slice none 0 0, .slice none 0 0, .int .i64 1]) ∧ Below w.heap.size w w' := by
  have AT : Hid (Calls Try.prog 22 #[.int .i64 n, .slice a ps.length cap] w fun e w' => e = .returned (.bool (things n ps)) ∧ Below w.heap.size w w') := areThings_any n a cap ps w hL (by omega)
  rw [h] at AT
  go_enter Try.func19, Try.ntmps19
  go_wp2_with (go_at_call 22; (with_reducible refine AT.out.mono ?_); rintro e v1 ⟨rfl, hb1⟩; have HB1 : Hid (Below w.heap.size w v1) := hb1; clear hb1)
  go_ret3
  exact ⟨rfl, HB1.out⟩
set_option maxRecDepth 1000000 in
set_option maxHeartbeats 4000000 in
theorem order_yes (n cap : Nat) (a : Option Addr) (ps : List Pr) (w : World) (hL : LiesA w a ps) (hm : ps.length ≤ 8796093022208) (ht : things (n : Int) ps = true) (hno : ∀ x, ¬ OnC ps x) :
    Calls Try.prog 19 #[.int .i64 (n : Int), .slice a ps.length cap] w fun e w' => ∃ v, e = .returned (.tuple #[v, .slice none 0 0, .int .i64 0]) ∧ Below w.heap.size w w' ∧ ∃ N os, LstR n ps N ∧ Ln N n os ∧ os.length = n ∧ w'.ownsRow w.heap.size 3 1 v os.length (flat os) := by
  obtain ⟨hn, hps⟩ := things_spec ht
  have HL := hidH hL
  have HPS := hidH hps
  have HNO := hidH hno
  have AT : Hid (Calls Try.prog 22 #[.int .i64 (n : Int), .slice a ps.length cap] w fun e w' => e = .returned (.bool true) ∧ Below w.heap.size w w') := by unfold Hid; rw [← ht]; exact areThings_any (n : Int) a cap ps w hL (by omega)
  clear hL hps ht hno
  go_enter Try.func19, Try.ntmps19
  go_upto_region 5 with (first
    | (go_at_call 22; (with_reducible refine AT.out.mono ?_); rintro e v1 ⟨rfl, hb1⟩; have HB1 := hidH hb1; have LS1 := hidH (listsR_any n cap a ps v1 (HL.out.below hb1) hn (by omega) HPS.out); clear hb1)
    | (go_at_call 25; (with_reducible refine LS1.out.mono ?_); clear LS1; rintro e w1 ⟨rfl, hb2, N, hrN, hlN⟩; have HB2 := hidH (HB1.out.trans (hb2.mono HB1.out.size)); have RN := hidH hrN; have LN := hidH hlN; have TU := hidH (turned_any a cap ps w1 (HL.out.below HB2.out) hm); clear hb2 hrN hlN HB1)
    | (go_at_call 32; (with_reducible refine TU.out.mono ?_); clear TU; rintro e w2 ⟨rfl, hb3, hli⟩; have HB3 := hidH (HB2.out.trans (hb3.mono HB2.out.size)); have RN2 := hidH (RN.out.below hb3); have LS2 := hidH (listsR_any n ps.length (some ⟨w1.heap.size, 0, none⟩) (ps.map swapP) w2 (.inr ⟨_, _, rfl, hli⟩) hn (by rw [List.length_map]; omega) (swap_rng HPS.out)); rw [List.length_map] at LS2; have HZ2 := hidH hb3.size; clear hb3 hli HB2 RN)
    | (go_at_call 25; (with_reducible refine LS2.out.mono ?_); clear LS2; rintro e w3 ⟨rfl, hb4, D, hrD, hlD⟩; have HB4 := hidH (HB3.out.trans (hb4.mono HB3.out.size)); have LU := hidH (lineUp_any _ _ n N D w3 ((RN2.out.below (hb4.mono HZ2.out)).up (Nat.le_trans HZ2.out hb4.size)) hrD (LN.out.bth hlD (trn_swap ps) HPS.out) hn); clear hb4 hrD hlD HB3 RN2 HZ2)
    | (go_at_call 35; (with_reducible refine LU.out.mono ?_); clear LU; rintro e w4 ⟨O, os, rfl, hoO, hb5, hln⟩; have HB5 := hidH (HB4.out.trans (hb5.mono HB4.out.size)); have OO := hidH (own_lower hoO HB4.out.size); have LNN := hidH hln; clear hoO hb5 hln HB4))
  have hfull : os.length = n := (full_iff LNN.out.nod LNN.out.rng).2 fun x hx => all_in HPS.out LN.out LNN.out HNO.out _ x hx (Nat.le_refl _)
  obtain ⟨aO, cO, hO, -, -⟩ := own_slice OO.out
  subst hO
  have HFU := hidH hfull
  rw [hfull]
  clear hfull
  go_wp2
  go_ret3
  exact ⟨_, rfl, HB5.out, N, os, LN.out, LNN.out, HFU.out, by have h9 := OO.out; rw [HFU.out] at h9 ⊢; exact h9⟩
set_option maxRecDepth 1000000 in
set_option maxHeartbeats 4000000 in
theorem order_cyc (n cap : Nat) (a : Option Addr) (ps : List Pr) (w : World) (hL : LiesA w a ps) (hm : ps.length ≤ 8796093022208) (ht : things (n : Int) ps = true) (hex : ∃ x, OnC ps x) :
    Calls Try.prog 19 #[.int .i64 (n : Int), .slice a ps.length cap] w fun e w' => ∃ v, e = .returned (.tuple #[.slice none 0 0, v, .int .i64 73]) ∧ Below w.heap.size w w' ∧ ∃ (f : Nat) (l : List Int), w'.ownsRow w.heap.size 3 1 v ((f : Int) :: l).length (flat ((f : Int) :: l)) ∧ Fst ps f ∧ Cyc ps f f l := by
  obtain ⟨hn, hps⟩ := things_spec ht
  have HL := hidH hL
  have HPS := hidH hps
  have HEX := hidH hex
  have AT : Hid (Calls Try.prog 22 #[.int .i64 (n : Int), .slice a ps.length cap] w fun e w' => e = .returned (.bool true) ∧ Below w.heap.size w w') := by unfold Hid; rw [← ht]; exact areThings_any (n : Int) a cap ps w hL (by omega)
  clear hL hps ht hex
  go_enter Try.func19, Try.ntmps19
  go_upto_region 5 with (first
    | (go_at_call 22; (with_reducible refine AT.out.mono ?_); rintro e v1 ⟨rfl, hb1⟩; have HB1 := hidH hb1; have LS1 := hidH (listsR_any n cap a ps v1 (HL.out.below hb1) hn (by omega) HPS.out); clear hb1)
    | (go_at_call 25; (with_reducible refine LS1.out.mono ?_); clear LS1; rintro e w1 ⟨rfl, hb2, N, hrN, hlN⟩; have HB2 := hidH (HB1.out.trans (hb2.mono HB1.out.size)); have RN := hidH hrN; have LN := hidH hlN; have TU := hidH (turned_any a cap ps w1 (HL.out.below HB2.out) hm); clear hb2 hrN hlN HB1)
    | (go_at_call 32; (with_reducible refine TU.out.mono ?_); clear TU; rintro e w2 ⟨rfl, hb3, hli⟩; have HB3 := hidH (HB2.out.trans (hb3.mono HB2.out.size)); have RN2 := hidH (RN.out.below hb3); have LS2 := hidH (listsR_any n ps.length (some ⟨w1.heap.size, 0, none⟩) (ps.map swapP) w2 (.inr ⟨_, _, rfl, hli⟩) hn (by rw [List.length_map]; omega) (swap_rng HPS.out)); rw [List.length_map] at LS2; have HZ2 := hidH hb3.size; clear hb3 hli HB2 RN)
    | (go_at_call 25; (with_reducible refine LS2.out.mono ?_); clear LS2; rintro e w3 ⟨rfl, hb4, D, hrD, hlD⟩; have HB4 := hidH (HB3.out.trans (hb4.mono HB3.out.size)); have RN3 := hidH ((RN2.out.below (hb4.mono HZ2.out)).up (Nat.le_trans HZ2.out hb4.size)); have RD3 := hidH hrD; have LD := hidH hlD; have LU := hidH (lineUp_any _ _ n N D w3 RN3.out hrD (LN.out.bth hlD (trn_swap ps) HPS.out) hn); clear hb4 hrD hlD HB3 RN2 HZ2)
    | (go_at_call 35; (with_reducible refine LU.out.mono ?_); clear LU; rintro e w4 ⟨O, os, rfl, hoO, hb5, hln⟩; have HB5 := hidH (HB4.out.trans (hb5.mono HB4.out.size)); have OO := hidH (own_lower hoO HB4.out.size); have LNN := hidH hln; have CY := hidH (cycle_any _ _ n N D ps (ps.map swapP) w4 ((RN3.out.below hb5).up hb5.size) ((RD3.out.below hb5).up hb5.size) LN.out LD.out (trn_swap ps) HPS.out (swap_rng HPS.out) hn HEX.out); clear hoO hb5 hln HB4))
  have hnf : os.length ≠ n := fun e => by
    obtain ⟨x, hx⟩ := HEX.out
    exact LNN.out.noc HPS.out LN.out e x hx
  have hos := nodup_le LNN.out.nod LNN.out.rng
  obtain ⟨aO, cO, hO, -, -⟩ := own_slice OO.out
  subst hO
  obtain ⟨q, hq⟩ : ∃ q, os.length = q := ⟨_, rfl⟩
  rw [hq] at hnf hos ⊢
  have hq1 : ((q : Int) == (n : Int)) = false := by rw [beq_eq_false_iff_ne]; omega
  have hq2 : ¬ (q : Int) = (n : Int) := by omega
  clear hq
  go_wp2_with (go_at_call 36; (with_reducible refine CY.out.mono ?_); clear CY; rintro e w5 ⟨v, rfl, hb6, f, l, ho6, hF, hC⟩; have HB6 := hidH (HB5.out.trans (hb6.mono HB5.out.size)); have O6 := hidH (own_lower ho6 HB5.out.size); have HF := hidH hF; have HC := hidH hC; clear hb6 ho6 hF hC)
  go_ret3
  exact ⟨_, rfl, HB6.out, f, l, O6.out, HF.out, HC.out⟩
end Go.Proofs.Ytgijcbipnjmhgaa

namespace Go.Proofs.Ytgijcbipnjmhgaa
set_option linter.unusedVariables false
set_option linter.unusedSimpArgs false

/-- one of S that may stand behind these -/
def Rdn (S : Int → Prop) (R : Int → Int → Prop) (ps : List Int) (x : Int) : Prop := S x ∧ x ∉ ps ∧ ∀ z, R x z → z ∈ ps
/-- always the lowest, until none may come -/
structure Gn (S : Int → Prop) (R : Int → Int → Prop) (os : List Int) : Prop where
  gd : ∀ ps x qs, os = ps ++ x :: qs → Rdn S R ps x ∧ ∀ y, Rdn S R ps y → x ≤ y
  no : ∀ x, ¬ Rdn S R os x
theorem Gn.same {S : Int → Prop} {R : Int → Int → Prop} {os os' : List Int} (h : Gn S R os) (k : Gn S R os') : ∀ a ps b : List Int, os = ps ++ a → os' = ps ++ b → a = b
  | [], ps, [], _, _ => rfl
  | [], ps, y :: b, e1, e2 => by
    have h1 := (k.gd ps y b e2).1
    rw [List.append_nil] at e1
    rw [← e1] at h1
    exact absurd h1 (h.no y)
  | x :: a, ps, [], e1, e2 => by
    have h1 := (h.gd ps x a e1).1
    rw [List.append_nil] at e2
    rw [← e2] at h1
    exact absurd h1 (k.no x)
  | x :: a, ps, y :: b, e1, e2 => by
    have h1 := h.gd ps x a e1
    have h2 := k.gd ps y b e2
    have h3 := h1.2 y h2.1
    have h4 := h2.2 x h1.1
    have e : x = y := by omega
    subst e
    rw [Gn.same h k a (ps ++ [x]) b (by rw [e1]; simp) (by rw [e2]; simp)]
theorem Gn.uniq {S : Int → Prop} {R : Int → Int → Prop} {os os' : List Int} (h : Gn S R os) (k : Gn S R os') : os = os' := Gn.same h k os [] os' rfl rfl
theorem Gn.congr {S S' : Int → Prop} {R R' : Int → Int → Prop} {os : List Int} (h : Gn S R os) (hS : ∀ x, S x ↔ S' x) (hR : ∀ x, S x → ∀ z, R x z ↔ R' x z) : Gn S' R' os := by
  have key : ∀ ps x, Rdn S R ps x ↔ Rdn S' R' ps x := fun ps x => by
    unfold Rdn
    constructor
    · rintro ⟨a, b, c⟩; exact ⟨(hS x).1 a, b, fun z hz => c z ((hR x a z).2 hz)⟩
    · rintro ⟨a, b, c⟩; exact ⟨(hS x).2 a, b, fun z hz => c z ((hR x ((hS x).2 a) z).1 hz)⟩
  exact ⟨fun ps x qs e => ⟨(key ps x).1 (h.gd ps x qs e).1, fun y hy => (h.gd ps x qs e).2 y ((key ps y).2 hy)⟩, fun x hx => h.no x ((key os x).2 hx)⟩
/-- a part of them that needs nothing else -/
theorem Gn.filter {S : Int → Prop} {R : Int → Int → Prop} {os : List Int} (h : Gn S R os) (P : Int → Bool) (hP : ∀ x, S x → P x = true → ∀ z, R x z → P z = true) : Gn (fun x => S x ∧ P x = true) R (os.filter P) := by
  have key : ∀ ps x, Rdn (fun x => S x ∧ P x = true) R (ps.filter P) x ↔ Rdn S R ps x ∧ P x = true := fun ps x => by
    unfold Rdn
    constructor
    · rintro ⟨⟨a, p⟩, b, c⟩
      exact ⟨⟨a, fun hm => b (List.mem_filter.2 ⟨hm, p⟩), fun z hz => (List.mem_filter.1 (c z hz)).1⟩, p⟩
    · rintro ⟨⟨a, b, c⟩, p⟩
      exact ⟨⟨a, p⟩, fun hm => b (List.mem_filter.1 hm).1, fun z hz => List.mem_filter.2 ⟨c z hz, hP x a p z hz⟩⟩
  refine ⟨fun ps x qs e => ?_, fun x hx => h.no x ((key os x).1 hx).1⟩
  obtain ⟨l1, l2, e1, e2, e3⟩ := List.filter_eq_append_iff.1 e
  obtain ⟨m1, m2, e4, e5, hpx, e6⟩ := List.filter_eq_cons_iff.1 e3
  have hm1 : m1.filter P = [] := List.filter_eq_nil_iff.2 (fun a ha => e5 a ha)
  have hsp : os = (l1 ++ m1) ++ x :: m2 := by rw [e1, e4, List.append_assoc]
  have hf : (l1 ++ m1).filter P = ps := by rw [List.filter_append, e2, hm1, List.append_nil]
  have h1 := h.gd _ _ _ hsp
  rw [← hf]
  exact ⟨(key _ x).2 ⟨h1.1, hpx⟩, fun y hy => h1.2 y ((key _ y).1 hy).1⟩
/-- lineUp's answer -/
theorem Ln.gn {ps : List Pr} {n : Nat} {N : Nat → List Int} {os : List Int} (hN : LstR n ps N) (hl : Ln N n os) : Gn (fun x => 0 ≤ x ∧ x < (n : Int)) (fun x z => (⟨x, z⟩ : Pr) ∈ ps) os := by
  have key : ∀ qs x, Rdy N n qs x ↔ Rdn (fun x => 0 ≤ x ∧ x < (n : Int)) (fun x z => (⟨x, z⟩ : Pr) ∈ ps) qs x := fun qs x => by
    unfold Rdy Rdn
    constructor
    · rintro ⟨a, b, c, d⟩
      refine ⟨⟨a, b⟩, c, fun z hz => d z (((hN x.toNat (by omega)).2 z).2 ?_)⟩
      rw [show ((x.toNat : Nat) : Int) = x by omega]; exact hz
    · rintro ⟨⟨a, b⟩, c, d⟩
      refine ⟨a, b, c, fun z hz => d z ?_⟩
      have := ((hN x.toNat (by omega)).2 z).1 hz
      rwa [show ((x.toNat : Nat) : Int) = x by omega] at this
  exact ⟨fun qs x rs e => ⟨(key qs x).1 (hl.gd qs x rs e).1, fun y hy => (hl.gd qs x rs e).2 y ((key qs y).2 hy)⟩, fun x hx => hl.no x ((key os x).2 hx)⟩
end Go.Proofs.Ytgijcbipnjmhgaa

namespace Go.Proofs.Ytgijcbipnjmhgaa
set_option linter.unusedVariables false
set_option linter.unusedSimpArgs false

theorem Cyc.edge {ps : List Pr} {f x : Nat} {l : List Int} (h : Cyc ps f x l) : ∀ (i : Nat) (y z : Int), ((x : Int) :: l)[i]? = some y → (l ++ [(f : Int)])[i]? = some z → (⟨y, z⟩ : Pr) ∈ ps := by
  induction h with
  | fin h =>
    intro i y z h1 h2
    cases i with
    | zero => simp at h1 h2; subst h1; subst h2; exact h.1
    | succ i => simp at h1
  | more h1 h2 _ ih =>
    intro i y z k1 k2
    cases i with
    | zero => simp at k1 k2; subst k1; subst k2; exact h1.1
    | succ i => exact ih i y z (by simpa using k1) (by simpa using k2)
theorem Cyc.mem {ps : List Pr} {f x : Nat} {l : List Int} (h : Cyc ps f x l) : ∀ y ∈ l, ∃ z : Nat, y = (z : Int) ∧ Rch ps x z ∧ Rch ps z f ∧ z ≠ f := by
  induction h with
  | fin h => intro y hy; cases hy
  | more h1 h2 h3 ih =>
    rename_i x y l
    intro u hu
    obtain ⟨he, d, hd, -⟩ := h1
    rcases List.mem_cons.1 hu with rfl | hu
    · exact ⟨y, rfl, .step he (.refl _), hd.1.rch, h2⟩
    · obtain ⟨z, e, k1, k2, k3⟩ := ih u hu
      exact ⟨z, e, .step he k1, k2, k3⟩
/-- what stands on the told cycle -/
theorem Cyc.on {ps : List Pr} {f : Nat} {l : List Int} (hf : Fst ps f) (h : Cyc ps f f l) : ∀ y ∈ (f : Int) :: l, ∃ z : Nat, y = (z : Int) ∧ Sam ps f z ∧ f ≤ z := fun y hy => by
  rcases List.mem_cons.1 hy with rfl | hy
  · exact ⟨f, rfl, Sam.refl ps f, Nat.le_refl _⟩
  · obtain ⟨z, e, k1, k2, k3⟩ := h.mem y hy
    obtain ⟨u, hu, hr⟩ := k2.first k3
    exact ⟨z, e, ⟨k1, k2⟩, hf.2 z ⟨u, hu, hr.trans k1⟩⟩
/-- its parts that stand ahead of f -/
theorem Fst.alone {ps : List Pr} {f x y : Nat} (hf : Fst ps f) (hx : x < f) (hs : Sam ps x y) : x = y := by
  apply Classical.byContradiction
  intro hne
  obtain ⟨u, hu, hr⟩ := hs.1.first hne
  have := hf.2 x ⟨u, hu, hr.trans hs.2⟩
  omega
theorem Fst.noself {ps : List Pr} {f x : Nat} (hf : Fst ps f) (hx : x < f) : ¬ Eg ps x x := fun he => by
  have := hf.2 x ⟨x, he, .refl _⟩
  omega
theorem Gn.nodup {S : Int → Prop} {R : Int → Int → Prop} {os : List Int} (h : Gn S R os) : os.Nodup := by
  have key : ∀ a ps : List Int, os = ps ++ a → ps.Nodup → (ps ++ a).Nodup := by
    intro a
    induction a with
    | nil => intro ps _ hn; rw [List.append_nil]; exact hn
    | cons x a ih =>
      intro ps e hn
      have h1 := (h.gd ps x a e).1.2.1
      have h2 := ih (ps ++ [x]) (by rw [e]; simp) (by
        rw [List.nodup_append]
        exact ⟨hn, by simp, fun a ha b hb e => h1 (by rw [List.mem_singleton] at hb; rw [← hb, ← e]; exact ha)⟩)
      rwa [List.append_assoc, List.singleton_append] at h2
  exact key os [] rfl List.nodup_nil
theorem at_uniq {l : List Int} (hn : l.Nodup) {i j : Nat} {x : Int} (hi : l[i]? = some x) (hj : l[j]? = some x) : i = j := by
  obtain ⟨l1, e1⟩ := List.getElem?_eq_some_iff.1 hi
  obtain ⟨l2, e2⟩ := List.getElem?_eq_some_iff.1 hj
  have hpw := List.pairwise_iff_getElem.1 hn
  rcases Nat.lt_trichotomy i j with h | h | h
  · exact absurd (e1.trans e2.symm) (hpw i j l1 l2 h)
  · exact h
  · exact absurd (e2.trans e1.symm) (hpw j i l2 l1 h)
theorem Gn.before {S : Int → Prop} {R : Int → Int → Prop} {os : List Int} (h : Gn S R os) {i j : Nat} {x z : Int} (hi : os[i]? = some x) (hj : os[j]? = some z) (hz : R x z) : j < i := by
  obtain ⟨l1, e1⟩ := List.getElem?_eq_some_iff.1 hi
  have hsp : os = os.take i ++ x :: os.drop (i + 1) := by rw [← e1, List.getElem_cons_drop, List.take_append_drop]
  have h1 := (h.gd _ _ _ hsp).1.2.2 z hz
  obtain ⟨k, hk⟩ := List.getElem?_of_mem h1
  have hki : k < i := by
    have := (List.getElem?_eq_some_iff.1 hk).1
    rw [List.length_take] at this
    omega
  rw [List.getElem?_take, if_pos hki] at hk
  rw [at_uniq h.nodup hj hk]
  exact hki
/-- where the parts stand: the lowest things, lined up -/
def los (lw : Nat → Nat) (os : List Int) : List Int := os.filter fun x => decide ((lw x.toNat : Int) = x)
theorem pts_los (n : Nat) (lw : Nat → Nat) (os : List Int) : pts n lw os = (los lw os).map fun x => mem1 n lw x.toNat := rfl
theorem los_gn {ps : List Pr} {n : Nat} {lw : Nat → Nat} {N : Nat → List Int} {os : List Int} (h : Lws ps n lw) (hN : LstR n (btw lw ps) N) (hl : Ln N n os) : Gn (fun x => (0 ≤ x ∧ x < (n : Int)) ∧ decide ((lw x.toNat : Int) = x) = true) (fun x z => (⟨x, z⟩ : Pr) ∈ btw lw ps) (los lw os) :=
  (hl.gn hN).filter _ fun x hx hp z hz => by
    obtain ⟨p, hp, -, -, rfl⟩ := mem_btw.1 hz
    have := h.rng p hp
    rw [decide_eq_true_eq, show ((lw p.b.toNat : Int)).toNat = lw p.b.toNat by omega, h.idem (x := p.b.toNat) (by omega)]
theorem pts_at {n i : Nat} {lw : Nat → Nat} {os : List Int} {p : List Int} {x : Nat} (h : (pts n lw os)[i]? = some p) (hr : ∀ y ∈ os, 0 ≤ y ∧ y < (n : Int)) (hx : (x : Int) ∈ p) : (los lw os)[i]? = some (lw x : Int) := by
  rw [pts_los, List.getElem?_map] at h
  obtain ⟨y, hy, e⟩ := Option.map_eq_some_iff.1 h
  subst e
  obtain ⟨x', e, -, h3⟩ := mem_mem1.1 hx
  have e' : x' = x := by omega
  subst e'
  have := hr y (List.mem_filter.1 (List.mem_of_getElem? hy)).1
  rw [hy, h3]
  congr 1
  omega
/-- what is needed stands in an earlier part, or in the same -/
theorem pts_edge {ps : List Pr} {n : Nat} {lw : Nat → Nat} {N : Nat → List Int} {os : List Int} (h : Lws ps n lw) (hN : LstR n (btw lw ps) N) (hl : Ln N n os) {u v i j : Nat} {p q : List Int} (he : Eg ps u v) (hp : (pts n lw os)[i]? = some p) (hq : (pts n lw os)[j]? = some q) (hu : (u : Int) ∈ p) (hv : (v : Int) ∈ q) : j ≤ i := by
  have h1 := pts_at hp hl.rng hu
  have h2 := pts_at hq hl.rng hv
  have hg := los_gn h hN hl
  by_cases e : lw u = lw v
  · rw [e] at h1
    have := at_uniq hg.nodup h1 h2
    omega
  · have := hg.before h1 h2 (mem_btw.2 ⟨_, he, by simpa using e, by simp, by simp⟩)
    omega
theorem flat_before {pss : List (List Int)} (hn : pss.flatten.Nodup) {i j a b : Nat} {p q : List Int} {x y : Int} (hp : pss[i]? = some p) (hq : pss[j]? = some q) (hij : i < j) (hx : x ∈ p) (hy : y ∈ q) (ha : pss.flatten[a]? = some x) (hb : pss.flatten[b]? = some y) : a < b := by
  have hsp : pss.flatten = (pss.take j).flatten ++ (pss.drop j).flatten := by rw [← List.flatten_append, List.take_append_drop]
  have h1 : x ∈ (pss.take j).flatten := List.mem_flatten.2 ⟨p, List.mem_of_getElem? (by rw [List.getElem?_take, if_pos hij]; exact hp), hx⟩
  have h2 : y ∈ (pss.drop j).flatten := List.mem_flatten.2 ⟨q, List.mem_of_getElem? (i := 0) (by rw [List.getElem?_drop]; exact hq), hy⟩
  obtain ⟨c, hc⟩ := List.getElem?_of_mem h1
  obtain ⟨d, hd⟩ := List.getElem?_of_mem h2
  have hcl := (List.getElem?_eq_some_iff.1 hc).1
  have h3 : pss.flatten[c]? = some x := by rw [hsp, List.getElem?_append_left hcl]; exact hc
  have h4 : pss.flatten[(pss.take j).flatten.length + d]? = some y := by rw [hsp, List.getElem?_append_right (by omega), Nat.add_sub_cancel_left]; exact hd
  have := at_uniq hn ha h3
  have := at_uniq hn hb h4
  omega
theorem flat_nodup : ∀ {pss : List (List Int)}, (∀ (i : Nat) p, pss[i]? = some p → p.Nodup) → (∀ (i j : Nat) p q (y : Int), pss[i]? = some p → pss[j]? = some q → y ∈ p → y ∈ q → i = j) → pss.flatten.Nodup
  | [], _, _ => List.nodup_nil
  | p :: pss, h1, h2 => by
    rw [List.flatten_cons, List.nodup_append]
    refine ⟨h1 0 p rfl, flat_nodup (fun i q hq => h1 (i + 1) q hq) (fun i j q r y hq hr hy hy' => by have := h2 (i + 1) (j + 1) q r y hq hr hy hy'; omega), fun a ha b hb e => ?_⟩
    obtain ⟨q, hq, hbq⟩ := List.mem_flatten.1 hb
    obtain ⟨i, hi⟩ := List.getElem?_of_mem hq
    have := h2 0 (i + 1) p q a rfl hi ha (by rw [e]; exact hbq)
    omega
theorem Prt.flat {ps : List Pr} {n : Nat} {pss : List (List Int)} (h : Prt ps n pss) : pss.flatten.Nodup ∧ (∀ y ∈ pss.flatten, 0 ≤ y ∧ y < (n : Int)) ∧ pss.flatten.length = n := by
  have h1 : pss.flatten.Nodup := flat_nodup (fun i p hp => pw_nodup (h.up i p hp).1) h.one
  have h2 : ∀ y ∈ pss.flatten, 0 ≤ y ∧ y < (n : Int) := fun y hy => by
    obtain ⟨p, hp, hyp⟩ := List.mem_flatten.1 hy
    obtain ⟨i, hi⟩ := List.getElem?_of_mem hp
    exact (h.up i p hi).2.2 y hyp
  refine ⟨h1, h2, (full_iff h1 h2).2 fun x hx => ?_⟩
  obtain ⟨i, p, hp, hxp⟩ := h.all x hx
  exact List.mem_flatten.2 ⟨p, List.mem_of_getElem? hp, hxp⟩
/-- all parts of one thing, none needs itself: the order is the parts -/
theorem Prt.single {ps : List Pr} {n : Nat} {lw : Nat → Nat} {N N1 : Nat → List Int} {os o1 : List Int} (h : Lws ps n lw) (hN : LstR n (btw lw ps) N) (hl : Ln N n os) (hs : ∀ p ∈ pts n lw os, p.length = 1) (hno : ∀ x, ¬ Eg ps x x) (hN1 : LstR n ps N1) (hl1 : Ln N1 n o1) : o1.length = n ∧ o1 = (pts n lw os).flatten := by
  have hP := pts_prt h hN hl
  have hone : ∀ x y : Nat, x < n → y < n → Sam ps x y → x = y := fun x y hx hy hxy => by
    obtain ⟨i, p, hp, hxp⟩ := hP.all x hx
    have hyp := (hP.sam i p x y hp hxp).2 ⟨hy, hxy⟩
    have h1 := hs p (List.mem_of_getElem? hp)
    obtain ⟨z, rfl⟩ := List.length_eq_one_iff.1 h1
    rw [List.mem_singleton] at hxp hyp
    omega
  have hlw : ∀ x, x < n → lw x = x := fun x hx => (hone x (lw x) hx (h.lt hx) (h.low x hx).1).symm
  have hnc : ∀ x, ¬ OnC ps x := fun x ⟨z, he, hr⟩ => by
    obtain ⟨hx, hz⟩ := h.edge he
    have := hone x z hx hz ⟨.step he (.refl _), hr⟩
    subst this
    exact hno x he
  have hfull : o1.length = n := (full_iff hl1.nod hl1.rng).2 fun x hx => all_in h.rng hN1 hl1 hnc _ x hx (Nat.le_refl _)
  refine ⟨hfull, ?_⟩
  have hbt : ∀ x z : Int, (⟨x, z⟩ : Pr) ∈ btw lw ps ↔ (⟨x, z⟩ : Pr) ∈ ps := fun x z => by
    rw [mem_btw]
    constructor
    · rintro ⟨p, hp, -, rfl, rfl⟩
      have := h.rng p hp
      rw [hlw _ (by omega), hlw _ (by omega), show ((p.a.toNat : Nat) : Int) = p.a by omega, show ((p.b.toNat : Nat) : Int) = p.b by omega]
      exact hp
    · intro hp
      have := h.rng _ hp
      simp only at this
      refine ⟨_, hp, ?_, ?_, ?_⟩
      · simp only
        rw [hlw _ (by omega), hlw _ (by omega)]
        intro e
        refine hno x.toNat ?_
        show (⟨((x.toNat : Nat) : Int), ((x.toNat : Nat) : Int)⟩ : Pr) ∈ ps
        rw [show ((x.toNat : Nat) : Int) = x by omega]
        have ez : z = x := by omega
        rw [ez] at hp
        exact hp
      · simp only; rw [hlw _ (by omega)]; omega
      · simp only; rw [hlw _ (by omega)]; omega
  have e1 : o1 = os := (hl1.gn hN1).uniq ((hl.gn hN).congr (fun x => Iff.rfl) (fun x _ z => hbt x z))
  have e2 : los lw os = os := List.filter_eq_self.2 fun y hy => by
    have := hl.rng y hy
    rw [decide_eq_true_eq, hlw _ (by omega)]
    omega
  rw [e1, pts_los, e2]
  have key : ∀ l : List Int, (∀ y ∈ l, 0 ≤ y ∧ y < (n : Int)) → (l.map fun x => mem1 n lw x.toNat).flatten = l := by
    intro l
    induction l with
    | nil => intro _; rfl
    | cons a l ih =>
      intro hl
      have ha := hl a List.mem_cons_self
      rw [List.map_cons, List.flatten_cons, ih (fun y hy => hl y (List.mem_cons_of_mem _ hy))]
      have hm : mem1 n lw a.toNat = [a] := sorted_unique _ _ (mem1_up _ _ _) (by simp) fun y => by
        rw [mem_mem1, List.mem_singleton]
        constructor
        · rintro ⟨x, rfl, hx, e⟩
          rw [hlw x hx] at e
          omega
        · rintro rfl
          exact ⟨y.toNat, by omega, by omega, hlw _ (by omega)⟩
      rw [hm]
      rfl
  exact (key os hl.rng).symm
/-- a part of more things, or a thing that needs itself: a cycle -/
theorem Prt.cyc {ps : List Pr} {n : Nat} {pss : List (List Int)} (h : Prt ps n pss) (hs : ¬ ((∀ p ∈ pss, p.length = 1) ∧ ∀ x, ¬ Eg ps x x)) : ∃ x, OnC ps x := by
  apply Classical.byContradiction
  intro hno
  refine hs ⟨fun p hp => ?_, fun x he => hno ⟨x, x, he, .refl _⟩⟩
  obtain ⟨i, hi⟩ := List.getElem?_of_mem hp
  obtain ⟨hup, hne, hrg⟩ := h.up i p hi
  cases p with
  | nil => exact absurd rfl hne
  | cons a p =>
    cases p with
    | nil => rfl
    | cons b p =>
      have ha := hrg a (by simp)
      have hb := hrg b (by simp)
      have hab : a < b := (List.pairwise_cons.1 hup).1 b (by simp)
      obtain ⟨a, rfl⟩ : ∃ x : Nat, a = (x : Int) := ⟨a.toNat, by omega⟩
      obtain ⟨b, rfl⟩ : ∃ x : Nat, b = (x : Int) := ⟨b.toNat, by omega⟩
      have hs := ((h.sam i _ a b hi (by simp)).1 (by simp)).2
      obtain ⟨u, hu, hr⟩ := hs.1.first (by omega)
      exact absurd ⟨a, u, hu, hr.trans hs.2⟩ hno
end Go.Proofs.Ytgijcbipnjmhgaa

namespace Go.Proofs.Ytgijcbipnjmhgaa
open Go.ChangeShapes Go.WideShapes Go.ChangeAt Go.RowKit
set_option linter.unusedVariables false
set_option linter.unusedSimpArgs false

/-- where each thing of a list stands, as far as it was read -/
structure Pk (l : List Int) (n k : Nat) (ats : List Int) : Prop where
  len : ats.length = n
  old : ∀ (i : Nat) (x : Int), i < k → l[i]? = some x → ats[x.toNat]? = some (i : Int)
  non : ∀ y : Nat, y < n → (y : Int) ∉ l.take k → ats[y]? = some (-1)
theorem Pk.start (l : List Int) (n : Nat) : Pk l n 0 (List.replicate n (-1)) := ⟨by simp, fun i x h => by omega, fun y hy _ => by rw [List.getElem?_replicate, if_pos hy]⟩
theorem Pk.step {l : List Int} {n k x : Nat} {ats : List Int} (h : Pk l n k ats) (hl : l.Nodup) (hx : l[k]? = some (x : Int)) (hxn : x < n) : ats[x]? = some (-1) ∧ Pk l n (k + 1) (ats.set x (k : Int)) := by
  have hno : (x : Int) ∉ l.take k := fun hm => by
    obtain ⟨i, hi⟩ := List.getElem?_of_mem hm
    have hik : i < k := by
      have := (List.getElem?_eq_some_iff.1 hi).1
      rw [List.length_take] at this
      omega
    rw [List.getElem?_take, if_pos hik] at hi
    have := at_uniq hl hi hx
    omega
  refine ⟨h.non x hxn hno, by rw [List.length_set]; exact h.len, fun i y hi hy => ?_, fun y hy hm => ?_⟩
  · rw [List.getElem?_set]
    by_cases e : i = k
    · subst e
      rw [hx] at hy
      injection hy with hy
      subst hy
      rw [if_pos (by omega), if_pos (by rw [h.len]; exact hxn)]
    · have hyx : y ≠ (x : Int) := fun e2 => by subst e2; exact e (at_uniq hl hy hx)
      have h1 := h.old i y (by omega) hy
      by_cases e3 : x = y.toNat
      · -- y < 0 cannot be told apart by its number alone
        subst e3
        rw [h.non _ hxn hno] at h1
        injection h1 with h1
        omega
      · rw [if_neg e3]; exact h1
  · rw [List.getElem?_set]
    by_cases e : x = y
    · subst e
      exact absurd (by obtain ⟨l1, e1⟩ := List.getElem?_eq_some_iff.1 hx; rw [List.take_succ_eq_append_getElem l1, e1]; simp) hm
    · rw [if_neg e]
      exact h.non y hy (fun h2 => hm (by rw [List.take_add_one]; exact List.mem_append_left _ h2))
set_option maxRecDepth 1000000 in
set_option maxHeartbeats 2000000 in
theorem places_any (n c C : Nat) (a : Option Addr) (l : List Int) (w : World) (hC : C ≤ w.heap.size) (hR : Rd1 C w a l) (hl : l.Nodup) (hr : ∀ y ∈ l, 0 ≤ y ∧ y < (n : Int)) (hf : l.length = n) (hn : n ≤ 131072) :
    Calls Try.prog 20 #[.int .i64 (n : Int), .slice a n c] w fun e w' => e = .returned (.tuple #[.slice (some ⟨w.heap.size, 0, none⟩) n n, .bool true]) ∧ Below w.heap.size w w' ∧ ∃ ats, w'.ownsRow w.heap.size 3 1 (.slice (some ⟨w.heap.size, 0, none⟩) n n) n (flat ats) ∧ Pk l n n ats := by
  obtain ⟨i0, hi0, hz0, hz1, hz2⟩ := info_parts infoIntH
  obtain ⟨B, hB⟩ : ∃ B, w.heap.size = B := ⟨_, rfl⟩
  have HR := hidH hR
  have HL := hidH hl
  have HG := hidH hr
  have HF := hidH hf
  have hCB : C ≤ B := by omega
  clear hR hl hr hf
  go_enter Try.func20, Try.ntmps20
  go_wp2_with (at_make; refine wpList_make_full _ rfl _ _ 24 rfl B 3 i0 (.int .i64 0) 1 Try.underlying24 hi0 hz0 hz1 _ _ _ _ n rfl rfl rfl rfl (by rw [hz2]; omega) (by unfold maxLen; omega) (by omega) ?_; intro v1 hown1 hgr1; rw [hB] at hown1 ⊢; have O1 : Hid (v1.ownsRow B 3 1 (.slice (some ⟨B, 0, none⟩) n n) n (flat (List.replicate n (0 : Int)))) := (by rw [show (Value.int .i64 0).cells = #[.int .i64 0] by rfl, rep_made] at hown1; unfold Hid; rw [show flat (List.replicate n (0 : Int)) = List.replicate n (Value.int .i64 0) by rw [flat_ints, List.map_replicate]]; exact hown1); have E1 : Hid (Below B w v1) := ((Below.refl _ _).grown hgr1 (by omega) (fun k h => by cases h)); clear hown1 hgr1)
  go_loopg [14] n (fun gk si wr => ∃ (k : Nat) (zs : List Int), gk = n - k ∧ si = .int .i64 (k : Int) ∧ k ≤ n ∧ wr.ownsRow B 3 1 (.slice (some ⟨B, 0, none⟩) n n) n (flat zs) ∧ zs.length = n ∧ (∀ y : Nat, y < k → zs[y]? = some (-1)) ∧ Below B w wr)
  case atStart => exact ⟨0, _, rfl, rfl, Nat.zero_le _, O1.out, by simp, fun y hy => by omega, E1.out⟩
  case round =>
    clear O1 E1
    obtain ⟨k, zs, hgk, rfl, hk, hO, hzl, hzs, hE⟩ := hrel
    have O1 := hidH hO
    have E1 := hidH hE
    have HZ := hidH hzs
    have HZL := hidH hzl
    clear hO hE hzs hzl
    by_cases hkn : k < n
    · have hkn' : (k : Int) < (n : Int) := by omega
      have kk : IntKind.i64.wrap ((k : Int) + 1) = ((k + 1 : Nat) : Int) := by rw [IntWalk.i64_in _ ⟨by omega, by omega⟩]; omega
      obtain ⟨z, hz⟩ : ∃ z, zs[k]? = some z := ⟨_, List.getElem?_eq_getElem (by rw [HZL.out]; exact hkn)⟩
      obtain ⟨cK, fK⟩ := row_cell O1.out hz
      have O2 := hidH (World.ownsRow.stored O1.out k (.int .i64 (-1))).1
      have E2 := hidH (E1.out.setCell (p := ⟨B, k, none⟩) (Nat.le_refl _) (.int .i64 (-1)))
      clear hz
      go_wp2
      go_roundg (n - (k + 1))
      case measure => omega
      case rel => exact ⟨k + 1, zs.set k (-1), rfl, rfl, by omega, by rw [← flat_setI]; exact O2.out, by rw [List.length_set]; exact HZL.out, fun y hy => by rw [List.getElem?_set]; by_cases e : k = y; (rw [if_pos e, if_pos (by rw [HZL.out]; exact hkn)]); (rw [if_neg e]; exact HZ.out y (by omega)), E2.out⟩
    · have hkn' : ¬ (k : Int) < (n : Int) := by omega
      have hk2 : k = n := by omega
      subst hk2
      have hrep : zs = List.replicate k (-1) := List.ext_getElem? fun y => by
        by_cases hy : y < k
        · rw [HZ.out y hy, List.getElem?_replicate, if_pos hy]
        · rw [List.getElem?_eq_none (by rw [HZL.out]; omega), List.getElem?_eq_none (by rw [List.length_replicate]; omega)]
      have P0 : Hid (Pk l k 0 zs) := by unfold Hid; rw [hrep]; exact Pk.start l k
      clear hrep HZ HZL
      go_wp2
      go_loopg [23] k (fun gk si wq => ∃ (i : Nat) (ats : List Int), gk = k - i ∧ si = .int .i64 (i : Int) ∧ i ≤ k ∧ wq.ownsRow B 3 1 (.slice (some ⟨B, 0, none⟩) k k) k (flat ats) ∧ Pk l k i ats ∧ Below B w wq)
      case atStart => exact ⟨0, _, rfl, rfl, Nat.zero_le _, O1.out, P0.out, E1.out⟩
      case round =>
        clear O1 E1 P0
        obtain ⟨i, ats, hgk2, rfl, hi, hO, hP, hE⟩ := hrel
        have O1 := hidH hO
        have E1 := hidH hE
        have PP := hidH hP
        clear hO hE hP
        by_cases hik : i < k
        · have hik' : (i : Int) < (k : Int) := by omega
          have ki : IntKind.i64.wrap ((i : Int) + 1) = ((i + 1 : Nat) : Int) := by rw [IntWalk.i64_in _ ⟨by omega, by omega⟩]; omega
          obtain ⟨x0, hx0⟩ : ∃ x, l[i]? = some x := ⟨_, List.getElem?_eq_getElem (by rw [HF.out]; exact hik)⟩
          have hxr := HG.out x0 (List.mem_of_getElem? hx0)
          obtain ⟨x, rfl⟩ : ∃ y : Nat, x0 = (y : Int) := ⟨x0.toNat, by omega⟩
          have hxk : x < k := by omega
          obtain ⟨hm1, hP2⟩ := PP.out.step HL.out hx0 hxk
          obtain ⟨g, rfl, hg, hc⟩ := (HR.out.below (E1.out.mono hCB)) (by rw [HF.out]; omega)
          have cx := hc i _ hx0
          obtain ⟨cA, fA⟩ := row_cell O1.out hm1
          have P2 := hidH hP2
          have O2 := hidH (World.ownsRow.stored O1.out x (.int .i64 (i : Int))).1
          have E2 := hidH (E1.out.setCell (p := ⟨B, x, none⟩) (Nat.le_refl _) (.int .i64 (i : Int)))
          have hx1 : ¬ (x : Int) < 0 := by omega
          have hx2 : ¬ (k : Int) ≤ (x : Int) := by omega
          have hx3 : (x : Int) < (k : Int) := by omega
          have hx4 : (0 : Int) ≤ (x : Int) := by omega
          clear hx0 hxr hm1 hP2 hc
          go_wp2
          go_roundg (k - (i + 1))
          case measure => omega
          case rel => exact ⟨i + 1, _, rfl, rfl, by omega, by rw [← flat_setI]; exact O2.out, P2.out, E2.out⟩
        · have hik' : ¬ (i : Int) < (k : Int) := by omega
          have hi2 : i = k := by omega
          go_wp2
          go_ret2
          exact ⟨rfl, E1.out, ats, O1.out, by have h9 := PP.out; rw [hi2] at h9; exact h9⟩
end Go.Proofs.Ytgijcbipnjmhgaa

namespace Go.Proofs.Ytgijcbipnjmhgaa
open Go.ChangeShapes Go.WideShapes Go.ChangeAt Go.RowKit
set_option linter.unusedVariables false
set_option linter.unusedSimpArgs false

abbrev ps3 : List Pr := [⟨0, 2⟩]
theorem ps3_no (x : Nat) : ¬ OnC ps3 x := by
  rintro ⟨z, he, hr⟩
  simp only [Eg, ps3, List.mem_singleton, Pr.mk.injEq] at he
  obtain ⟨h1, h2⟩ := he
  have e1 : x = 0 := by omega
  have e2 : z = 2 := by omega
  subst e1 e2
  obtain ⟨u, hu, -⟩ := hr.first (by omega)
  simp only [Eg, ps3, List.mem_singleton, Pr.mk.injEq] at hu
  omega
theorem ps3_gn : Gn (fun x => 0 ≤ x ∧ x < ((3 : Nat) : Int)) (fun x z => (⟨x, z⟩ : Pr) ∈ ps3) [1, 2, 0] := by
  have hR : ∀ x z : Int, (⟨x, z⟩ : Pr) ∈ ps3 ↔ x = 0 ∧ z = 2 := fun x z => by simp only [ps3, List.mem_singleton, Pr.mk.injEq]
  refine ⟨fun ps x qs e => ?_, fun x hx => ?_⟩
  · unfold Rdn
    simp only [hR]
    match ps, e with
    | [], e =>
      simp at e
      obtain ⟨rfl, -⟩ := e
      refine ⟨⟨by omega, by simp, fun z h => by omega⟩, fun y hy => ?_⟩
      have h1 := hy.2.2 2
      simp at h1
      omega
    | [a], e =>
      simp at e
      obtain ⟨rfl, rfl, -⟩ := e
      refine ⟨⟨by omega, by simp, fun z h => by omega⟩, fun y hy => ?_⟩
      have h1 := hy.2.2 2
      have h2 := hy.2.1
      simp at h1 h2
      omega
    | [a, b], e =>
      simp at e
      obtain ⟨rfl, rfl, rfl, -⟩ := e
      exact ⟨⟨by omega, by simp, fun z h => by simp; omega⟩, fun y hy => by omega⟩
    | a :: b :: c :: d, e => simp at e
  · obtain ⟨h1, h2, -⟩ := hx
    simp at h2
    omega
theorem order3 (cap : Nat) (g : Nat) (w : World) (hg : g < w.heap.size) (h0 : w.cell? ⟨g, 0, none⟩ = some (.int .i64 0)) (h1 : w.cell? ⟨g, 1, none⟩ = some (.int .i64 2)) :
    Calls Try.prog 19 #[.int .i64 3, .slice (some ⟨g, 0, none⟩) 1 cap] w fun e w' => ∃ v, e = .returned (.tuple #[v, .slice none 0 0, .int .i64 0]) ∧ Below w.heap.size w w' ∧ w'.ownsRow w.heap.size 3 1 v 3 (flat ([1, 2, 0] : List Int)) := by
  have hL : LiesA w (some ⟨g, 0, none⟩) ps3 := .inr ⟨g, 0, rfl, hg, fun j u hj => by
    rw [Nat.zero_add]
    have hk : ([Value.int .i64 0, .int .i64 2] : List Value)[j]? = some u := hj
    clear hj
    match j, hk with
    | 0, hj => simp at hj; subst hj; exact h0
    | 1, hj => simp at hj; subst hj; exact h1
    | j + 2, hj => simp at hj⟩
  refine (order_yes 3 cap _ ps3 w hL (by simp) (by decide) ps3_no).mono fun e w' ⟨v, he, hb, N, os, hN, hl, hf, ho⟩ => ⟨v, he, hb, ?_⟩
  have e1 : os = [1, 2, 0] := (hl.gn hN).uniq ps3_gn
  subst e1
  exact ho
theorem lies3 (w : World) (g : Nat) (hg : g < w.heap.size) (X : Bx w g #[.int .i64 1, .int .i64 2, .int .i64 0] 3) : LiesA w (some ⟨g, 0, none⟩) ([1, 2, 0] : List Int) := .inr ⟨g, 0, rfl, hg, fun j u hj => by
  rw [Nat.zero_add]
  have h0 := X.cell 0
  have h1 := X.cell 1
  have h2 := X.cell 2
  have hk : ([Value.int .i64 1, .int .i64 2, .int .i64 0] : List Value)[j]? = some u := hj
  clear hj
  match j, hk with
  | 0, hj => simp at hj; subst hj; exact h0
  | 1, hj => simp at hj; subst hj; exact h1
  | 2, hj => simp at hj; subst hj; exact h2
  | j + 3, hj => simp at hj⟩
set_option maxRecDepth 1000000 in
set_option maxHeartbeats 4000000 in
theorem low_bad (n : Int) (s : Option Addr) (cap : Nat) (ps : List Pr) (w : World) (hL : LiesA w s ps) (hm : ps.length ≤ 8796093022208) (h : things n ps = false) :
    Calls Try.prog 7 #[.int .i64 n, .slice s ps.length cap] w fun e w' => e = .returned (.bool true) ∧ Below w.heap.size w w' := by
  have QA := hidH (order_bad n s cap ps w hL hm h)
  clear hL
  go_enter Try.func7, Try.ntmps7
  go_upto_region 5 with (first
    | (go_at_call 19; (with_reducible refine (QA.out).mono ?_); clear QA; rintro e w1 ⟨rfl, hb1⟩; have HB1 := hidH hb1; obtain ⟨w2, e2, hb2, hs2, X2⟩ := bx1 w1 #[.int .i64 0, .int .i64 2] 40; have HB2 := hidH (HB1.out.trans (hb2.mono HB1.out.size)); have HB12 := hidH hb2; have Q3 := hidH (order3 1 w1.heap.size w2 (by omega) (X2.cell 0) (X2.cell 1)); clear hb1 hb2 X2)
    | (go_at_call 19; (with_reducible refine (Q3.out).mono ?_); clear Q3; rintro e w3 ⟨v3, rfl, hb3, ho3⟩; have HB3 := hidH (HB2.out.trans (hb3.mono HB2.out.size)); have HB13 := hidH (HB12.out.trans (hb3.mono HB12.out.size)); obtain ⟨a3, c3, hv3, -, -⟩ := own_slice ho3; subst hv3; obtain ⟨w4, e4, hb4, hs4, X4⟩ := bx1 w3 #[.int .i64 1, .int .i64 2, .int .i64 0] 3; have HB4 := hidH (HB3.out.trans (hb4.mono HB3.out.size)); have HB14 := hidH (HB13.out.trans (hb4.mono HB13.out.size)); have SM : Hid (Calls Try.prog 12 #[.slice a3 3 c3, .slice (some ⟨w3.heap.size, 0, none⟩) 3 3] w4 fun e w' => e = .returned (.bool true) ∧ Below w4.heap.size w4 w') := (same_ints a3 (some ⟨w3.heap.size, 0, none⟩) c3 3 ([1, 2, 0] : List Int) w4 ((Rd1.of (B := w2.heap.size) (c := c3) ho3 (Nat.le_refl _)).below hb4 |>.lies (by omega)) (lies3 w4 w3.heap.size (by omega) X4) (by unfold maxLen; simp)); clear hb3 ho3 hb4 X4 HB2 HB3 HB12 HB13 e2 hs2)
    | (go_at_call 12; (with_reducible refine (SM.out).mono ?_); clear SM; rintro e w5 ⟨rfl, hb5⟩; have HB5 := hidH (HB4.out.trans (hb5.mono HB4.out.size)); have HB15 := hidH (HB14.out.trans (hb5.mono HB14.out.size)); clear hb5 HB4 HB14 e4 hs4))
  go_wp2
  go_ret
  exact ⟨rfl, HB5.out⟩
set_option maxRecDepth 1000000 in
set_option maxHeartbeats 4000000 in
theorem low_cyc (n cap : Nat) (s : Option Addr) (ps : List Pr) (w : World) (hL : LiesA w s ps) (hm : ps.length ≤ 8796093022208) (ht : things (n : Int) ps = true) (hex : ∃ x, OnC ps x) :
    Calls Try.prog 7 #[.int .i64 (n : Int), .slice s ps.length cap] w fun e w' => e = .returned (.bool true) ∧ Below w.heap.size w w' := by
  have QA := hidH (order_cyc n cap s ps w hL hm ht hex)
  clear hL
  go_enter Try.func7, Try.ntmps7
  go_upto_region 5 with (first
    | (go_at_call 19; (with_reducible refine (QA.out).mono ?_); clear QA; rintro e w1 ⟨v1, rfl, hb1, f1, l1, -, -, -⟩; have HB1 := hidH hb1; obtain ⟨w2, e2, hb2, hs2, X2⟩ := bx1 w1 #[.int .i64 0, .int .i64 2] 40; have HB2 := hidH (HB1.out.trans (hb2.mono HB1.out.size)); have HB12 := hidH hb2; have Q3 := hidH (order3 1 w1.heap.size w2 (by omega) (X2.cell 0) (X2.cell 1)); clear hb1 hb2 X2)
    | (go_at_call 19; (with_reducible refine (Q3.out).mono ?_); clear Q3; rintro e w3 ⟨v3, rfl, hb3, ho3⟩; have HB3 := hidH (HB2.out.trans (hb3.mono HB2.out.size)); have HB13 := hidH (HB12.out.trans (hb3.mono HB12.out.size)); obtain ⟨a3, c3, hv3, -, -⟩ := own_slice ho3; subst hv3; obtain ⟨w4, e4, hb4, hs4, X4⟩ := bx1 w3 #[.int .i64 1, .int .i64 2, .int .i64 0] 3; have HB4 := hidH (HB3.out.trans (hb4.mono HB3.out.size)); have HB14 := hidH (HB13.out.trans (hb4.mono HB13.out.size)); have SM : Hid (Calls Try.prog 12 #[.slice a3 3 c3, .slice (some ⟨w3.heap.size, 0, none⟩) 3 3] w4 fun e w' => e = .returned (.bool true) ∧ Below w4.heap.size w4 w') := (same_ints a3 (some ⟨w3.heap.size, 0, none⟩) c3 3 ([1, 2, 0] : List Int) w4 ((Rd1.of (B := w2.heap.size) (c := c3) ho3 (Nat.le_refl _)).below hb4 |>.lies (by omega)) (lies3 w4 w3.heap.size (by omega) X4) (by unfold maxLen; simp)); clear hb3 ho3 hb4 X4 HB2 HB3 HB12 HB13 e2 hs2)
    | (go_at_call 12; (with_reducible refine (SM.out).mono ?_); clear SM; rintro e w5 ⟨rfl, hb5⟩; have HB5 := hidH (HB4.out.trans (hb5.mono HB4.out.size)); have HB15 := hidH (HB14.out.trans (hb5.mono HB14.out.size)); clear hb5 HB4 HB14 e4 hs4))
  go_wp2
  go_ret
  exact ⟨rfl, HB5.out⟩
/-- the first place at which a thing may stand, as far as the edges were read -/
structure Rdk (ps : List Pr) (ats : List Int) (n k : Nat) (rs : List Int) : Prop where
  len : rs.length = n
  bnd : ∀ (y : Nat) (v : Int), rs[y]? = some v → 0 ≤ v ∧ v ≤ (n : Int)
  lo : ∀ p ∈ ps.take k, ∀ (v u : Int), rs[p.a.toNat]? = some v → ats[p.b.toNat]? = some u → u + 1 ≤ v
theorem Rdk.start (ps : List Pr) (ats : List Int) (n : Nat) : Rdk ps ats n 0 (List.replicate n 0) := ⟨by simp, (fun y v h => by rw [List.getElem?_replicate] at h; split at h; (injection h with h; omega); (cases h)), (fun p hp => by simp at hp)⟩
theorem Rdk.step {ps : List Pr} {ats : List Int} {n k x y : Nat} {rs : List Int} {v u : Int} (h : Rdk ps ats n k rs) (hp : ps[k]? = some ⟨(x : Int), (y : Int)⟩) (hv : rs[x]? = some v) (hu : ats[y]? = some u) (hun : u < (n : Int)) : Rdk ps ats n (k + 1) (rs.set x (max v (u + 1))) := by
  have hxl := (List.getElem?_eq_some_iff.1 hv).1
  have hget : ∀ (z : Nat) (c : Int), (rs.set x (max v (u + 1)))[z]? = some c → (z = x ∧ c = max v (u + 1)) ∨ (z ≠ x ∧ rs[z]? = some c) := fun z c hc => by
    rw [List.getElem?_set] at hc
    by_cases e : x = z
    · rw [if_pos e, if_pos hxl] at hc
      injection hc with hc
      exact .inl ⟨e.symm, hc.symm⟩
    · rw [if_neg e] at hc
      exact .inr ⟨fun e2 => e e2.symm, hc⟩
  have hbv := h.bnd x v hv
  refine ⟨by rw [List.length_set]; exact h.len, fun z c hc => ?_, fun p hpm c w hc hw => ?_⟩
  · rcases hget z c hc with ⟨-, rfl⟩ | ⟨-, hc⟩
    · omega
    · exact h.bnd z c hc
  · obtain ⟨l1, e1⟩ := List.getElem?_eq_some_iff.1 hp
    rw [List.take_succ_eq_append_getElem l1, List.mem_append, List.mem_singleton, e1] at hpm
    rcases hpm with hpm | rfl
    · rcases hget _ c hc with ⟨ez, rfl⟩ | ⟨-, hc⟩
      · have := h.lo p hpm v w (by rw [ez]; exact hv) hw
        omega
      · exact h.lo p hpm c w hc hw
    · simp only [Int.toNat_natCast] at hc hw
      rw [hu] at hw
      injection hw with hw
      rcases hget _ c hc with ⟨-, rfl⟩ | ⟨hz, -⟩
      · omega
      · exact absurd rfl hz
/-- the lowest that may stand -/
theorem Gd.lowest {N : Nat → List Int} {n i a b : Nat} {os : List Int} (h : Gd N n os) (hn : os.Nodup) (ha : os[i]? = some (a : Int)) (hb : os[i + 1]? = some (b : Int)) (hbn : b < n) (hr : ∀ z ∈ N b, ∃ j : Nat, os[j]? = some z ∧ j < i) : a ≤ b := by
  obtain ⟨l1, e1⟩ := List.getElem?_eq_some_iff.1 ha
  have hsp : os = os.take i ++ (a : Int) :: os.drop (i + 1) := by rw [← e1, List.getElem_cons_drop, List.take_append_drop]
  have h1 := (h _ _ _ hsp).2 (b : Int) ⟨by omega, by omega, fun hm => ?_, fun z hz => ?_⟩
  · omega
  · obtain ⟨j, hj⟩ := List.getElem?_of_mem hm
    have hji : j < i := by
      have := (List.getElem?_eq_some_iff.1 hj).1
      rw [List.length_take] at this
      omega
    rw [List.getElem?_take, if_pos hji] at hj
    have := at_uniq hn hj hb
    omega
  · rw [show ((b : Int)).toNat = b by omega] at hz
    obtain ⟨j, hj, hji⟩ := hr z hz
    exact List.mem_of_getElem? (i := j) (by rw [List.getElem?_take, if_pos hji]; exact hj)
set_option maxRecDepth 1000000 in
set_option maxHeartbeats 4000000 in
theorem low_ok (n cap : Nat) (s : Option Addr) (ps : List Pr) (w : World) (hL : LiesA w s ps) (hm : ps.length ≤ 8796093022208) (ht : things (n : Int) ps = true) (hno : ∀ x, ¬ OnC ps x) :
    Calls Try.prog 7 #[.int .i64 (n : Int), .slice s ps.length cap] w fun e w' => e = .returned (.bool true) ∧ Below w.heap.size w w' := by
  obtain ⟨hn, hps⟩ := things_spec ht
  obtain ⟨i0, hi0, hz0, hz1, hz2⟩ := info_parts infoIntH
  have QA := hidH (order_yes n cap s ps w hL hm ht hno)
  have HL := hidH hL
  have HT := hidH ht
  have HPS := hidH hps
  clear hL ht hno hps
  go_enter Try.func7, Try.ntmps7
  go_upto_region 5 with (first
    | (go_at_call 19; (with_reducible refine (QA.out).mono ?_); clear QA; rintro e w1 ⟨v1, rfl, hb1, N, os, hN, hln, hfu, ho1⟩; have LN := hidH hN; have LNN := hidH hln; have HFU := hidH hfu; have OS := hidH ho1; clear hN hln hfu ho1; have HB1 := hidH hb1; obtain ⟨w2, e2, hb2, hs2, X2⟩ := bx1 w1 #[.int .i64 0, .int .i64 2] 40; have HB2 := hidH (HB1.out.trans (hb2.mono HB1.out.size)); have HB12 := hidH hb2; have Q3 := hidH (order3 1 w1.heap.size w2 (by omega) (X2.cell 0) (X2.cell 1)); clear hb1 hb2 X2)
    | (go_at_call 19; (with_reducible refine (Q3.out).mono ?_); clear Q3; rintro e w3 ⟨v3, rfl, hb3, ho3⟩; have HB3 := hidH (HB2.out.trans (hb3.mono HB2.out.size)); have HB13 := hidH (HB12.out.trans (hb3.mono HB12.out.size)); obtain ⟨a3, c3, hv3, -, -⟩ := own_slice ho3; subst hv3; obtain ⟨w4, e4, hb4, hs4, X4⟩ := bx1 w3 #[.int .i64 1, .int .i64 2, .int .i64 0] 3; have HB4 := hidH (HB3.out.trans (hb4.mono HB3.out.size)); have HB14 := hidH (HB13.out.trans (hb4.mono HB13.out.size)); have SM : Hid (Calls Try.prog 12 #[.slice a3 3 c3, .slice (some ⟨w3.heap.size, 0, none⟩) 3 3] w4 fun e w' => e = .returned (.bool true) ∧ Below w4.heap.size w4 w') := (same_ints a3 (some ⟨w3.heap.size, 0, none⟩) c3 3 ([1, 2, 0] : List Int) w4 ((Rd1.of (B := w2.heap.size) (c := c3) ho3 (Nat.le_refl _)).below hb4 |>.lies (by omega)) (lies3 w4 w3.heap.size (by omega) X4) (by unfold maxLen; simp)); clear hb3 ho3 hb4 X4 HB2 HB3 HB12 HB13 e2 hs2)
    | (go_at_call 12; (with_reducible refine (SM.out).mono ?_); clear SM; rintro e w5 ⟨rfl, hb5⟩; have HB5 := hidH (HB4.out.trans (hb5.mono HB4.out.size)); have HB15 := hidH (HB14.out.trans (hb5.mono HB14.out.size)); clear hb5 HB4 HB14 e4 hs4))
  obtain ⟨aO, cO, hv1, -, -⟩ := own_slice OS.out
  subst hv1
  have ROS : Hid (Rd1 w1.heap.size w1 aO os) := Rd1.of (B := w.heap.size) (c := cO) OS.out (Nat.le_refl _)
  have RO5 : Hid (Rd1 w5.heap.size w5 aO os) := (ROS.out.below HB15.out).up HB15.out.size
  have QT := hidH (right_any (n : Int) s cap ps w5 (HL.out.below HB5.out) hm)
  rw [HT.out] at QT
  rw [show os.length = n from HFU.out]
  clear OS ROS
  go_upto_region 10 with (first
    | (go_at_call 17; (with_reducible refine (QT.out).mono ?_); clear QT; rintro e w6 ⟨rfl, hb6⟩; have HB6 := hidH (HB5.out.trans (hb6.mono HB5.out.size)); have RO6 : Hid (Rd1 w6.heap.size w6 aO os) := ((RO5.out.below hb6).up hb6.size); have QP := hidH (places_any n cO w6.heap.size aO os w6 (Nat.le_refl _) RO6.out LNN.out.nod LNN.out.rng HFU.out hn); clear hb6 HB5 RO5)
    | (go_at_call 20; (with_reducible refine (QP.out).mono ?_); clear QP; rintro e w7 ⟨rfl, hb7, ats, ho7, hpk⟩; have HB7 := hidH (HB6.out.trans (hb7.mono HB6.out.size)); have RO7 : Hid (Rd1 w7.heap.size w7 aO os) := ((RO6.out.below hb7).up hb7.size); have OA := hidH ho7; have PK := hidH hpk; clear hb7 ho7 hpk HB6 RO6))
  obtain ⟨R, hR⟩ : ∃ R, w7.heap.size = R := ⟨_, rfl⟩
  obtain ⟨gA, hgA⟩ : ∃ gA, w6.heap.size = gA := ⟨_, rfl⟩
  have hgR : gA < R := by have := (OA.out.lt w6.heap.size rfl).2; omega
  have hBR : w.heap.size ≤ R := by have := HB7.out.size; omega
  rw [hgA] at OA ⊢
  rw [hR] at RO7
  have HRE := hidH hR
  have POS : Hid (∀ x : Nat, x < n → ∃ i : Nat, os[i]? = some (x : Int) ∧ ats[x]? = some (i : Int) ∧ i < n) := fun x hx => by
    obtain ⟨i, hi⟩ := List.getElem?_of_mem ((full_iff LNN.out.nod LNN.out.rng).1 HFU.out x hx)
    have hin : i < n := by have := (List.getElem?_eq_some_iff.1 hi).1; have := HFU.out; omega
    refine ⟨i, hi, ?_, hin⟩
    have h9 := PK.out.old i _ hin hi
    rwa [show ((x : Int)).toNat = x by omega] at h9
  have CAT : Hid (∀ (x : Nat) (u : Int) (wq : World), Below R w7 wq → ats[x]? = some u → wq.cell? ⟨gA, x, none⟩ = some (.int .i64 u)) := fun x u wq hq hu => (hq.cell (p := ⟨gA, x, none⟩) hgR).trans (row_cell OA.out hu).1
  clear hgA
  go_upto_region 11 with (at_make; refine wpList_make_full _ rfl _ _ 24 rfl R 3 i0 (.int .i64 0) 1 Try.underlying24 hi0 hz0 hz1 _ _ _ _ n rfl rfl rfl rfl (by rw [hz2]; omega) (by unfold maxLen; omega) (by omega) ?_; intro v8 hown8 hgr8; rw [hR] at hown8 ⊢; have O8 : Hid (v8.ownsRow R 3 1 (.slice (some ⟨R, 0, none⟩) n n) n (flat (List.replicate n (0 : Int)))) := (by rw [show (Value.int .i64 0).cells = #[.int .i64 0] by rfl, rep_made] at hown8; unfold Hid; rw [show flat (List.replicate n (0 : Int)) = List.replicate n (Value.int .i64 0) by rw [flat_ints, List.map_replicate]]; exact hown8); have E8 : Hid (Below R w7 v8) := ((Below.refl _ _).grown hgr8 (by omega) (fun k h => by cases h)); clear hown8 hgr8)
  go_wp2
  go_loopg [66] ps.length (fun gk si wr => ∃ (k : Nat) (rs : List Int), gk = ps.length - k ∧ si = .int .i64 (k : Int) ∧ k ≤ ps.length ∧ wr.ownsRow R 3 1 (.slice (some ⟨R, 0, none⟩) n n) n (flat rs) ∧ Rdk ps ats n k rs ∧ Below R w7 wr)
  case atStart => exact ⟨0, _, rfl, rfl, Nat.zero_le _, O8.out, Rdk.start ps ats n, E8.out⟩
  case round =>
    clear O8 E8
    obtain ⟨k, rs, hgk, rfl, hk, hO, hRd, hE⟩ := hrel
    have O8 := hidH hO
    have RD := hidH hRd
    have EK := hidH hE
    clear hO hRd hE
    by_cases hkp : k < ps.length
    · have hkp' : (k : Int) < (ps.length : Int) := by omega
      obtain ⟨p, hp⟩ : ∃ p, ps[k]? = some p := ⟨_, List.getElem?_eq_getElem hkp⟩
      obtain ⟨gs, o, hs, hLi⟩ : ∃ b o, s = some ⟨b, o, none⟩ ∧ Lies w b o ps := by
        rcases HL.out with h | h
        · rw [h] at hkp; exact absurd hkp (Nat.not_lt_zero _)
        · exact h
      subst hs
      obtain ⟨pa, pb⟩ := p
      have hrp := HPS.out _ (List.mem_of_getElem? hp)
      simp only at hrp
      obtain ⟨x, rfl⟩ : ∃ x : Nat, pa = (x : Int) := ⟨pa.toNat, by omega⟩
      obtain ⟨y, rfl⟩ : ∃ y : Nat, pb = (y : Int) := ⟨pb.toNat, by omega⟩
      have hxn : x < n := by omega
      have hyn : y < n := by omega
      obtain ⟨d0, d1⟩ := (hLi.below (HB7.out.trans (EK.out.mono hBR)) hLi.1).pr hp
      simp only at d0 d1
      obtain ⟨jx, hjx, hax, hjxn⟩ := POS.out x hxn
      obtain ⟨jy, hjy, hay, hjyn⟩ := POS.out y hyn
      have hjj : jy < jx := LNN.out.gd.before LNN.out.nod hjx hjy (by rw [show ((x : Int)).toNat = x by omega]; exact ((LN.out x hxn).2 _).2 (List.mem_of_getElem? hp))
      obtain ⟨v, hv⟩ : ∃ v, rs[x]? = some v := ⟨_, List.getElem?_eq_getElem (by rw [RD.out.len]; exact hxn)⟩
      have hvb := RD.out.bnd x v hv
      have RD2 := hidH (RD.out.step hp hv hay (by omega))
      have kk : IntKind.i64.wrap ((k : Int) + 1) = ((k + 1 : Nat) : Int) := by rw [IntWalk.i64_in _ ⟨by omega, by omega⟩]; omega
      have HV := hidH hv
      have HAX := hidH hax
      have HAY := hidH hay
      clear hp hLi hrp hjx hjy hv hax hay
      go_upto_region 14 with fail
      obtain ⟨w9, e9, hb9, hs9, X9⟩ := bx1 wr #[.int .i64 (x : Int), .int .i64 (y : Int)] 40
      rw [e9]
      obtain ⟨q, hq⟩ : ∃ q, wr.heap.size = q := ⟨_, rfl⟩
      have hRq : R ≤ wr.heap.size := by have := (O8.out.lt R rfl).2; omega
      rw [hq] at X9 hs9 ⊢
      have c90 := X9.cell 0
      have c91 := X9.cell 1
      have E9 := hidH (EK.out.trans (hb9.mono hRq))
      have O9 := hidH (own_belowR O8.out hb9 (Nat.le_refl _))
      have cx9 := CAT.out x _ w9 E9.out HAX.out
      have cy9 := CAT.out y _ w9 E9.out HAY.out
      simp at c90 c91
      have hx0 : (0 : Int) ≤ (x : Int) := by omega
      have hy0 : (0 : Int) ≤ (y : Int) := by omega
      have hx1 : (x : Int) < (n : Int) := by omega
      have hy1 : (y : Int) < (n : Int) := by omega
      have hjj1 : ¬ (jx : Int) ≤ (jy : Int) := by omega
      have hqR : R < q := by have := (O8.out.lt R rfl).2; omega
      clear e9 d0 d1 X9 hb9 EK O8
      go_quiet (fail)
      obtain ⟨w10, hw10⟩ : ∃ w10, w9.drewN nq = w10 := ⟨_, rfl⟩
      have hdr : Below w9.heap.size w9 w10 := by rw [← hw10]; exact ⟨rfl, rfl, rfl, Nat.le_refl _, fun _ _ => rfl⟩
      have E10 := hidH (E9.out.trans (hdr.mono (by omega)))
      have O10 := hidH (own_belowR O9.out hdr (Nat.le_refl _))
      have c100 : w10.cell? ⟨q, 0, none⟩ = some (.int .i64 (x : Int)) := by rw [← hw10]; exact c90
      have c101 : w10.cell? ⟨q, 1, none⟩ = some (.int .i64 (y : Int)) := by rw [← hw10]; exact c91
      have cy10 := CAT.out y _ w10 E10.out HAY.out
      obtain ⟨cR, fR⟩ := row_cell O10.out HV.out
      rw [hw10]
      clear hw10 hdr c90 c91 cx9 cy9 E9 O9
      go_upto_region 16 with fail
      have kj : IntKind.i64.wrap ((jy : Int) + 1) = (jy : Int) + 1 := by rw [IntWalk.i64_in _ ⟨by omega, by omega⟩]
      have hRq1 : (⟨R, x, none⟩ : Addr).block ≠ q := by show R ≠ q; omega
      have O11 : Hid ((w10.setCell ⟨R, x, none⟩ (.int .i64 (max v ((jy : Int) + 1)))).drew.ownsRow R 3 1 (.slice (some ⟨R, 0, none⟩) n n) n (flat (rs.set x (max v ((jy : Int) + 1))))) := by
        have h1 := (World.ownsRow.stored O10.out x (.int .i64 (max v ((jy : Int) + 1)))).1
        rw [flat_setI] at h1
        exact h1.drew
      have E11 : Hid (Below R w7 (w10.setCell ⟨R, x, none⟩ (.int .i64 (max v ((jy : Int) + 1)))).drew) := (E10.out.setCell (p := ⟨R, x, none⟩) (Nat.le_refl _) _).drew
      go_big_region
      obtain ⟨w12, hw12⟩ : ∃ w12, (w10.setCell ⟨R, x, none⟩ (.int .i64 (max v ((jy : Int) + 1)))).drew = w12 := ⟨_, rfl⟩
      rw [hw12] at O11 E11 ⊢
      clear hw12 O10 E10 c100 c101 cy10 cR fR
      go_wp2
      go_roundg (ps.length - (k + 1))
      case measure => omega
      case rel => exact ⟨k + 1, _, rfl, rfl, by omega, O11.out, RD2.out, E11.out⟩
    · have hkp' : ¬ (k : Int) < (ps.length : Int) := by omega
      have hk2 : k = ps.length := by omega
      have RDF : Hid (Rdk ps ats n ps.length rs) := by have h9 := RD.out; rw [hk2] at h9; exact h9
      obtain ⟨wA, hwA⟩ : ∃ wA, wA = wr := ⟨wr, rfl⟩
      subst hwA
      obtain ⟨Z, hZ⟩ : ∃ Z, wA.heap.size = Z := ⟨_, rfl⟩
      have hRZ : R < Z := by have := (O8.out.lt R rfl).2; omega
      have HZ := hidH hZ
      have ROZ : Hid (Rd1 Z wA aO os) := (RO7.out.below EK.out).up (by omega)
      have LOW : Hid (∀ (i a b : Nat) (v : Int), os[i]? = some (a : Int) → os[i + 1]? = some (b : Int) → b < n → rs[b]? = some v → (b : Int) < (a : Int) → ¬ v ≤ (i : Int)) := fun i a b v ha hb hbn hv hlt hle => by
        have := LNN.out.gd.lowest LNN.out.nod ha hb hbn fun z hz => by
          have he := ((LN.out b hbn).2 z).1 hz
          have hzr := (HPS.out _ he).2
          simp only at hzr
          obtain ⟨z, rfl⟩ : ∃ y : Nat, z = (y : Int) := ⟨z.toNat, by omega⟩
          obtain ⟨j, hj, haj, -⟩ := POS.out z (by omega)
          have := RDF.out.lo _ (by rw [List.take_length]; exact he) v j (by simpa using hv) (by simpa using haj)
          exact ⟨j, hj, by omega⟩
        omega
      clear RD hk hgk hkp hkp'
      go_wp2
      go_loopg [16] n (fun gk si wq => ∃ i : Nat, gk = n - i ∧ si = .int .i64 (i : Int) ∧ i ≤ n ∧ Below Z wA wq)
      case atStart => exact ⟨0, rfl, rfl, Nat.zero_le _, Below.refl _ _⟩
      case round =>
        obtain ⟨i, hgk2, rfl, hi, hE⟩ := hrel
        have EI := hidH hE
        clear hE
        have ki : IntKind.i64.wrap ((i : Int) + 1) = ((i + 1 : Nat) : Int) := by rw [IntWalk.i64_in _ ⟨by omega, by omega⟩]; omega
        by_cases hin : i + 1 < n
        · have hin' : ((i + 1 : Nat) : Int) < (n : Int) := by omega
          obtain ⟨a0, ha0⟩ : ∃ a, os[i]? = some a := ⟨_, List.getElem?_eq_getElem (by rw [HFU.out]; omega)⟩
          obtain ⟨b0, hb0⟩ : ∃ b, os[i + 1]? = some b := ⟨_, List.getElem?_eq_getElem (by rw [HFU.out]; omega)⟩
          have har := LNN.out.rng a0 (List.mem_of_getElem? ha0)
          have hbr := LNN.out.rng b0 (List.mem_of_getElem? hb0)
          obtain ⟨a, rfl⟩ : ∃ y : Nat, a0 = (y : Int) := ⟨a0.toNat, by omega⟩
          obtain ⟨b, rfl⟩ : ∃ y : Nat, b0 = (y : Int) := ⟨b0.toNat, by omega⟩
          have hbn : b < n := by omega
          obtain ⟨gO, rfl, hgO, hcO⟩ := (ROZ.out.below EI.out) (by rw [HFU.out]; omega)
          have ca := hcO i _ ha0
          have cb := hcO (i + 1) _ hb0
          obtain ⟨v, hv⟩ : ∃ v, rs[b]? = some v := ⟨_, List.getElem?_eq_getElem (by rw [RDF.out.len]; exact hbn)⟩
          have cv := (EI.out.cell (p := ⟨R, b, none⟩) hRZ).trans (row_cell O8.out hv).1
          have hi0' : (0 : Int) ≤ (i : Int) := by omega
          have hi1' : (i : Int) < (n : Int) := by omega
          have hi2' : (0 : Int) ≤ ((i + 1 : Nat) : Int) := by omega
          have hb1' : (b : Int) < (n : Int) := by omega
          have hb2' : (0 : Int) ≤ (b : Int) := by omega
          by_cases hlt : (b : Int) < (a : Int)
          · have hnle := LOW.out i a b v ha0 hb0 hbn hv hlt
            have hd1 : decide ((b : Int) < (a : Int)) = true := decide_eq_true hlt
            have hd2 : decide (v ≤ (i : Int)) = false := decide_eq_false (by omega)
            clear ha0 hb0 har hbr hcO hv
            go_upto_region 21 with fail
            go_quiet (fail)
            obtain ⟨w12, hw12⟩ : ∃ w12, wr.drewN nq = w12 := ⟨_, rfl⟩
            have hdr : Below wr.heap.size wr w12 := by rw [← hw12]; exact ⟨rfl, rfl, rfl, Nat.le_refl _, fun _ _ => rfl⟩
            have E12 := hidH (EI.out.trans (hdr.mono (by have := EI.out.size; have := HZ.out; omega)))
            rw [hw12]
            clear hw12 hdr ca cb cv
            go_wp2
            go_roundg (n - (i + 1))
            case measure => omega
            case rel => exact ⟨i + 1, rfl, rfl, by omega, E12.out⟩
          · have hd1 : decide ((b : Int) < (a : Int)) = false := decide_eq_false hlt
            clear ha0 hb0 har hbr hcO hv
            go_upto_region 21 with fail
            go_quiet (fail)
            obtain ⟨w12, hw12⟩ : ∃ w12, wr.drewN nq = w12 := ⟨_, rfl⟩
            have hdr : Below wr.heap.size wr w12 := by rw [← hw12]; exact ⟨rfl, rfl, rfl, Nat.le_refl _, fun _ _ => rfl⟩
            have E12 := hidH (EI.out.trans (hdr.mono (by have := EI.out.size; have := HZ.out; omega)))
            rw [hw12]
            clear hw12 hdr ca cb cv
            go_wp2
            go_roundg (n - (i + 1))
            case measure => omega
            case rel => exact ⟨i + 1, rfl, rfl, by omega, E12.out⟩
        · have hin' : ¬ ((i + 1 : Nat) : Int) < (n : Int) := by omega
          go_wp2
          go_ret
          exact ⟨rfl, (HB7.out.trans (EK.out.mono hBR)).trans (EI.out.mono (by omega))⟩
end Go.Proofs.Ytgijcbipnjmhgaa

namespace Go.Proofs.Ytgijcbipnjmhgaa
open Go.ChangeShapes Go.WideShapes Go.ChangeAt Go.RowKit
set_option linter.unusedVariables false
set_option linter.unusedSimpArgs false

theorem things_nat {n : Int} {ps : List Pr} (ht : things n ps = true) : ∃ m : Nat, n = (m : Int) := by
  unfold things at ht
  simp only [Bool.and_eq_true, decide_eq_true_eq] at ht
  exact ⟨n.toNat, by omega⟩
theorem graphLowest_walk (n : Int) (s : Option Addr) (cap : Nat) (ps : List Pr) (w : World) (bn0 : -9223372036854775808 ≤ n) (bn1 : n ≤ 9223372036854775807) (hL : LiesA w s ps) (hn : s = none → ps.length = 0 ∧ cap = 0) (hl : ps.length * 16 ≤ 140737488351232) :
    Calls Try.prog 7 #[.int .i64 n, .slice s ps.length cap] w fun e w' => e = .returned (.bool true) ∧ Below w.heap.size w w' := by
  cases ht : things n ps with
  | false => exact low_bad n s cap ps w hL (by omega) ht
  | true =>
    obtain ⟨n, rfl⟩ := things_nat ht
    by_cases hex : ∃ x, OnC ps x
    · exact low_cyc n cap s ps w hL (by omega) ht hex
    · exact low_ok n cap s ps w hL (by omega) ht (fun x hx => hex ⟨x, hx⟩)
end Go.Proofs.Ytgijcbipnjmhgaa

namespace Go.Proofs.Ytgijcbipnjmhgaa
open Go.ChangeShapes Go.WideShapes Go.ChangeAt Go.RowKit Go.Deep
open Go.ChangeMaps (open_string shut_string)
set_option linter.unusedVariables false

set_option maxRecDepth 100000 in
theorem graphLowest_lifted (os : Os) (started : os.Started) (H : Type) (enc : TypeId × Value → H) :
    ReturnsInHanded {} Try.checked os 7 .any (Rows.graphLowestSpec.pre6 enc Try.prog Try.f7 Rows.graphLowestRow.domain false) (Rows.graphLowestSpec.post enc Try.prog Try.f7 false true false false) := by
  refine returnsInHanded_of_change_sized (C := Try.checked) own started (by kernel_rfl) Try.func7
    (ChangeSpec.witness6 (enc := enc) (C := Try.checked) false ⟨#[], #[.int .i64 0, .slice none 0 0], []⟩ 8 (by kernel_rfl) (by kernel_rfl) (by kernel_rfl) (by kernel_rfl)) ?_
  intro W base args ds gs before hval0 hW hcnd hsz0 _
  have hval : ∀ (j : Nat) t v, Try.f7.params[j]? = some t → args[j]? = some v → Value.okWide Try.prog W .any base t v := hval0
  have hsz : (DataW.weightsEach Try.prog (Try.f7.params.toList ++ Rows.graphLowestSpec.plain.varTypes Try.prog) (ds ++ gs)).all (· ≤ reachBytes) = true := hsz0
  have hW' := hW
  obtain ⟨p, q, hA0, hV, rfl, hfz, hnd⟩ := hW
  have hA : DataW.TrodAll enc Try.prog W 0 (fun _ => true) true Try.f7.params.toList args.toList ds p := hA0
  rw [Try.params7] at hA hval hsz
  obtain ⟨v0, vs0, d0, ds0, p0, q0, hargs, rfl, rfl, h0, r0⟩ := trodAll_cons hA
  obtain ⟨v1, vs1, d1, ds1, p1, q1, rfl, rfl, rfl, h1, r1⟩ := trodAll_cons r0
  obtain ⟨rfl, rfl, rfl⟩ := trodAll_nil r1
  obtain rfl : args = #[v0, v1] := by cases args; simp_all
  obtain ⟨rfl, rfl⟩ := trodVars_none hV
  obtain ⟨a1, len1, cap1, rfl⟩ := okWide_slice Try.underlying22 (hval 1 22 v1 rfl rfl)
  have k1 := h1
  have lt1 : ∀ x ∈ p1, x.block < W.heap.size := by obtain ⟨m, hm⟩ := k1; exact DataW.trod_lt m _ _ _ hm
  obtain ⟨fuel1, hf1⟩ := h1
  obtain ⟨xs1, rfl, hE1, hG1, hN1, hD1, hC1⟩ := open_rows PrFit prData 22 40 ⟨0, 0⟩ Try.underlying22 cellsPr elem_pr hf1
  simp only at hD1
  have sz1 := pairs_size hD1 hsz (j := 1) rfl rfl
  obtain ⟨n0, rfl, rfl, rfl, ws0⟩ := open_int Try.underlying3 (hval 0 3 v0 rfl rfl) h0
  have bs0 := bounds_i64 ws0
  clear hA0 hval0
  refine (graphLowest_walk n0 a1 cap1 xs1 W bs0.1 bs0.2 hE1 hN1 sz1).mono fun e W' ⟨he, bel⟩ => ?_
  subst he
  exact ⟨_, rfl, _, _, _, [], _, [], hW', trodAll_mk1 (shut_bool Try.underlying4 _), (trodAll_cons_mk (shut_int Try.underlying3 ws0) (trodAll_cons_mk (Below.trod laidOut (by kernel_rfl) (of_decide_eq_true (by kernel_rfl)) k1 bel lt1) trodAll_mk0)), rfl, bel.frame _, fun h => by cases h⟩

theorem graphLowest_holds : Rows.GraphLowestSaid :=
  OpenClaim.holds_of_wide 7 Try.f7 rfl rfl rfl rfl rfl rfl rfl ⟨rfl, rfl, rfl, rfl, rfl⟩ rfl rfl rfl rfl rfl (by kernel_rfl) Try.func7 (by kernel_rfl)
    (of_decide_eq_true (by kernel_rfl)) (by unfold Func.isWrapper; first | (rw [if_pos (by decide +kernel)]; kernel_rfl) | (rw [if_neg (by decide +kernel)]; exact ⟨rfl, rfl⟩))
    (fun os started H enc _ => graphLowest_lifted os started H enc)
end Go.Proofs.Ytgijcbipnjmhgaa
