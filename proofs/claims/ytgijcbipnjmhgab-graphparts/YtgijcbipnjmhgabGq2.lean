import Derived.Test.YtgijcbipnjmhgabGr5c
import Derived.Test.YtgijcbipnjmhgabGq0
namespace Go.Proofs.Ytgijcbipnjmhgab
set_option linter.unusedVariables false
set_option linter.unusedSimpArgs false

/-- the pairs both ways round -/
def both (ps : List Pr) : List Pr := ps ++ ps.map swapP
theorem both_mem {ps : List Pr} {a b : Int} : (⟨a, b⟩ : Pr) ∈ both ps ↔ (⟨a, b⟩ : Pr) ∈ ps ∨ (⟨b, a⟩ : Pr) ∈ ps := by
  unfold both
  rw [List.mem_append, List.mem_map]
  constructor
  · rintro (h | ⟨p, hp, he⟩)
    · exact .inl h
    · cases p
      simp only [swapP, Pr.mk.injEq] at he
      obtain ⟨rfl, rfl⟩ := he
      exact .inr hp
  · rintro (h | h)
    · exact .inl h
    · exact .inr ⟨_, h, rfl⟩
theorem both_symm {ps : List Pr} {a b : Int} (h : (⟨a, b⟩ : Pr) ∈ both ps) : (⟨b, a⟩ : Pr) ∈ both ps := both_mem.2 ((both_mem.1 h).symm)
theorem Rch.symm {ps : List Pr} {x y : Nat} (h : Rch (both ps) x y) : Rch (both ps) y x := by
  induction h with
  | refl => exact .refl _
  | step e _ ih => exact ih.trans (.step (both_symm e) (.refl _))
/-- the classes so far: M: what was met; L: the labels; all below x are met -/
structure Cs (ss : List Pr) (x : Nat) (M : Nat → Prop) (L : Nat → Option Int) : Prop where
  closed : ∀ y y' : Nat, M y → (⟨(y : Int), (y' : Int)⟩ : Pr) ∈ ss → M y'
  lab : ∀ y : Nat, M y → ∃ r : Nat, L y = some (r : Int) ∧ Rch ss y r ∧ ∀ z, Rch ss y z → r ≤ z
  all : ∀ y : Nat, y < x → M y
theorem Cs.fwd {ss : List Pr} {x : Nat} {M : Nat → Prop} {L : Nat → Option Int} (h : Cs ss x M L) {a b : Nat} (hr : Rch ss a b) (ha : M a) : M b := by
  induction hr with
  | refl => exact ha
  | step e _ ih => exact ih (h.closed _ _ ha e)
theorem Cs.step {ps : List Pr} {x : Nat} {M M' : Nat → Prop} {L L' : Nat → Option Int} (h : Cs (both ps) x M L) (hM : ∀ y, M y → M' y) (hx : M' x) (hc : ∀ y y' : Nat, M' y → ¬ M y → (⟨(y : Int), (y' : Int)⟩ : Pr) ∈ both ps → M' y')
    (hr : ∀ y, M' y → ¬ M y → Rch (both ps) x y) (h1 : ∀ y, M y → L' y = L y) (h2 : ∀ y, M' y → ¬ M y → L' y = some (x : Int)) : Cs (both ps) (x + 1) M' L' := by
  refine ⟨fun y y' hy he => ?_, fun y hy => ?_, fun y hy => ?_⟩
  · by_cases hm : M y
    · exact hM _ (h.closed y y' hm he)
    · exact hc y y' hy hm he
  · by_cases hm : M y
    · obtain ⟨r, h3, h4⟩ := h.lab y hm
      exact ⟨r, (h1 y hm).trans h3, h4⟩
    · refine ⟨x, h2 y hy hm, (hr y hy hm).symm, fun z hz => ?_⟩
      rcases Nat.lt_or_ge z x with hzx | hzx
      · exact absurd (h.fwd hz.symm (h.all z hzx)) hm
      · exact hzx
  · rcases Nat.lt_succ_iff_lt_or_eq.1 hy with h3 | h3
    · exact hM y (h.all y h3)
    · rw [h3]; exact hx
theorem Cs.skip {ps : List Pr} {x : Nat} {M : Nat → Prop} {L : Nat → Option Int} (h : Cs ps x M L) (hx : M x) : Cs ps (x + 1) M L :=
  ⟨h.closed, h.lab, fun y hy => by
    rcases Nat.lt_succ_iff_lt_or_eq.1 hy with h3 | h3
    · exact h.all y h3
    · rw [h3]; exact hx⟩
/-- the list of the classes -/
def CL (ss : List Pr) (n : Nat) (l : List Int) : Prop := l.length = n ∧ ∀ y : Nat, y < n → ∃ r : Nat, l[y]? = some (r : Int) ∧ Rch ss y r ∧ ∀ z, Rch ss y z → r ≤ z
theorem CL.one {ss : List Pr} {n : Nat} {l k : List Int} (h : CL ss n l) (g : CL ss n k) : l = k := by
  apply List.ext_getElem?
  intro y
  by_cases hy : y < n
  · obtain ⟨r, h1, h2, h3⟩ := h.2 y hy
    obtain ⟨s, g1, g2, g3⟩ := g.2 y hy
    have := h3 s g2
    have := g3 r h2
    rw [h1, g1, show r = s by omega]
  · rw [List.getElem?_eq_none (by rw [h.1]; omega), List.getElem?_eq_none (by rw [g.1]; omega)]
theorem Cs.fin {ss : List Pr} {n : Nat} {M : Nat → Prop} {l : List Int} (h : Cs ss n M (fun y => l[y]?)) (hl : l.length = n) : CL ss n l := ⟨hl, fun y hy => h.lab y (h.all y hy)⟩
theorem Cs.start (ss : List Pr) (L : Nat → Option Int) (M : Nat → Prop) (hM : ∀ y, ¬ M y) : Cs ss 0 M L := ⟨fun y _ h => absurd h (hM y), fun y h => absurd h (hM y), fun y h => absurd h (Nat.not_lt_zero _)⟩
/-- the labels of what was told -/
def lbl (f : Int) (l : List Int) (t : List Nat) : List Int := t.foldl (fun l y => l.set y f) l
theorem lbl_snoc (f : Int) (l : List Int) (t : List Nat) (x : Nat) : lbl f l (t ++ [x]) = (lbl f l t).set x f := by simp [lbl]
theorem lbl_len (f : Int) : ∀ (t : List Nat) (l : List Int), (lbl f l t).length = l.length
  | [], l => rfl
  | y :: t, l => by
    have := lbl_len f t (l.set y f)
    rw [List.length_set] at this
    exact this
theorem lbl_get (f : Int) : ∀ (t : List Nat) (l : List Int) (y : Nat), (lbl f l t)[y]? = if y ∈ t ∧ y < l.length then some f else l[y]?
  | [], l, y => by simp [lbl]
  | z :: t, l, y => by
    have := lbl_get f t (l.set z f) y
    rw [List.length_set] at this
    show (lbl f (l.set z f) t)[y]? = _
    rw [this, List.getElem?_set]
    by_cases h1 : y ∈ t <;> by_cases h2 : y < l.length <;> by_cases h3 : z = y <;> simp [h1, h2, h3]
    · intro h4; exact absurd h4.symm h3
end Go.Proofs.Ytgijcbipnjmhgab

namespace Go.Proofs.Ytgijcbipnjmhgab
open Go.ChangeShapes Go.WideShapes Go.ChangeAt Go.RowKit
set_option linter.unusedVariables false
set_option linter.unusedSimpArgs false

/-- has it a label? -/
def Mt (l : List Int) (y : Nat) : Prop := ∃ v, l[y]? = some v ∧ 0 ≤ v
/-- a search for a class: labels l0 before it, l now, a stack q; P: what is being looked at -/
structure Cf (ps : List Pr) (n i : Nat) (l0 : List Int) (P : Nat → Prop) (l : List Int) (q : List Nat) : Prop where
  len0 : l0.length = n
  sgn0 : ∀ (y : Nat) v, l0[y]? = some v → 0 ≤ v ∨ v = -1
  len : l.length = n
  sgn : ∀ (y : Nat) v, l[y]? = some v → 0 ≤ v ∨ v = -1
  old : ∀ (y : Nat) v, l0[y]? = some v → 0 ≤ v → l[y]? = some v
  new : ∀ (y : Nat) v, l[y]? = some v → 0 ≤ v → l0[y]? = some v ∨ (v = (i : Int) ∧ Rch (both ps) i y)
  qm : ∀ y ∈ q, Mt l y ∧ Rch (both ps) i y
  start : Mt l i
  closed : ∀ y y' : Nat, Mt l y → y ∉ q → ¬ P y → (⟨(y : Int), (y' : Int)⟩ : Pr) ∈ both ps → Mt l y'
theorem set_int {l : List Int} {x y : Nat} {f : Int} : (l.set x f)[y]? = if x = y ∧ y < l.length then some f else l[y]? := by
  rw [List.getElem?_set]
  by_cases h : x = y
  · subst h
    by_cases h2 : x < l.length
    · rw [if_pos rfl, if_pos h2, if_pos ⟨rfl, h2⟩]
    · rw [if_pos rfl, if_neg h2, if_neg (fun h => h2 h.2), List.getElem?_eq_none (by omega)]
  · rw [if_neg h, if_neg (fun h3 => h h3.1)]
theorem Mt.set {l : List Int} {x y i : Nat} (h : Mt l y) : Mt (l.set x (i : Int)) y := by
  obtain ⟨v, h1, h2⟩ := h
  rw [Mt, set_int]
  by_cases hc : x = y ∧ y < l.length
  · rw [if_pos hc]; exact ⟨_, rfl, by omega⟩
  · rw [if_neg hc]; exact ⟨v, h1, h2⟩
theorem Mt.here {l : List Int} {x i : Nat} (h : x < l.length) : Mt (l.set x (i : Int)) x := ⟨(i : Int), by rw [set_int, if_pos ⟨rfl, h⟩], by omega⟩
theorem Mt.inv {l : List Int} {x y i : Nat} (h : Mt (l.set x (i : Int)) y) : Mt l y ∨ y = x := by
  obtain ⟨v, h1, h2⟩ := h
  rw [set_int] at h1
  by_cases hc : x = y ∧ y < l.length
  · exact .inr hc.1.symm
  · rw [if_neg hc] at h1; exact .inl ⟨v, h1, h2⟩
theorem Cf.first {ps : List Pr} {n i : Nat} {l0 : List Int} (hC : Cs (both ps) i (Mt l0) (fun y => l0[y]?)) (h0 : l0.length = n) (hs : ∀ (y : Nat) v, l0[y]? = some v → 0 ≤ v ∨ v = -1) (hi : l0[i]? = some (-1)) : Cf ps n i l0 (fun _ => False) (l0.set i (i : Int)) [i] := by
  have hil := (List.getElem?_eq_some_iff.1 hi).1
  refine ⟨h0, hs, by rw [List.length_set]; exact h0, fun y v hv => ?_, fun y v hv hp => ?_, fun y v hv hp => ?_, fun y hy => ?_, Mt.here hil, fun y y' hy hq _ he => ?_⟩
  · rw [set_int] at hv
    split at hv
    · cases hv; exact .inl (by omega)
    · exact hs y v hv
  · rw [set_int, if_neg (fun hc => by rw [← hc.1, hi] at hv; cases hv; omega)]
    exact hv
  · rw [set_int] at hv
    by_cases hc : i = y ∧ y < l0.length
    · rw [if_pos hc] at hv; cases hv; exact .inr ⟨rfl, by rw [← hc.1]; exact .refl _⟩
    · rw [if_neg hc] at hv; exact .inl hv
  · rw [List.mem_singleton] at hy; subst hy; exact ⟨Mt.here hil, .refl _⟩
  · rcases hy.inv with h1 | h1
    · exact (hC.closed y y' h1 he).set
    · exact absurd h1 (by simpa using hq)
theorem Cf.pop {ps : List Pr} {n i x : Nat} {l0 l : List Int} {q : List Nat} (h : Cf ps n i l0 (fun _ => False) l (q ++ [x])) : Cf ps n i l0 (fun y => y = x) l q :=
  ⟨h.len0, h.sgn0, h.len, h.sgn, h.old, h.new, fun y hy => h.qm y (List.mem_append_left _ hy), h.start, fun y y' hy hq hP he => h.closed y y' hy (fun hc => by rcases List.mem_append.1 hc with hc | hc; exact hq hc; exact hP (by simpa using hc)) id he⟩
theorem Cf.push {ps : List Pr} {n i x y : Nat} {l0 l : List Int} {q : List Nat} (h : Cf ps n i l0 (fun y => y = x) l q) (hx : Rch (both ps) i x) (hy : l[y]? = some (-1)) (he : (⟨(x : Int), (y : Int)⟩ : Pr) ∈ both ps) : Cf ps n i l0 (fun y => y = x) (l.set y (i : Int)) (q ++ [y]) := by
  have hyl := (List.getElem?_eq_some_iff.1 hy).1
  have hry : Rch (both ps) i y := hx.trans (.step he (.refl _))
  refine ⟨h.len0, h.sgn0, by rw [List.length_set]; exact h.len, fun z v hv => ?_, fun z v hv hp => ?_, fun z v hv hp => ?_, fun z hz => ?_, h.start.set, fun z z' hz hq hP hzz => ?_⟩
  · rw [set_int] at hv
    split at hv
    · cases hv; exact .inl (by omega)
    · exact h.sgn z v hv
  · have h1 := h.old z v hv hp
    rw [set_int, if_neg (fun hc => by rw [← hc.1, hy] at h1; cases h1; omega)]
    exact h1
  · rw [set_int] at hv
    by_cases hc : y = z ∧ z < l.length
    · rw [if_pos hc] at hv; cases hv; exact .inr ⟨rfl, by rw [← hc.1]; exact hry⟩
    · rw [if_neg hc] at hv; exact h.new z v hv hp
  · rcases List.mem_append.1 hz with hz | hz
    · exact ⟨(h.qm z hz).1.set, (h.qm z hz).2⟩
    · rw [List.mem_singleton] at hz; subst hz; exact ⟨Mt.here hyl, hry⟩
  · rw [List.mem_append, not_or, List.mem_singleton] at hq
    rcases hz.inv with hz | hz
    · exact (h.closed z z' hz hq.1 hP hzz).set
    · exact absurd hz hq.2
theorem Cf.done {ps : List Pr} {n i x : Nat} {l0 l : List Int} {q : List Nat} (h : Cf ps n i l0 (fun y => y = x) l q) (hd : ∀ y' : Nat, (⟨(x : Int), (y' : Int)⟩ : Pr) ∈ both ps → Mt l y') : Cf ps n i l0 (fun _ => False) l q :=
  ⟨h.len0, h.sgn0, h.len, h.sgn, h.old, h.new, h.qm, h.start, fun y y' hy hq _ he => by
    by_cases e : y = x
    · subst e; exact hd y' he
    · exact h.closed y y' hy hq e he⟩
theorem Cf.fin {ps : List Pr} {n i : Nat} {l0 l : List Int} (h : Cf ps n i l0 (fun _ => False) l []) (hC : Cs (both ps) i (Mt l0) (fun y => l0[y]?)) : Cs (both ps) (i + 1) (Mt l) (fun y => l[y]?) := by
  refine hC.step (fun y ⟨v, h1, h2⟩ => ⟨v, h.old y v h1 h2, h2⟩) h.start (fun y y' h1 _ he => h.closed y y' h1 (by simp) id he) (fun y ⟨v, h1, h2⟩ h3 => ?_) (fun y ⟨v, h1, h2⟩ => ?_) (fun y ⟨v, h1, h2⟩ h3 => ?_)
  · rcases h.new y v h1 h2 with h4 | h4
    · exact absurd ⟨v, h4, h2⟩ h3
    · exact h4.2
  · show l[y]? = l0[y]?
    rw [h1, h.old y v h1 h2]
  · show l[y]? = _
    rcases h.new y v h1 h2 with h4 | h4
    · exact absurd ⟨v, h4, h2⟩ h3
    · rw [h1, h4.1]
/-- the marks of labels -/
def mks (l : List Int) : List Bool := l.map fun v => decide (0 ≤ v)
theorem mks_set {l : List Int} {y i : Nat} (hy : l[y]? = some (-1)) : unm (mks (l.set y (i : Int))) + 1 = unm (mks l) := by
  have h1 : mks (l.set y (i : Int)) = (mks l).set y true := by
    unfold mks
    rw [List.map_set, decide_eq_true (show (0 : Int) ≤ (i : Int) by omega)]
  rw [h1]
  refine unm_set _ _ ?_
  unfold mks
  rw [List.getElem?_map, hy]
  rfl
theorem mks_le (l : List Int) : unm (mks l) ≤ l.length := by
  have h1 := List.length_filter_le (fun b => !b) (mks l)
  unfold unm
  unfold mks at h1 ⊢
  rw [List.length_map] at h1
  exact h1
/-- the last one is taken off -/
theorem Qu.last {B : Nat} {w : World} {v : Value} {x : Nat} {xs : List Nat} (h : Qu B w v (xs ++ [x])) : ∃ g off cap, v = .slice (some ⟨g, off, none⟩) (xs.length + 1) cap ∧ xs.length + 1 ≤ cap ∧ w.cell? ⟨g, off + xs.length, none⟩ = some (.int .i64 (x : Int)) ∧ Qu B w (.slice (some ⟨g, off, none⟩) xs.length cap) xs := by
  obtain ⟨g, off, cap, cur, h1, h2, h3, h4, h5, h6⟩ := h
  simp only [List.length_append, List.length_cons, List.length_nil] at h1 h4
  refine ⟨g, off, cap, h1, h4, ?_, ⟨g, off, cap, cur, rfl, h2, h3, by omega, h5, fun j y hj => h6 j y (by rw [List.getElem?_append_left (List.getElem?_eq_some_iff.1 hj).1]; exact hj)⟩⟩
  rw [(cell_cur h3).1]
  exact h6 xs.length x (by rw [List.getElem?_append_right (Nat.le_refl _), Nat.sub_self]; rfl)
theorem split_last (q : List Nat) : q = [] ∨ ∃ p x, q = p ++ [x] := by
  rcases q.eq_nil_or_concat with h | ⟨p, x, h⟩
  · exact .inl h
  · exact .inr ⟨p, x, by rw [h, List.concat_eq_append]⟩
end Go.Proofs.Ytgijcbipnjmhgab

namespace Go.Proofs.Ytgijcbipnjmhgab
open Go.ChangeShapes Go.WideShapes Go.ChangeAt Go.RowKit
set_option linter.unusedVariables false
set_option linter.unusedSimpArgs false

set_option maxRecDepth 1000000 in
set_option maxHeartbeats 4000000 in
theorem rbad_any (n : Int) (a : Option Addr) (cap : Nat) (ps : List Pr) (w : World) (hL : LiesA w a ps) (hm : ps.length ≤ 17592186044416) : Calls Try.prog 26 #[.int .i64 n, .slice a ps.length cap] w fun e w' => e = .returned (.bool (!things n ps)) ∧ w' = w := by
  have HL : Hid (LiesA w a ps) := hL
  clear hL
  by_cases h0 : n < 0
  · go_enter Try.func26, Try.ntmps26
    go_wp2
    go_ret
    exact ⟨by rw [things, decide_eq_false (show ¬ 0 ≤ n by omega)]; rfl, rfl⟩
  · by_cases h1 : 131072 < n
    · go_enter Try.func26, Try.ntmps26
      go_wp2
      go_ret
      exact ⟨by rw [things, decide_eq_false (show ¬ n ≤ 131072 by omega)]; simp, rfl⟩
    · have HT : Hid (things n ps = ps.all (thp n)) := by unfold Hid things; rw [decide_eq_true (show 0 ≤ n by omega), decide_eq_true (show n ≤ 131072 by omega)]; rfl
      go_enter Try.func26, Try.ntmps26
      go_wp2
      go_loopg [5] ps.length (fun gk si wr => ∃ (k : Nat), gk = ps.length - k ∧ si = .int .i64 (k : Int) ∧ k ≤ ps.length ∧ (ps.take k).all (thp n) = true ∧ wr = w)
      case atStart => exact ⟨0, rfl, rfl, Nat.zero_le _, rfl, rfl⟩
      case round =>
        obtain ⟨k, hgk, rfl, hk, hall, hw⟩ := hrel
        have hw2 := hw.symm
        clear hw
        subst hw2
        have HALL : Hid ((ps.take k).all (thp n) = true) := hall
        clear hall
        by_cases hkp : k < ps.length
        · have hkp' : (k : Int) < (ps.length : Int) := by omega
          obtain ⟨p, hp⟩ : ∃ p, ps[k]? = some p := ⟨_, List.getElem?_eq_getElem hkp⟩
          obtain ⟨b, o, ha, hLi⟩ : ∃ b o, a = some ⟨b, o, none⟩ ∧ Lies w b o ps := by
            rcases HL.out with h | h
            · rw [h] at hkp; exact absurd hkp (Nat.not_lt_zero _)
            · exact h
          subst ha
          obtain ⟨pa, pb⟩ := p
          obtain ⟨d0, d1⟩ := hLi.pr hp
          simp only at d0 d1
          have HP : Hid (ps[k]? = some ⟨pa, pb⟩) := hp
          have HBAD : Hid (thp n ⟨pa, pb⟩ = false → things n ps = false) := fun hbad => by
            rw [HT.out, List.all_eq_false]
            exact ⟨_, List.mem_of_getElem? HP.out, by simp [hbad]⟩
          clear hLi hp
          by_cases ha0 : pa < 0
          · go_wp2
            go_ret
            exact ⟨by rw [HBAD.out (by unfold thp thg; rw [decide_eq_false (show ¬ 0 ≤ pa by omega)]; rfl)]; rfl, rfl⟩
          · by_cases ha1 : n ≤ pa
            · go_wp2
              go_ret
              exact ⟨by rw [HBAD.out (by unfold thp thg; rw [decide_eq_false (show ¬ pa < n by omega)]; simp)]; rfl, rfl⟩
            · by_cases hb0 : pb < 0
              · go_wp2
                go_ret
                exact ⟨by rw [HBAD.out (by unfold thp thg; rw [decide_eq_false (show ¬ 0 ≤ pb by omega)]; simp)]; rfl, rfl⟩
              · by_cases hb1 : n ≤ pb
                · go_wp2
                  go_ret
                  exact ⟨by rw [HBAD.out (by unfold thp thg; rw [decide_eq_false (show ¬ pb < n by omega)]; simp)]; rfl, rfl⟩
                · have HG : Hid (thp n ⟨pa, pb⟩ = true) := by unfold Hid thp thg; simp; omega
                  go_wp2
                  go_roundg (ps.length - (k + 1))
                  case measure => omega
                  case rel =>
                    refine ⟨k + 1, rfl, by go_num, by omega, ?_, rfl⟩
                    rw [List.take_add_one, HP.out, List.all_append, HALL.out]
                    simp [HG.out]
        · have hkp' : ¬ (k : Int) < (ps.length : Int) := by omega
          go_wp2
          go_ret
          have h9 := HALL.out
          rw [List.take_of_length_le (by omega)] at h9
          exact ⟨by rw [HT.out, h9]; rfl, rfl⟩
end Go.Proofs.Ytgijcbipnjmhgab
