import Derived.Test.YtmnbakalcpanlaaGreatDoorLm3
import Derived.Test.YtmnbakalcpanlaaGreatDoorTsl
namespace Go.Proofs.YtmnbakalcpanlaaGreatDoor
open Go.ChangeShapes Go.WideShapes Go.ChangeAt Go.RowKit Go.Maps Go.WideMaps
set_option linter.unusedVariables false
set_option linter.unusedSimpArgs false

/-- a node of the tree of marks: its byte, its kind, its kids -/
structure Tn where
  f : Nat
  k : Nat
  ch : List Nat
def tz : Tn := ⟨0, 0, []⟩
/-- the kid of a byte -/
def onT (T : List Tn) (i c : Nat) : Option Nat := (T.getD i tz).ch.find? fun j => (T.getD j tz).f == c
def newT (T : List Tn) (i c : Nat) : List Tn := T.set i ⟨(T.getD i tz).f, (T.getD i tz).k, (T.getD i tz).ch ++ [T.length]⟩ ++ [⟨c, 0, []⟩]
def growT (T : List Tn) (i c : Nat) : List Tn × Nat := match onT T i c with
  | some j => (T, j)
  | none => (newT T i c, T.length)
def insT (T : List Tn) (i : Nat) : List UInt8 → List Tn × Nat
  | [] => (T, i)
  | c :: r => insT (growT T i c.toNat).1 (growT T i c.toNat).2 r
def setK (T : List Tn) (i k : Nat) : List Tn := T.set i ⟨(T.getD i tz).f, k, (T.getD i tz).ch⟩
def mkT : Nat → List Tn
  | 0 => [tz]
  | n + 1 => setK (insT (mkT n) 0 (mks.getD n [])).1 (insT (mkT n) 0 (mks.getD n [])).2 (32 + n)
theorem getD_of {T : List Tn} {i : Nat} {t : Tn} (h : T[i]? = some t) : T.getD i tz = t := by rw [List.getD_eq_getElem?_getD, h]; rfl
theorem newT_len (T : List Tn) (i c : Nat) : (newT T i c).length = T.length + 1 := by simp [newT]
theorem newT_get {T : List Tn} {i c j : Nat} {t t' : Tn} (hi : T[i]? = some t) (h : (newT T i c)[j]? = some t') : (j = i ∧ t' = ⟨t.f, t.k, t.ch ++ [T.length]⟩) ∨ (j ≠ i ∧ T[j]? = some t') ∨ (j = T.length ∧ t' = ⟨c, 0, []⟩) := by
  have hil := (List.getElem?_eq_some_iff.1 hi).1
  unfold newT at h
  rw [getD_of hi] at h
  by_cases hj : j < T.length
  · rw [List.getElem?_append_left (by simpa using hj)] at h
    by_cases he : j = i
    · subst he
      rw [List.getElem?_set_self hil] at h
      exact .inl ⟨rfl, (Option.some.inj h).symm⟩
    · rw [List.getElem?_set_ne (fun e => he e.symm)] at h
      exact .inr (.inl ⟨he, h⟩)
  · rw [List.getElem?_append_right (by simpa using hj)] at h
    simp only [List.length_set] at h
    have h0 : j - T.length = 0 := by
      have := (List.getElem?_eq_some_iff.1 h).1
      simp at this
      omega
    rw [h0] at h
    exact .inr (.inr ⟨by omega, (Option.some.inj h).symm⟩)
theorem setK_get {T : List Tn} {i k j : Nat} {t t' : Tn} (hi : T[i]? = some t) (h : (setK T i k)[j]? = some t') : (j = i ∧ t' = ⟨t.f, k, t.ch⟩) ∨ (j ≠ i ∧ T[j]? = some t') := by
  have hil := (List.getElem?_eq_some_iff.1 hi).1
  unfold setK at h
  rw [getD_of hi] at h
  by_cases he : j = i
  · subst he
    rw [List.getElem?_set_self hil] at h
    exact .inl ⟨rfl, (Option.some.inj h).symm⟩
  · rw [List.getElem?_set_ne (fun e => he e.symm)] at h
    exact .inr ⟨he, h⟩
/-- a pointer to a node -/
def ptrT (A : Nat → Nat) (j : Nat) : Value := .pointer (some ⟨A j, 0, none⟩)
def ptrO (A : Nat → Nat) : Option Nat → Value
  | some j => ptrT A j
  | none => .pointer none
/-- a tree stands: its nodes' boxes and the rows of their kids, of the call's own -/
structure Tre (w : World) (B : Nat) (T : List Tn) (A : Nat → Nat) (V : Nat → Value) : Prop where
  box : ∀ (i : Nat) (t : Tn), T[i]? = some t → B ≤ A i ∧ Bx w (A i) #[.int .u8 (t.f : Int), .int .u8 (t.k : Int), V i] 114
  row : ∀ (i : Nat) (t : Tn), T[i]? = some t → w.ownsRow B 75 1 (V i) t.ch.length (t.ch.map (ptrT A))
  one : ∀ i j, i < T.length → j < T.length → A i = A j → i = j
  apart : ∀ i j, i < T.length → j < T.length → i ≠ j → ∀ g, (V i).ownBlock = some g → (V j).ownBlock ≠ some g
  kid : ∀ (i : Nat) (t : Tn), T[i]? = some t → ∀ j ∈ t.ch, j < T.length
  lim : ∀ (i : Nat) (t : Tn), T[i]? = some t → t.f < 256 ∧ t.k < 256 ∧ t.ch.length ≤ T.length
theorem Tre.below {w w' : World} {B : Nat} {T : List Tn} {A : Nat → Nat} {V : Nat → Value} (h : Tre w B T A V) (hb : Below w.heap.size w w') : Tre w' B T A V :=
  ⟨fun i t hi => ⟨(h.box i t hi).1, (h.box i t hi).2.below hb (h.box i t hi).2.lt⟩, fun i t hi => ownsRow_below (h.row i t hi) hb (Nat.le_refl _), h.one, h.apart, h.kid, h.lim⟩
/-- a box is no row -/
theorem Tre.ne {w : World} {B : Nat} {T : List Tn} {A : Nat → Nat} {V : Nat → Value} (h : Tre w B T A V) {i : Nat} {t : Tn} (hi : T[i]? = some t) {C n : Nat} {v : Value} {xs : List Value} (hv : w.ownsRow C 75 1 v n xs) : v.ownBlock ≠ some (A i) := by
  intro e
  obtain ⟨c, fz, hh⟩ := row_kindR hv _ e
  have := (show w.heap[A i]? = some (.cells _ _ (0, 0)) from (h.box i t hi).2).symm.trans hh
  cases this
def upA (A : Nat → Nat) (n g : Nat) : Nat → Nat := fun j => if j = n then g else A j
def upV (V : Nat → Value) (i n : Nat) (v : Value) : Nat → Value := fun j => if j = i then v else if j = n then .slice none 0 0 else V j
/-- a node more -/
theorem Tre.grow {w w3 : World} {B c i : Nat} {T : List Tn} {A : Nat → Nat} {V : Nat → Value} {t : Tn} {v' : Value} (h : Tre w B T A V) (hB : B ≤ w.heap.size) (hi : T[i]? = some t) (hc : c < 256)
    (ho : w3.ownsRow B 75 1 v' (t.ch.length + 1) (t.ch.map (ptrT A) ++ [.pointer (some ⟨w.heap.size, 0, none⟩)]))
    (hg : ((w.alloc (.cells #[.int .u8 (c : Int), .int .u8 0, .slice none 0 0] 114)).alloc (.cells #[.pointer (some ⟨w.heap.size, 0, none⟩)] 75)).grownBy w3 (V i).ownBlock)
    (hv : v'.ownBlock = (V i).ownBlock ∨ v'.ownBlock = some (w.heap.size + 2)) :
    Tre (w3.setCell ⟨A i, 2, none⟩ v') B (newT T i c) (upA A T.length w.heap.size) (upV V i T.length v') ∧ Below B w (w3.setCell ⟨A i, 2, none⟩ v') := by
  have hil := (List.getElem?_eq_some_iff.1 hi).1
  obtain ⟨w2, e2⟩ : ∃ w2, (w.alloc (.cells #[.int .u8 (c : Int), .int .u8 0, .slice none 0 0] 114)).alloc (.cells #[.pointer (some ⟨w.heap.size, 0, none⟩)] 75) = w2 := ⟨_, rfl⟩
  have hs2 : w2.heap.size = w.heap.size + 2 := by rw [← e2]; simp
  have hb2 : Below w.heap.size w w2 := by rw [← e2]; exact ((Below.refl _ w).alloc (Nat.le_refl _) _).alloc (by simp) _
  have hnew : Bx w2 w.heap.size #[.int .u8 (c : Int), .int .u8 0, .slice none 0 0] 114 := by rw [← e2]; exact (Bx.new w _ _).alloc _
  have h2 := h.below hb2
  rw [e2] at hg
  clear e2
  have hAlt : ∀ (j : Nat) (tj : Tn), T[j]? = some tj → A j < w.heap.size := fun j tj hj => (h.box j tj hj).2.lt
  have hVlt : ∀ (j : Nat) (tj : Tn), T[j]? = some tj → ∀ g, (V j).ownBlock = some g → B ≤ g ∧ g < w.heap.size := fun j tj hj g e => (h.row j tj hj).lt g e
  have hbox3 : ∀ (j : Nat) (tj : Tn), T[j]? = some tj → Bx w3 (A j) #[.int .u8 (tj.f : Int), .int .u8 (tj.k : Int), V j] 114 := fun j tj hj =>
    (hg.block (A j) (by have := hAlt j tj hj; omega) (fun e => h2.ne hj (h2.row i t hi) e.symm)).trans (h2.box j tj hj).2
  have hnew3 : Bx w3 w.heap.size #[.int .u8 (c : Int), .int .u8 0, .slice none 0 0] 114 :=
    (hg.block _ (by omega) (fun e => by have := hVlt i t hi _ e.symm; omega)).trans hnew
  have hrow3 : ∀ (j : Nat) (tj : Tn), T[j]? = some tj → j ≠ i → w3.ownsRow B 75 1 (V j) tj.ch.length (tj.ch.map (ptrT A)) := fun j tj hj hne => by
    refine (h2.row j tj hj).kept hg ?_
    cases hO : (V j).ownBlock with
    | none => exact .inl rfl
    | some g => exact .inr (fun e => h.apart j i (List.getElem?_eq_some_iff.1 hj).1 hil hne g hO e.symm)
  have hne3 : ∀ {C n : Nat} {v : Value} {xs : List Value}, w3.ownsRow C 75 1 v n xs → v.ownBlock ≠ some (A i) := by
    intro C n v xs hv e
    obtain ⟨c, fz, hh⟩ := row_kindR hv _ e
    have := (show w3.heap[A i]? = some (.cells _ _ (0, 0)) from hbox3 i t hi).symm.trans hh
    cases this
  have hmap : ∀ l : List Nat, (∀ j ∈ l, j < T.length) → l.map (ptrT (upA A T.length w.heap.size)) = l.map (ptrT A) := fun l hl => List.map_congr_left fun j hj => by
    unfold ptrT upA
    rw [if_neg (by have := hl j hj; omega)]
  refine ⟨⟨?_, ?_, ?_, ?_, ?_, ?_⟩, ?_⟩
  · intro j tj hj
    rcases newT_get hi hj with ⟨rfl, rfl⟩ | ⟨hne, hj'⟩ | ⟨rfl, rfl⟩
    · have e1 : upA A T.length w.heap.size j = A j := by unfold upA; rw [if_neg (by omega)]
      have e2 : upV V j T.length v' j = v' := by unfold upV; rw [if_pos rfl]
      rw [e1, e2]
      refine ⟨(h.box j t hi).1, ?_⟩
      have := (hbox3 j t hi).set 2 v'
      simpa using this
    · have hjl := (List.getElem?_eq_some_iff.1 hj').1
      have e1 : upA A T.length w.heap.size j = A j := by unfold upA; rw [if_neg (by omega)]
      have e2 : upV V i T.length v' j = V j := by unfold upV; rw [if_neg hne, if_neg (by omega)]
      rw [e1, e2]
      exact ⟨(h.box j tj hj').1, (hbox3 j tj hj').other ⟨A i, 2, none⟩ (fun e => hne (h.one j i hjl hil e)) v'⟩
    · have e1 : upA A T.length w.heap.size T.length = w.heap.size := by unfold upA; rw [if_pos rfl]
      have e2 : upV V i T.length v' T.length = .slice none 0 0 := by unfold upV; rw [if_neg (by omega), if_pos rfl]
      rw [e1, e2]
      refine ⟨hB, ?_⟩
      have := hnew3.other ⟨A i, 2, none⟩ (by have := hAlt i t hi; show w.heap.size ≠ A i; omega) v'
      simpa using this
  · intro j tj hj
    rcases newT_get hi hj with ⟨rfl, rfl⟩ | ⟨hne, hj'⟩ | ⟨rfl, rfl⟩
    · have e2 : upV V j T.length v' j = v' := by unfold upV; rw [if_pos rfl]
      rw [e2]
      have e3 : (t.ch ++ [T.length]).map (ptrT (upA A T.length w.heap.size)) = t.ch.map (ptrT A) ++ [.pointer (some ⟨w.heap.size, 0, none⟩)] := by
        rw [List.map_append, hmap t.ch (h.kid j t hi)]
        simp [ptrT, upA]
      rw [e3, List.length_append]
      exact ownsRow_setCell_other ho (a := ⟨A j, 2, none⟩) (hne3 ho) v'
    · have hjl := (List.getElem?_eq_some_iff.1 hj').1
      have e2 : upV V i T.length v' j = V j := by unfold upV; rw [if_neg hne, if_neg (by omega)]
      rw [e2, hmap tj.ch (h.kid j tj hj')]
      exact ownsRow_setCell_other (hrow3 j tj hj' hne) (a := ⟨A i, 2, none⟩) (hne3 (hrow3 j tj hj' hne)) v'
    · have e2 : upV V i T.length v' T.length = .slice none 0 0 := by unfold upV; rw [if_neg (by omega), if_pos rfl]
      rw [e2]
      exact World.ownsRow_nil _ _ _ _
  · intro a b ha hb hab
    rw [newT_len] at ha hb
    have big : ∀ j, j < T.length → A j < w.heap.size := fun j hj => hAlt j _ (List.getElem?_eq_getElem hj)
    unfold upA at hab
    by_cases h1 : a = T.length <;> by_cases h2 : b = T.length
    · omega
    · rw [if_pos h1, if_neg h2] at hab; have := big b (by omega); omega
    · rw [if_neg h1, if_pos h2] at hab; have := big a (by omega); omega
    · rw [if_neg h1, if_neg h2] at hab; exact h.one a b (by omega) (by omega) hab
  · intro a b ha hb hne g hag hbg
    rw [newT_len] at ha hb
    have big : ∀ j, j < T.length → ∀ g, (V j).ownBlock = some g → g < w.heap.size := fun j hj g e => (hVlt j _ (List.getElem?_eq_getElem hj) g e).2
    have cs : ∀ a b, a < T.length + 1 → b < T.length + 1 → a ≠ b → a = i → (upV V i T.length v' b).ownBlock = some g → v'.ownBlock ≠ some g := by
      intro a b ha hb hne hai hbg hag
      unfold upV at hbg
      rw [if_neg (by omega)] at hbg
      by_cases h2 : b = T.length
      · rw [if_pos h2] at hbg; cases hbg
      · rw [if_neg h2] at hbg
        rcases hv with e | e
        · exact h.apart i b hil (by omega) (by omega) g (e.symm.trans hag) hbg
        · have := big b (by omega) g hbg
          rw [e] at hag
          cases hag
          omega
    by_cases h1 : a = i
    · have e : upV V i T.length v' a = v' := by unfold upV; rw [if_pos h1]
      rw [e] at hag
      exact cs a b ha hb hne h1 hbg hag
    · by_cases h2 : b = i
      · have e : upV V i T.length v' b = v' := by unfold upV; rw [if_pos h2]
        rw [e] at hbg
        exact cs b a hb ha (fun e => hne e.symm) h2 hag hbg
      · unfold upV at hag hbg
        rw [if_neg h1] at hag
        rw [if_neg h2] at hbg
        by_cases h3 : a = T.length
        · rw [if_pos h3] at hag; cases hag
        · by_cases h4 : b = T.length
          · rw [if_pos h4] at hbg; cases hbg
          · rw [if_neg h3] at hag
            rw [if_neg h4] at hbg
            exact h.apart a b (by omega) (by omega) hne g hag hbg
  · intro j tj hj
    rw [newT_len]
    rcases newT_get hi hj with ⟨rfl, rfl⟩ | ⟨hne, hj'⟩ | ⟨rfl, rfl⟩
    · intro x hx
      rcases List.mem_append.1 hx with hx | hx
      · have := h.kid j t hi x hx; omega
      · simp at hx; omega
    · intro x hx; have := h.kid j tj hj' x hx; omega
    · intro x hx; cases hx
  · intro j tj hj
    rw [newT_len]
    rcases newT_get hi hj with ⟨rfl, rfl⟩ | ⟨hne, hj'⟩ | ⟨rfl, rfl⟩
    · obtain ⟨a, b, c⟩ := h.lim j t hi
      exact ⟨a, b, by simp; omega⟩
    · obtain ⟨a, b, c⟩ := h.lim j tj hj'
      exact ⟨a, b, by omega⟩
    · exact ⟨hc, by simp, by simp⟩
  · refine Below.setCell (p := ⟨A i, 2, none⟩) ?_ (h.box i t hi).1 v'
    exact (hb2.mono hB).grown hg (by omega) (fun j hj => (hVlt i t hi j hj).1)
/-- a kind is written -/
theorem Tre.kind {w : World} {B k i : Nat} {T : List Tn} {A : Nat → Nat} {V : Nat → Value} {t : Tn} (h : Tre w B T A V) (hi : T[i]? = some t) (hk : k < 256) :
    Tre (w.setCell ⟨A i, 1, none⟩ (.int .u8 (k : Int))) B (setK T i k) A V ∧ Below B w (w.setCell ⟨A i, 1, none⟩ (.int .u8 (k : Int))) := by
  have hil := (List.getElem?_eq_some_iff.1 hi).1
  have hlen : (setK T i k).length = T.length := by simp [setK]
  refine ⟨⟨?_, ?_, ?_, ?_, ?_, ?_⟩, (Below.refl _ _).setCell (p := ⟨A i, 1, none⟩) (h.box i t hi).1 _⟩
  · intro j tj hj
    rcases setK_get hi hj with ⟨rfl, rfl⟩ | ⟨hne, hj'⟩
    · refine ⟨(h.box j t hi).1, ?_⟩
      have := (h.box j t hi).2.set 1 (.int .u8 (k : Int))
      simpa using this
    · have hjl := (List.getElem?_eq_some_iff.1 hj').1
      exact ⟨(h.box j tj hj').1, (h.box j tj hj').2.other ⟨A i, 1, none⟩ (fun e => hne (h.one j i hjl hil e)) _⟩
  · intro j tj hj
    rcases setK_get hi hj with ⟨rfl, rfl⟩ | ⟨hne, hj'⟩
    · exact ownsRow_setCell_other (h.row j t hi) (a := ⟨A j, 1, none⟩) (h.ne hi (h.row j t hi)) _
    · exact ownsRow_setCell_other (h.row j tj hj') (a := ⟨A i, 1, none⟩) (h.ne hi (h.row j tj hj')) _
  · intro a b ha hb; rw [hlen] at ha hb; exact h.one a b ha hb
  · intro a b ha hb; rw [hlen] at ha hb; exact h.apart a b ha hb
  · intro j tj hj
    rw [hlen]
    rcases setK_get hi hj with ⟨rfl, rfl⟩ | ⟨hne, hj'⟩
    · exact h.kid j t hi
    · exact h.kid j tj hj'
  · intro j tj hj
    rw [hlen]
    rcases setK_get hi hj with ⟨rfl, rfl⟩ | ⟨hne, hj'⟩
    · obtain ⟨a, b, c⟩ := h.lim j t hi
      exact ⟨a, hk, c⟩
    · exact h.lim j tj hj'
end Go.Proofs.YtmnbakalcpanlaaGreatDoor
