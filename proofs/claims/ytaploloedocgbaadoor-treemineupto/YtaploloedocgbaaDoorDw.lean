import Derived.Test.YtaploloedocgbaaDoorRec
namespace Go.Proofs.YtaploloedocgbaaDoor
open Go.ChangeShapes Go.WideShapes Go.ChangeAt Go.RowKit
set_option linter.unusedVariables false

theorem infoInt : (Tryd.prog.info? 3).map (fun i => (i.zero, i.size, i.bytes)) = some (some (.int .i64 0), 1, 8) := by kernel_rfl
end Go.Proofs.YtaploloedocgbaaDoor

namespace Go.Proofs.YtaploloedocgbaaDoor
open Go.ChangeShapes Go.WideShapes Go.ChangeAt Go.RowKit
set_option linter.unusedVariables false

theorem infoTk : (Tryd.prog.info? 60).map (fun i => (i.zero, i.size, i.bytes)) = some (some (.agg #[.int .u8 0, .int .i64 0, .int .i64 0]), 3, 24) := by kernel_rfl
theorem infoNd : (Tryd.prog.info? 57).map (fun i => (i.zero, i.size, i.bytes)) = some (some (.agg #[.int .u8 0, .int .i64 0, .int .i64 0, .int .i64 0]), 4, 32) := by kernel_rfl
end Go.Proofs.YtaploloedocgbaaDoor

namespace Go.Proofs.YtaploloedocgbaaDoor
open Go.ChangeShapes Go.WideShapes Go.ChangeAt Go.RowKit
set_option linter.unusedVariables false

/-- A region that draws its order, over a class of worlds: every operation yields the same in each of them and stays among them (a callee may make memory of its own). -/
theorem region_class {P : Program} {X : Type} (F : X → World) {id : Nat} {Q : Exit → Act → World → Prop} {a : Act} {w : World} {l : List Oper} (hm : P.follows .mixedOrders = true) (hB : Region.lexB .any l.toArray = true)
    (hx : ∃ x, F x = w.drew) (h : wpQuiet P l.toArray (fun w' => ∃ n, w' = F n) (fun a' => ∀ w', (∃ n, w' = F n) → Q .normal a' w') l a) : (Code.region id l.toArray true).wp P Q a w :=
  wp_region_quiet (C := fun w' => ∃ n, w' = F n) hm hB (by obtain ⟨x, hx⟩ := hx; exact ⟨x, hx.symm⟩) (by simpa using h)

/-- the worlds of which D holds, as a row of worlds -/
theorem class_of (D : World → Prop) {w : World} (hw : D w) : ∃ (X : Type) (F : X → World), Nonempty X ∧ (∀ x, D (F x)) ∧ ∀ v, D v → ∃ x, F x = v :=
  ⟨{v : World // D v}, Subtype.val, ⟨⟨w, hw⟩⟩, fun x => x.2, fun v h => ⟨⟨v, h⟩, rfl⟩⟩
end Go.Proofs.YtaploloedocgbaaDoor

namespace Go.Proofs.YtaploloedocgbaaDoor
open Go.ChangeShapes Go.WideShapes Go.ChangeAt Go.RowKit
set_option linter.unusedVariables false

set_option maxHeartbeats 400000 in
theorem same_ints (a1 a2 : Option Addr) (c1 c2 : Nat) (xs : List Int) (w : World) (h1 : LiesA w a1 xs) (h2 : LiesA w a2 xs) (hl : xs.length ≤ maxLen) :
    Calls Tryd.prog 12 #[.slice a1 xs.length c1, .slice a2 xs.length c2] w fun e w' => e = .returned (.bool true) ∧ Below w.heap.size w w' := by
  unfold maxLen at hl
  rcases h1 with rfl | ⟨b1, o1, rfl, h1⟩
  · rw [List.length_nil]
    go_enter Tryd.func12, Tryd.ntmps12
    go_wp2
    refine wp_loop_rounds 1 ?_
    rw [rounds_succ]
    go_wp2
    go_ret
    exact ⟨rfl, Below.refl _ _⟩
  rcases h2 with rfl | ⟨b2, o2, rfl, h2⟩
  · rw [List.length_nil]
    go_enter Tryd.func12, Tryd.ntmps12
    go_wp2
    refine wp_loop_rounds 1 ?_
    rw [rounds_succ]
    go_wp2
    go_ret
    exact ⟨rfl, Below.refl _ _⟩
  have H1 : Hid (Lies w b1 o1 xs) := h1
  have H2 : Hid (Lies w b2 o2 xs) := h2
  have hb1 : b1 < w.heap.size := h1.1
  have hb2 : b2 < w.heap.size := h2.1
  clear h1 h2
  have hne : ((xs.length : Int) != (xs.length : Int)) = false := by simp
  go_enter Tryd.func12, Tryd.ntmps12
  go_wp2
  go_loopw [13] (fun i wr => ∃ k : Nat, k ≤ xs.length ∧ i = .int .i64 k ∧ Below w.heap.size w wr) (fun i _ => xs.length - (intOf i).toNat)
  case atStart => exact ⟨0, Nat.zero_le _, rfl, Below.refl _ _⟩
  case round =>
    obtain ⟨k, hk, rfl, hbel⟩ := hrel
    have hsz := hbel.size
    by_cases hlt : k < xs.length
    · obtain ⟨e, he⟩ : ∃ e, xs[k]? = some e := ⟨_, List.getElem?_eq_getElem hlt⟩
      have c0 := H1.out.int hbel he
      have d0 := H2.out.int hbel he
      clear he
      have hlt' : (k : Int) < (xs.length : Int) := by omega
      go_wp2
      go_quiet (fail)
      go_wp2
      go_roundw
      case rel => exact ⟨k + 1, by omega, by go_num, by (repeat (with_reducible refine below_drewN ?_ _)); go_grown⟩
      case measure => simp [intOf]; omega
    · go_wp2
      go_ret
      exact ⟨rfl, by go_grown⟩
end Go.Proofs.YtaploloedocgbaaDoor

namespace Go.Proofs.YtaploloedocgbaaDoor
open Go.ChangeShapes Go.WideShapes Go.ChangeAt Go.RowKit
set_option linter.unusedVariables false

/-- the open ends as they lie: the innermost last -/
def rv (st : List Nat) : List Int := st.reverse.map fun (t : Nat) => (t : Int)
theorem rv_cons (t : Nat) (r : List Nat) : rv (t :: r) = rv r ++ [(t : Int)] := by simp [rv]
theorem rv_len (st : List Nat) : (rv st).length = st.length := by simp [rv]
theorem flat_int (l : List Int) : flat l = l.map fun x => Value.int .i64 x := by
  induction l with
  | nil => rfl
  | cons x r ih => rw [flat_cons, ih]; rfl
theorem own_less {w : World} {base e n cap : Nat} {a : Option Addr} {xs : List Value} {x : Value} (h : w.ownsRow base e 1 (.slice a (n + 1) cap) (n + 1) (xs ++ [x])) : w.ownsRow base e 1 (.slice a n cap) n xs := by
  have hl : xs.length = n := by have := h.1; simp at this; omega
  refine ⟨by omega, ?_⟩
  rcases h.2 with ⟨_, h0⟩ | ⟨g, cap', cur, hv, hg, hh, h1, h2, h3, h4⟩
  · omega
  · cases hv
    rw [Nat.mul_one] at h4
    refine .inr ⟨g, cap, cur, rfl, hg, hh, by omega, h2, h3, ?_⟩
    have h5 := congrArg (List.take n) h4
    rw [List.take_take, Nat.min_eq_left (show n ≤ n + 1 by omega), List.take_append_of_le_length (by omega), List.take_of_length_le (show xs.length ≤ n by omega)] at h5
    rw [Nat.mul_one]
    exact h5
theorem own_cap {w : World} {base e n cap : Nat} {a : Option Addr} {xs : List Value} (h : w.ownsRow base e 1 (.slice a n cap) n xs) : n ≤ cap := by
  rcases h.2 with ⟨h1, h0⟩ | ⟨g, cap', cur, hv, hg, hh, h1, h2, h3, h4⟩
  · omega
  · cases hv; exact h1
theorem own_at {w : World} {base e n cap : Nat} {a : Option Addr} {xs : List Value} {x : Value} (h : w.ownsRow base e 1 (.slice a (n + 1) cap) (n + 1) (xs ++ [x])) : ∃ g, a = some ⟨g, 0, none⟩ ∧ w.cell? ⟨g, n, none⟩ = some x := by
  have hl : xs.length = n := by have := h.1; simp at this; omega
  rcases h.2 with ⟨_, h0⟩ | ⟨g, cap', cur, hv, hg, hh, h1, h2, h3, h4⟩
  · omega
  · cases hv
    refine ⟨g, rfl, ?_⟩
    unfold World.cell?
    simp only [hh]
    have := congrArg (·[n]?) h4
    simp only [Nat.mul_one, List.getElem?_take_of_lt (show n < n + 1 by omega)] at this
    rw [List.getElem?_append_right (by omega), hl, Nat.sub_self] at this
    simpa using this

theorem own_grw {e e' : TypeId} {B s n : Nat} {v : Value} {xs : List Value} {w w' : World} {row : Option Nat} (h : w.ownsRow B e s v n xs) (hg : w.grownBy w' row) (hr : ∀ g, row = some g → ∃ c fz, w.heap[g]? = some (.cells c e' fz)) (h1 : e' ≠ e) : w'.ownsRow B e s v n xs := by
  refine ⟨h.1, ?_⟩
  rcases h.2 with k | ⟨g, cap, cur, hv, hgb, hh, r⟩
  · exact .inl k
  · refine .inr ⟨g, cap, cur, hv, hgb, ?_, r⟩
    rw [hg.block g (lt_of_block hh) (fun hrow => ?_)]
    · exact hh
    · obtain ⟨c', fz', h'⟩ := hr g hrow.symm
      rw [hh] at h'
      cases h'
      exact h1 rfl
/-- the row's block, whatever its elements' size -/
theorem row_kindA {w : World} {B s : Nat} {e : TypeId} {v : Value} {n : Nat} {xs : List Value} (h : w.ownsRow B e s v n xs) : ∀ g, v.ownBlock = some g → ∃ c fz, w.heap[g]? = some (.cells c e fz) := by
  intro g hg
  rcases h.2 with ⟨rfl, _⟩ | ⟨g', cap, cur, rfl, _, hh, _⟩
  · cases hg
  · cases hg
    exact ⟨_, _, hh⟩
/-- two rows of other elements lie in other blocks -/
theorem own_other {e e' : TypeId} {B B' s s' n n' : Nat} {v v' : Value} {xs xs' : List Value} {w : World} (h : w.ownsRow B e s v n xs) (h' : w.ownsRow B' e' s' v' n' xs') (hne : e' ≠ e) {g : Nat} (hg : v'.ownBlock = some g) : v.ownBlock ≠ some g := by
  intro h1
  obtain ⟨c, fz, hh⟩ := row_kindA h g h1
  obtain ⟨c', fz', hh'⟩ := row_kindA h' g hg
  rw [hh] at hh'
  cases hh'
  exact hne rfl
end Go.Proofs.YtaploloedocgbaaDoor

namespace Go.Proofs.YtaploloedocgbaaDoor
set_option linter.unusedVariables false

/-- how far a name and a text go together -/
def lcp : List UInt8 → List UInt8 → Nat
  | a :: x, b :: y => if a = b then lcp x y + 1 else 0
  | _, _ => 0
theorem lcp_nil (s : List UInt8) : lcp [] s = 0 := by unfold lcp; rfl
theorem lcp_end (a : UInt8) (x : List UInt8) : lcp (a :: x) [] = 0 := by unfold lcp; rfl
theorem lcp_yes (a : UInt8) (x y : List UInt8) : lcp (a :: x) (a :: y) = lcp x y + 1 := by rw [lcp, if_pos rfl]
theorem lcp_no {a b : UInt8} (x y : List UInt8) (h : a ≠ b) : lcp (a :: x) (b :: y) = 0 := by rw [lcp, if_neg h]
theorem lcp_le : ∀ (m s : List UInt8), lcp m s ≤ m.length ∧ lcp m s ≤ s.length
  | [], s => by rw [lcp_nil]; exact ⟨Nat.zero_le _, Nat.zero_le _⟩
  | a :: x, [] => by rw [lcp_end]; exact ⟨Nat.zero_le _, Nat.zero_le _⟩
  | a :: x, b :: y => by
    by_cases h : a = b
    · subst h; rw [lcp_yes]; have := lcp_le x y; simp only [List.length_cons]; omega
    · rw [lcp_no x y h]; exact ⟨Nat.zero_le _, Nat.zero_le _⟩
/-- a text's front is a name's, as far as they go together -/
theorem lcp_front : ∀ (k : Nat) (m s : List UInt8), k ≤ s.length → ((k ≤ m.length ∧ m.take k = s.take k) ↔ k ≤ lcp m s)
  | 0, m, s, _ => by simp
  | k + 1, [], s, _ => by rw [lcp_nil]; simp
  | k + 1, a :: x, [], h => by simp at h
  | k + 1, a :: x, b :: y, h => by
    simp only [List.length_cons, List.take_succ_cons, List.cons.injEq] at h ⊢
    by_cases e : a = b
    · subst e
      rw [lcp_yes]
      have := lcp_front k x y (by omega)
      constructor
      · rintro ⟨h1, -, h2⟩
        have := this.1 ⟨by omega, h2⟩
        omega
      · intro h1
        have := this.2 (by omega)
        exact ⟨by omega, rfl, this.2⟩
    · rw [lcp_no x y e]
      constructor
      · rintro ⟨-, h1, -⟩; exact absurd h1 e
      · intro h1; omega
theorem lcp_whole {m s : List UInt8} {L : Nat} (hL : L ≤ s.length) : (lcp m s = L ∧ m.length = L) ↔ m = s.take L := by
  constructor
  · rintro ⟨h1, h2⟩
    have := ((lcp_front L m s hL).2 (by omega)).2
    rw [List.take_of_length_le (by omega)] at this
    exact this
  · intro h
    have h2 : m.length = L := by rw [h, List.length_take]; omega
    refine ⟨?_, h2⟩
    have h3 := (lcp_front L m s hL).1 ⟨by omega, by rw [List.take_of_length_le (by omega)]; exact h⟩
    have h4 := (lcp_le m s).1
    omega

/-- the code's nameAt, a name further -/
def naS (s : List UInt8) (k : Nat) (m : List UInt8) (acc : Nat × Nat × Bool) : Nat × Nat × Bool :=
  if lcp m s = (if acc.2.1 < lcp m s then lcp m s else acc.2.1) ∧ lcp m s = m.length then (k, (if acc.2.1 < lcp m s then lcp m s else acc.2.1), true)
  else (acc.1, (if acc.2.1 < lcp m s then lcp m s else acc.2.1), (if acc.2.1 < lcp m s then false else acc.2.2))
/-- .. over the first k names -/
def naF (nm : List (List UInt8)) (s : List UInt8) : Nat → Nat × Nat × Bool
  | 0 => (0, 0, false)
  | k + 1 => naS s k (nm.getD k []) (naF nm s k)
/-- what nameAt knows of the names that it has seen -/
structure NaI (nm : List (List UInt8)) (s : List UInt8) (k : Nat) (acc : Nat × Nat × Bool) : Prop where
  le : ∀ i, i < k → lcp (nm.getD i []) s ≤ acc.2.1
  at' : acc.2.1 = 0 ∨ ∃ i, i < k ∧ lcp (nm.getD i []) s = acc.2.1
  yes : acc.2.2 = true → acc.1 < k ∧ nm.getD acc.1 [] = s.take acc.2.1
  no : acc.2.2 = false → ∀ i, i < k → nm.getD i [] ≠ s.take acc.2.1
theorem naF_inv (nm : List (List UInt8)) (s : List UInt8) (hn : ∀ i, i < nm.length → nm.getD i [] ≠ []) : ∀ k, k ≤ nm.length → NaI nm s k (naF nm s k) ∧ (naF nm s k).2.1 ≤ s.length
  | 0, _ => ⟨⟨fun i h => by omega, .inl rfl, (fun h => by cases h), fun _ i h => by omega⟩, Nat.zero_le _⟩
  | k + 1, hk => by
    obtain ⟨h, hl⟩ := naF_inv nm s hn k (by omega)
    obtain ⟨kd, ln, ok, e⟩ : ∃ a b c, naF nm s k = (a, b, c) := ⟨_, _, _, rfl⟩
    rw [naF]
    rw [e] at h hl ⊢
    obtain ⟨m, hm⟩ : ∃ m, nm.getD k [] = m := ⟨_, rfl⟩
    have hne : m ≠ [] := hm ▸ hn k (by omega)
    have hml : 0 < m.length := List.length_pos_iff.2 hne
    rw [hm]
    have hb := lcp_le m s
    have hle := h.le
    have hat := h.at'
    have hyes := h.yes
    have hno := h.no
    simp only at hle hat hyes hno hl
    unfold naS
    simp only
    by_cases h1 : ln < lcp m s
    · simp only [if_pos h1]
      by_cases h2 : lcp m s = m.length
      · rw [if_pos ⟨trivial, h2⟩]
        refine ⟨⟨fun i hi => ?_, .inr ⟨k, by omega, by rw [hm]⟩, fun _ => ⟨by show k < k + 1; omega, ?_⟩, fun h => by cases h⟩, hb.2⟩
        · show _ ≤ lcp m s
          by_cases hik : i = k
          · rw [hik, hm]; exact Nat.le_refl _
          · have := hle i (by omega); omega
        · show nm.getD k [] = s.take (lcp m s)
          rw [hm]
          exact (lcp_whole hb.2).1 ⟨rfl, h2.symm⟩
      · rw [if_neg (fun h => h2 h.2)]
        refine ⟨⟨fun i hi => ?_, .inr ⟨k, by omega, by rw [hm]⟩, (fun h => by cases h), fun _ i hi => ?_⟩, hb.2⟩
        · show _ ≤ lcp m s
          by_cases hik : i = k
          · rw [hik, hm]; exact Nat.le_refl _
          · have := hle i (by omega); omega
        · show nm.getD i [] ≠ s.take (lcp m s)
          by_cases hik : i = k
          · rw [hik, hm]
            intro h3
            exact h2 ((lcp_whole hb.2).2 h3).2.symm
          · intro h3
            have := ((lcp_whole hb.2).2 h3).1
            have := hle i (by omega)
            omega
    · simp only [if_neg h1]
      by_cases h2 : lcp m s = ln ∧ lcp m s = m.length
      · rw [if_pos h2]
        refine ⟨⟨fun i hi => ?_, .inr ⟨k, by omega, by rw [hm]; exact h2.1⟩, fun _ => ⟨by show k < k + 1; omega, ?_⟩, fun h => by cases h⟩, hl⟩
        · show _ ≤ ln
          by_cases hik : i = k
          · rw [hik, hm]; omega
          · exact hle i (by omega)
        · show nm.getD k [] = s.take ln
          rw [hm]
          exact (lcp_whole hl).1 ⟨h2.1, by omega⟩
      · rw [if_neg h2]
        refine ⟨⟨fun i hi => ?_, ?_, fun h => ?_, fun h i hi => ?_⟩, hl⟩
        · show _ ≤ ln
          by_cases hik : i = k
          · rw [hik, hm]; omega
          · exact hle i (by omega)
        · rcases hat with h3 | ⟨i, h3, h4⟩
          · exact .inl h3
          · exact .inr ⟨i, by omega, h4⟩
        · have := hyes h
          exact ⟨by show kd < k + 1; omega, this.2⟩
        · show nm.getD i [] ≠ s.take ln
          by_cases hik : i = k
          · rw [hik, hm]
            intro h3
            have := (lcp_whole hl).2 h3
            exact h2 ⟨this.1, by omega⟩
          · exact hno h i (by omega)

/-- does some name begin so? -/
def bgn (nm : List (List UInt8)) (t : List UInt8) : Bool := nm.any fun m => decide (t.length ≤ m.length) && m.take t.length == t
/-- the last name that is this -/
def knd (nm : List (List UInt8)) (t : List UInt8) : Nat → Int
  | 0 => -1
  | k + 1 => if nm.getD k [] = t then (k : Int) else knd nm t k
theorem bgn_iff {nm : List (List UInt8)} {s : List UInt8} (hn : ∀ i, i < nm.length → nm.getD i [] ≠ []) {k : Nat} (hk : k ≤ s.length) (h0 : 0 < k) : bgn nm (s.take k) = true ↔ k ≤ (naF nm s nm.length).2.1 := by
  obtain ⟨h, hl⟩ := naF_inv nm s hn nm.length (Nat.le_refl _)
  have hlen : (s.take k).length = k := by rw [List.length_take]; omega
  unfold bgn
  rw [List.any_eq_true]
  constructor
  · rintro ⟨m, hm, hb⟩
    rw [Bool.and_eq_true, hlen] at hb
    have h1 := (lcp_front k m s hk).1 ⟨of_decide_eq_true hb.1, eq_of_beq hb.2⟩
    obtain ⟨i, hi, he⟩ := List.getElem_of_mem hm
    have := h.le i hi
    rw [List.getD, List.getElem?_eq_getElem hi, Option.getD_some, he] at this
    omega
  · intro h1
    rcases h.at' with h2 | ⟨i, hi, h2⟩
    · omega
    · refine ⟨nm.getD i [], ?_, ?_⟩
      · rw [List.getD, List.getElem?_eq_getElem hi]; exact List.getElem_mem hi
      · have := (lcp_front k (nm.getD i []) s hk).2 (by omega)
        rw [Bool.and_eq_true, hlen]
        exact ⟨decide_eq_true this.1, beq_iff_eq.2 this.2⟩
theorem knd_none {nm : List (List UInt8)} {t : List UInt8} : ∀ k, (∀ i, i < k → nm.getD i [] ≠ t) → knd nm t k = -1
  | 0, _ => rfl
  | k + 1, h => by rw [knd, if_neg (h k (by omega))]; exact knd_none k (fun i hi => h i (by omega))
theorem knd_some {nm : List (List UInt8)} {t : List UInt8} {i : Nat} (hi : nm.getD i [] = t) : ∀ k, i < k → (∀ j, j < k → nm.getD j [] = t → j = i) → knd nm t k = (i : Int)
  | 0, h, _ => by omega
  | k + 1, h, hu => by
    rw [knd]
    by_cases e : nm.getD k [] = t
    · rw [if_pos e, hu k (by omega) e]
    · rw [if_neg e]
      have hik : i ≠ k := fun h => e (h ▸ hi)
      exact knd_some hi k (by omega) (fun j hj => hu j (by omega))
/-- the reference's kind is the code's -/
theorem knd_na {nm : List (List UInt8)} {s : List UInt8} (hn : ∀ i, i < nm.length → nm.getD i [] ≠ []) (hu : ∀ i j, i < nm.length → j < nm.length → nm.getD i [] = nm.getD j [] → i = j) :
    knd nm (s.take (naF nm s nm.length).2.1) nm.length = if (naF nm s nm.length).2.2 then ((naF nm s nm.length).1 : Int) else -1 := by
  obtain ⟨h, hl⟩ := naF_inv nm s hn nm.length (Nat.le_refl _)
  cases ho : (naF nm s nm.length).2.2 with
  | true =>
    obtain ⟨h1, h2⟩ := h.yes ho
    rw [if_pos rfl]
    exact knd_some h2 _ h1 (fun j hj e => hu j _ hj h1 (e.trans h2.symm))
  | false =>
    rw [if_neg Bool.false_ne_true]
    exact knd_none _ (h.no ho)
end Go.Proofs.YtaploloedocgbaaDoor
