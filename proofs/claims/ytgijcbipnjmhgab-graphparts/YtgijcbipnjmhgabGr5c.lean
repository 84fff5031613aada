import Derived.Test.YtgijcbipnjmhgabGr0
import Derived.Laws.EntriesVeiled
import Derived.Test.YtgijcbipnjmhgabGq0
import Derived.Test.YtgijcbipnjmhgabGr4
import Derived.Test.YtgijcbipnjmhgabGq1
import Derived.ArgAppend
namespace Go.Proofs.Ytgijcbipnjmhgab
open Go.ChangeShapes Go.WideShapes Go.ChangeAt Go.RowKit
set_option linter.unusedVariables false
set_option linter.unusedSimpArgs false

/-- is x one of n things? -/
def thg (n x : Int) : Bool := decide (0 ≤ x) && decide (x < n)
def thp (n : Int) (p : Pr) : Bool := thg n p.a && thg n p.b
def things (n : Int) (ps : List Pr) : Bool := decide (0 ≤ n) && decide (n ≤ 131072) && ps.all (thp n)
theorem isThing_any (n x : Int) (w : World) : Calls Try.prog 35 #[.int .i64 n, .int .i64 x] w fun e w' => e = .returned (.bool (thg n x)) ∧ w' = w := by
  by_cases h0 : 0 ≤ x
  · go_enter Try.func35, Try.ntmps35
    go_wp2
    go_ret
    exact ⟨by simp [thg, h0], rfl⟩
  · go_enter Try.func35, Try.ntmps35
    go_wp2
    go_ret
    exact ⟨by rw [thg, decide_eq_false (show ¬ 0 ≤ x by omega)]; rfl, rfl⟩
theorem bad_any (bn : Nat) (n a b : Int) (w : World) (hb : Bx w bn #[.int .i64 n] 3) : Calls Try.prog 34 #[.agg #[.int .i64 a, .int .i64 b], .pointer (some ⟨bn, 0, none⟩)] w fun e w' => e = .returned (.bool (!thp n ⟨a, b⟩)) ∧ Below w.heap.size w w' := by
  obtain ⟨w1, e1, hb1, hs1, B1⟩ := bx1 w #[.int .i64 a, .int .i64 b] 42
  obtain ⟨s, hs⟩ : ∃ s, w.heap.size = s := ⟨_, rfl⟩
  have HS : Hid (w.heap.size = s) := hs
  rw [hs] at B1
  have HE1 : Hid (w.alloc (.cells #[.int .i64 a, .int .i64 b] 42) = w1) := e1
  have HB1 : Hid (Below w.heap.size w w1) := hb1
  have c0 : w1.cell? ⟨bn, 0, none⟩ = some (.int .i64 n) := (hb.below hb1 hb.lt).one
  have c1 : w1.cell? ⟨s, 0, none⟩ = some (.int .i64 a) := B1.cell 0
  have c2 : w1.cell? ⟨s, 1, none⟩ = some (.int .i64 b) := B1.cell 1
  clear e1 hb1 hs1 B1 hb
  cases hta : thg n a with
  | false =>
    go_enter Try.func34, Try.ntmps34
    go_upto_region 1 with fail
    rw [HE1.out]
    go_wp2_with (go_at_call 35; (with_reducible refine (isThing_any n a _).mono ?_); rintro e v1 ⟨rfl, hv⟩; have hv2 := hv.symm; clear hv; subst hv2; rw [hta])
    go_ret
    exact ⟨by simp [thp, hta], HB1.out⟩
  | true =>
    go_enter Try.func34, Try.ntmps34
    go_upto_region 1 with fail
    rw [HE1.out]
    go_wp2_with (first
      | (go_at_call 35; (with_reducible refine (isThing_any n a _).mono ?_); rintro e v1 ⟨rfl, hv⟩; have hv2 := hv.symm; clear hv; subst hv2; rw [hta])
      | (go_at_call 35; (with_reducible refine (isThing_any n b _).mono ?_); rintro e v2 ⟨rfl, hv⟩; have hv2 := hv.symm; clear hv; subst hv2))
    go_ret
    exact ⟨by simp [thp, hta], HB1.out⟩

set_option maxRecDepth 1000000 in
theorem index_any (bn : Nat) (n : Int) (a : Option Addr) (cap : Nat) (ps : List Pr) (w : World) (hb : Bx w bn #[.int .i64 n] 3) (hL : LiesA w a ps) (hm : ps.length ≤ 17592186044416) : Calls Try.prog 54 #[.slice a ps.length cap, .func (.func 34) #[] #[.pointer (some ⟨bn, 0, none⟩)]] w fun e w' => ∃ r : Int, e = .returned (.int .i64 r) ∧ (decide (0 ≤ r) = !ps.all (thp n)) ∧ Below w.heap.size w w' := by
  have HB : Hid (Bx w bn #[.int .i64 n] 3) := hb
  have HL : Hid (LiesA w a ps) := hL
  clear hb hL
  go_enter Try.func54, Try.ntmps54
  go_wp2
  go_loopg [8] ps.length (fun gk si wr => ∃ (k : Nat), gk = ps.length - k ∧ si = .int .i64 (k : Int) ∧ k ≤ ps.length ∧ (ps.take k).all (thp n) = true ∧ Below w.heap.size w wr)
  case atStart => exact ⟨0, rfl, rfl, Nat.zero_le _, rfl, Below.refl _ _⟩
  case round =>
    obtain ⟨k, hgk, rfl, hk, hall, hbel⟩ := hrel
    have HBL : Hid (Below w.heap.size w wr) := hbel
    have HALL : Hid ((ps.take k).all (thp n) = true) := hall
    clear hbel hall
    by_cases hkp : k < ps.length
    · have hkp' : (k : Int) < (ps.length : Int) := by omega
      obtain ⟨p, hp⟩ : ∃ p, ps[k]? = some p := ⟨_, List.getElem?_eq_getElem hkp⟩
      obtain ⟨b, o, ha, hLi⟩ : ∃ b o, a = some ⟨b, o, none⟩ ∧ Lies w b o ps := by
        rcases HL.out with h | h
        · rw [h] at hkp; exact absurd hkp (Nat.not_lt_zero _)
        · exact h
      subst ha
      obtain ⟨pa, pb⟩ := p
      obtain ⟨d0, d1⟩ := (hLi.below HBL.out hLi.1).pr hp
      simp only at d0 d1
      have HP : Hid (ps[k]? = some ⟨pa, pb⟩) := hp
      have hBr : Hid (Bx wr bn #[.int .i64 n] 3) := HB.out.below HBL.out HB.out.lt
      clear hLi hp
      cases hbad : thp n ⟨pa, pb⟩ with
      | true =>
        go_wp2_with (go_at_call 34; (with_reducible refine (bad_any bn n pa pb wr hBr.out).mono ?_); rintro e v1 ⟨rfl, hb1⟩; rw [hbad]; have HB1 : Hid (Below w.heap.size w v1) := HBL.out.trans (hb1.mono HBL.out.size); clear hb1)
        go_roundg (ps.length - (k + 1))
        case measure => omega
        case rel =>
          refine ⟨k + 1, rfl, by go_num, by omega, ?_, HB1.out⟩
          rw [List.take_add_one, HP.out, List.all_append, HALL.out]
          simp [hbad]
      | false =>
        go_wp2_with (go_at_call 34; (with_reducible refine (bad_any bn n pa pb wr hBr.out).mono ?_); rintro e v1 ⟨rfl, hb1⟩; rw [hbad]; have HB1 : Hid (Below w.heap.size w v1) := HBL.out.trans (hb1.mono HBL.out.size); clear hb1)
        go_ret
        refine ⟨(k : Int), rfl, ?_, HB1.out⟩
        have hall : ps.all (thp n) = false := by
          rw [List.all_eq_false]
          exact ⟨_, List.mem_of_getElem? HP.out, by simp [hbad]⟩
        rw [hall]
        simp
    · have hkp' : ¬ (k : Int) < (ps.length : Int) := by omega
      go_wp2
      go_ret
      refine ⟨-1, rfl, ?_, HBL.out⟩
      have h9 := HALL.out
      rw [List.take_of_length_le (by omega)] at h9
      rw [h9]
      decide
theorem contains_any (bn : Nat) (n : Int) (a : Option Addr) (cap : Nat) (ps : List Pr) (w : World) (hb : Bx w bn #[.int .i64 n] 3) (hL : LiesA w a ps) (hm : ps.length ≤ 17592186044416) : Calls Try.prog 33 #[.slice a ps.length cap, .func (.func 34) #[] #[.pointer (some ⟨bn, 0, none⟩)]] w fun e w' => e = .returned (.bool (!ps.all (thp n))) ∧ Below w.heap.size w w' := by
  have IX : Hid (Calls Try.prog 54 #[.slice a ps.length cap, .func (.func 34) #[] #[.pointer (some ⟨bn, 0, none⟩)]] w fun e w' => ∃ r : Int, e = .returned (.int .i64 r) ∧ (decide (0 ≤ r) = !ps.all (thp n)) ∧ Below w.heap.size w w') := index_any bn n a cap ps w hb hL hm
  clear hb hL
  go_enter Try.func33, Try.ntmps33
  go_wp2_with (go_at_call 54; (with_reducible refine IX.out.mono ?_); rintro e v1 ⟨r, rfl, hr, hb1⟩; have HB1 : Hid (Below w.heap.size w v1) := hb1; have HR : Hid (decide (0 ≤ r) = !ps.all (thp n)) := hr; clear hb1 hr)
  go_ret
  refine ⟨?_, HB1.out⟩
  show Ending.returned (.bool (decide (0 ≤ r))) = _
  rw [HR.out]
theorem areThings_any (n : Int) (a : Option Addr) (cap : Nat) (ps : List Pr) (w : World) (hL : LiesA w a ps) (hm : ps.length ≤ 17592186044416) : Calls Try.prog 17 #[.int .i64 n, .slice a ps.length cap] w fun e w' => e = .returned (.bool (things n ps)) ∧ Below w.heap.size w w' := by
  have hmf : ∀ (fn : Fn) (first cap : Array Value) (w : World), (Instr.makeFunc fn first cap).run Try.prog w = .ok (.func fn first cap) w := fun _ _ _ _ => rfl
  obtain ⟨w1, e1, hb1, hs1, B1⟩ := bx1 w #[.int .i64 n] 3
  obtain ⟨s, hs⟩ : ∃ s, w.heap.size = s := ⟨_, rfl⟩
  have HS : Hid (w.heap.size = s) := hs
  rw [hs] at B1
  have HE1 : Hid (w.alloc (.cells #[.int .i64 n] 3) = w1) := e1
  have HB1 : Hid (Below w.heap.size w w1) := hb1
  have c0 : w1.cell? ⟨s, 0, none⟩ = some (.int .i64 n) := B1.one
  have CT : Hid (Calls Try.prog 33 #[.slice a ps.length cap, .func (.func 34) #[] #[.pointer (some ⟨s, 0, none⟩)]] w1 fun e w' => e = .returned (.bool (!ps.all (thp n))) ∧ Below w1.heap.size w1 w') := contains_any s n a cap ps w1 B1 (hL.below hb1) hm
  clear e1 hb1 hs1 B1 hL
  by_cases h0 : 0 ≤ n
  · by_cases h1 : n ≤ 131072
    · go_enter Try.func17, Try.ntmps17
      go_upto_region 1 with fail
      rw [HE1.out]
      go_wp2_with (go_at_call 33; (with_reducible refine CT.out.mono ?_); rintro e v1 ⟨rfl, hb2⟩; have HB2 : Hid (Below w1.heap.size w1 v1) := hb2; clear hb2)
      go_ret
      exact ⟨by simp [things, h0, h1], HB1.out.trans (HB2.out.mono HB1.out.size)⟩
    · go_enter Try.func17, Try.ntmps17
      go_upto_region 1 with fail
      rw [HE1.out]
      go_wp2
      go_ret
      exact ⟨by rw [things, decide_eq_false (show ¬ n ≤ 131072 by omega)]; simp, by rw [← HS.out]; exact HB1.out⟩
  · go_enter Try.func17, Try.ntmps17
    go_upto_region 1 with fail
    rw [HE1.out]
    go_wp2
    go_ret
    exact ⟨by rw [things, decide_eq_false (show ¬ 0 ≤ n by omega)]; simp, by rw [← HS.out]; exact HB1.out⟩
end Go.Proofs.Ytgijcbipnjmhgab

namespace Go.Proofs.Ytgijcbipnjmhgab
set_option linter.unusedVariables false
set_option linter.unusedSimpArgs false

theorem things_spec {n : Nat} {ps : List Pr} (h : things (n : Int) ps = true) : n ≤ 131072 ∧ ∀ p ∈ ps, (0 ≤ p.a ∧ p.a < (n : Int)) ∧ (0 ≤ p.b ∧ p.b < (n : Int)) := by
  unfold things at h
  simp only [Bool.and_eq_true, decide_eq_true_eq, List.all_eq_true] at h
  refine ⟨by omega, fun p hp => ?_⟩
  have := h.2 p hp
  unfold thp thg at this
  simp only [Bool.and_eq_true, decide_eq_true_eq] at this
  exact this
theorem rep_false {n y : Nat} (h : y < n) : (List.replicate n false)[y]? = some false := by rw [List.getElem?_replicate, if_pos h]
/-- what a first walk tells: all that can be come to, each once -/
theorem Dq.all {ps : List Pr} {n x : Nat} {m' : List Bool} {t' : List Nat} (h : Dq ps (Rch ps x) (List.replicate n false) [] m' t') (hx : m'[x]? = some true) : t'.Nodup ∧ ∀ y, y ∈ t' ↔ Rch ps x y := by
  obtain ⟨s, hs, hn, hy, hz⟩ := h.told
  rw [List.nil_append] at hs
  subst hs
  have hlt : ∀ a : Nat, m'[a]? = some true → (List.replicate n false)[a]? = some false := fun a ha => by
    have := (List.getElem?_eq_some_iff.1 ha).1
    rw [h.len, List.length_replicate] at this
    exact rep_false this
  have fwd : ∀ a b : Nat, Rch ps a b → m'[a]? = some true → m'[b]? = some true := by
    intro a b hab
    induction hab with
    | refl => exact id
    | step e _ ih => exact fun ha => ih (h.closed _ _ (hlt _ ha) ha e)
  refine ⟨hn, fun y => ⟨fun hyt => ?_, fun hr => ?_⟩⟩
  · rcases h.reach y (hy y hyt).2 with h1 | h1
    · exact (tf h1 (hy y hyt).1).elim
    · exact h1
  · rcases hz y (fwd x y hr hx) with h1 | h1
    · exact (tf h1 (hlt y (fwd x y hr hx))).elim
    · exact h1
theorem sorted_unique : ∀ l m : List Int, l.Pairwise (· < ·) → m.Pairwise (· < ·) → (∀ y, y ∈ l ↔ y ∈ m) → l = m
  | [], [], _, _, _ => rfl
  | [], b :: m, _, _, h => by have := (h b).2 (by simp); cases this
  | a :: l, [], _, _, h => by have := (h a).1 (by simp); cases this
  | a :: l, b :: m, hl, hm, h => by
    rw [List.pairwise_cons] at hl hm
    have hab : a = b := by
      have h1 := (h a).1 (by simp)
      have h2 := (h b).2 (by simp)
      rcases List.mem_cons.1 h1 with h1 | h1
      · exact h1
      · rcases List.mem_cons.1 h2 with h2 | h2
        · exact h2.symm
        · have := hl.1 b h2
          have := hm.1 a h1
          omega
    subst hab
    rw [sorted_unique l m hl.2 hm.2 (fun y => ?_)]
    have hy := h y
    simp only [List.mem_cons] at hy
    constructor
    · intro h1
      rcases hy.1 (.inr h1) with h2 | h2
      · have := hl.1 y h1; omega
      · exact h2
    · intro h1
      rcases hy.2 (.inr h1) with h2 | h2
      · have := hm.1 y h1; omega
      · exact h2
theorem sorted_strict (xs : List Int) (hn : xs.Nodup) : (xs.mergeSort fun x y => decide (x ≤ y)).Pairwise (· < ·) ∧ ∀ y, y ∈ (xs.mergeSort fun x y => decide (x ≤ y)) ↔ y ∈ xs := by
  have hp := List.mergeSort_perm xs (fun x y => decide (x ≤ y))
  refine ⟨?_, fun y => hp.mem_iff⟩
  have hs := List.pairwise_mergeSort (le := fun x y : Int => decide (x ≤ y)) (fun a b c h1 h2 => by simp at h1 h2 ⊢; omega) (fun a b => by simp; omega) xs
  have hd := hp.nodup_iff.2 hn
  have h2 := List.Pairwise.and hs hd
  refine h2.imp (fun h => ?_)
  simp at h
  omega
end Go.Proofs.Ytgijcbipnjmhgab

namespace Go.Proofs.Ytgijcbipnjmhgab
open Go.ChangeShapes Go.WideShapes Go.ChangeAt Go.RowKit
set_option linter.unusedVariables false
set_option linter.unusedSimpArgs false

end Go.Proofs.Ytgijcbipnjmhgab

namespace Go.Proofs.Ytgijcbipnjmhgab
open Go.ChangeShapes Go.WideShapes Go.ChangeAt Go.RowKit
set_option linter.unusedVariables false
set_option linter.unusedSimpArgs false

/-- a row of ints of the call's own, from some place of its block on -/
def Qu (B : Nat) (w : World) (v : Value) (xs : List Nat) : Prop := ∃ g off cap cur, v = .slice (some ⟨g, off, none⟩) xs.length cap ∧ B ≤ g ∧ w.heap[g]? = some (.cells cur 3 (0, 0)) ∧ xs.length ≤ cap ∧ off + cap ≤ cur.size ∧ ∀ (j x : Nat), xs[j]? = some x → cur[off + j]? = some (.int .i64 (x : Int))
theorem cell_cur {w : World} {g i : Nat} {cur : Array Value} {e : TypeId} (h : w.heap[g]? = some (.cells cur e (0, 0))) : w.cell? ⟨g, i, none⟩ = cur[i]? ∧ w.frozen? ⟨g, i, none⟩ = false := by
  simp [World.cell?, World.frozen?, h]
theorem Qu.below {B C : Nat} {w w' : World} {v : Value} {xs : List Nat} (h : Qu B w v xs) (hb : Below C w w') (hC : w.heap.size ≤ C) : Qu B w' v xs := by
  obtain ⟨g, off, cap, cur, h1, h2, h3, h4, h5, h6⟩ := h
  exact ⟨g, off, cap, cur, h1, h2, (hb.block g (Nat.lt_of_lt_of_le (lt_of_block h3) hC)).trans h3, h4, h5, h6⟩
/-- another block is written -/
theorem Qu.far {B g i : Nat} {w : World} {v x : Value} {xs : List Nat} {cs : Array Value} {t : TypeId} {fz : Nat × Nat} (h : Qu B w v xs) (hg : w.heap[g]? = some (.cells cs t fz)) (ht : t ≠ 3) : Qu B (w.setCell ⟨g, i, none⟩ x) v xs := by
  obtain ⟨g1, off, cap, cur, h1, h2, h3, h4, h5, h6⟩ := h
  have hne : g1 ≠ g := fun e => by rw [e, hg] at h3; cases h3; exact ht rfl
  exact ⟨g1, off, cap, cur, h1, h2, (heap_setCell_other w ⟨g, i, none⟩ g1 x hne).trans h3, h4, h5, h6⟩
theorem Qu.first (B : Nat) (w : World) (x : Nat) (hB : B ≤ w.heap.size) : Qu B (w.alloc (.cells #[.int .i64 (x : Int)] 3)) (.slice (some ⟨w.heap.size, 0, none⟩) 1 1) [x] :=
  ⟨w.heap.size, 0, 1, _, rfl, hB, heap_alloc_new w _, Nat.le_refl _, Nat.le_refl _, fun j y hj => by
    cases j with
    | zero => simp at hj; subst hj; rfl
    | succ j => simp at hj⟩
/-- the first one is taken off -/
theorem Qu.pop {B : Nat} {w : World} {v : Value} {x : Nat} {xs : List Nat} (h : Qu B w v (x :: xs)) : ∃ g off cap, v = .slice (some ⟨g, off, none⟩) (xs.length + 1) cap ∧ xs.length + 1 ≤ cap ∧ w.cell? ⟨g, off, none⟩ = some (.int .i64 (x : Int)) ∧ (cap = 1 → Qu B w (.slice (some ⟨g, off, none⟩) xs.length 0) xs) ∧ Qu B w (.slice (some ⟨g, off + 1, none⟩) xs.length (cap - 1)) xs := by
  obtain ⟨g, off, cap, cur, h1, h2, h3, h4, h5, h6⟩ := h
  simp only [List.length_cons] at h1 h4
  refine ⟨g, off, cap, h1, h4, ?_, fun hc => ?_, ⟨g, off + 1, cap - 1, cur, rfl, h2, h3, by omega, by omega, fun j y hj => ?_⟩⟩
  · rw [(cell_cur h3).1]
    exact h6 0 x rfl
  · have hx : xs = [] := List.eq_nil_of_length_eq_zero (by omega)
    subst hx
    exact ⟨g, off, 0, cur, rfl, h2, h3, Nat.le_refl _, by omega, fun j y hj => by cases hj⟩
  · have := h6 (j + 1) y (by simpa using hj)
    rw [show off + 1 + j = off + (j + 1) by omega]
    exact this
/-- one more at the end, for the walk -/
theorem wpList_que {P : Program} (w : World) {ops : Array Oper} {rest : List Oper} {o : Oper} {a : Act} {Q : Exit → Act → World → Prop}
    (hg : o.guard = none) (s x : Operand) (t : TypeId) (hop : o.op = Op.call { callee := Callee.builtin Builtin.append, args := #[s, x], argTypes := #[t, t] })
    (i : TypeInfo) (z : Value) (h1 : P.underlying t = some (.slice 3)) (h2 : P.info? 3 = some i) (h3 : i.zero = some z) (h4 : i.size = 1) (h5 : i.bytes = 8) (h6 : z.cells.size = 1)
    (B : Nat) (v : Value) (xs : List Nat) (y : Nat) (hs : a.eval s = v) (hq : Qu B w v xs) (hB : B ≤ w.heap.size) (ad : Addr) (hx : a.eval x = .slice (some ad) 1 1) (hc : w.cell? ad = some (.int .i64 (y : Int))) (hl : xs.length ≤ 131072)
    (hK : ∀ v' w', Qu B w' v' (xs ++ [y]) → w.grownBy w' v.ownBlock → wpList P ops Q rest (a.put o.dst v') w') : wpList P ops Q (o :: rest) a w := by
  obtain ⟨g, off, cap, cur, rfl, hgB, hh, hle, hsz, hel⟩ := hq
  have hadd : ∀ j u, [Value.int .i64 (y : Int)][j]? = some u → w.cell? (ad.add j) = some u := fun j u hj => by
    cases j with
    | zero => simp at hj; subst hj; unfold Addr.add; simpa using hc
    | succ j => simp at hj
  refine wpList_append_arg w hg s x t hop 3 i z 1 8 h1 h2 h3 h4 h5 h6 (by decide) g off xs.length cap (xs.map fun (x : Nat) => Value.int .i64 (x : Int)) hs (by simp) (fun j u hj => ?_) ad 1 1 [Value.int .i64 (y : Int)] hx rfl hadd (by intro u hu; simp at hu; subst hu; rfl) (fun hr j hj => ?_) (by unfold maxLen; omega) (by omega) (fun hr => ?_) (fun hr v' w' hown hgr => ?_)
  · rw [List.getElem?_map] at hj
    obtain ⟨x1, hx1, rfl⟩ := Option.map_eq_some_iff.1 hj
    rw [(cell_cur hh).1]
    exact hel j x1 hx1
  · have hj0 : j = 0 := by simp at hj; exact hj
    subst hj0
    rw [(cell_cur hh).1, (cell_cur hh).2]
    exact ⟨by rw [Array.getElem?_eq_getElem (by omega)]; rfl, rfl⟩
  · refine hK _ _ ⟨g, off, cap, (cur.setIfInBounds (off + xs.length) (.int .i64 (y : Int))), by simp, hgB, ?_, by simp; omega, by simp; omega, fun j x1 hj => ?_⟩ ⟨rfl, rfl, rfl, by simp [World.setCells, World.setCell], fun k hk hne => ?_⟩
    · show (w.setCell ⟨g, off + xs.length * 1, none⟩ _).heap[g]? = _
      rw [Nat.mul_one]
      have := heap_setCell_same w g (off + xs.length) _ _ (.int .i64 (y : Int)) hh
      simpa using this
    · by_cases hjl : j < xs.length
      · rw [List.getElem?_append_left hjl] at hj
        rw [Array.getElem?_setIfInBounds, if_neg (by omega)]
        exact hel j x1 hj
      · rw [List.getElem?_append_right (by omega)] at hj
        have hj0 : j = xs.length := by
          have := (List.getElem?_eq_some_iff.1 hj).1
          simp at this
          omega
        subst hj0
        simp at hj
        subst hj
        rw [Array.getElem?_setIfInBounds, if_pos rfl, if_pos (by omega)]
    · show (w.setCell ⟨g, off + xs.length * 1, none⟩ _).heap[k]? = _
      exact heap_setCell_other w _ k _ (fun e => hne (by rw [e]; rfl))
  · refine hK v' w' ?_ ⟨hgr.os, hgr.tape, hgr.output, hgr.size, fun k hk _ => hgr.block k hk (by simp)⟩
    rcases hown.2 with ⟨_, h0⟩ | ⟨g', cap', cur', rfl, hb', hh', hn', hc', hs', ht'⟩
    · omega
    · refine ⟨g', 0, cap', cur', by simp, Nat.le_trans hB hb', hh', by simpa using hn', by omega, fun j x1 hj => ?_⟩
      have hjl := (List.getElem?_eq_some_iff.1 hj).1
      simp only [List.length_append, List.length_cons, List.length_nil] at hjl
      have h9 : (cur'.toList.take ((xs.length + 1) * 1))[j]? = ((xs.map fun (x : Nat) => Value.int .i64 (x : Int)) ++ [Value.int .i64 (y : Int)])[j]? := by rw [ht']
      rw [List.getElem?_take, if_pos (by omega)] at h9
      rw [Nat.zero_add, ← Array.getElem?_toList, h9]
      have h8 : ((xs.map fun (x : Nat) => Value.int .i64 (x : Int)) ++ [Value.int .i64 (y : Int)]) = (xs ++ [y]).map fun (x : Nat) => Value.int .i64 (x : Int) := by simp
      rw [h8, List.getElem?_map, hj]
      rfl
end Go.Proofs.Ytgijcbipnjmhgab

namespace Go.Proofs.Ytgijcbipnjmhgab
open Go.ChangeShapes Go.WideShapes Go.ChangeAt Go.RowKit
set_option linter.unusedVariables false
set_option linter.unusedSimpArgs false

/-- a search from x0: marks m, a queue q; P: what is being looked at -/
structure Bf (ps : List Pr) (n x0 : Nat) (P : Nat → Prop) (m : List Bool) (q : List Nat) : Prop where
  len : m.length = n
  start : m[x0]? = some true
  qm : ∀ y ∈ q, m[y]? = some true
  reach : ∀ y : Nat, m[y]? = some true → Rch ps x0 y
  closed : ∀ y y' : Nat, m[y]? = some true → y ∉ q → ¬ P y → (⟨(y : Int), (y' : Int)⟩ : Pr) ∈ ps → m[y']? = some true
theorem set_true {m : List Bool} {x y : Nat} : (m.set x true)[y]? = some true ↔ m[y]? = some true ∨ (y = x ∧ x < m.length) := by
  rw [List.getElem?_set]
  by_cases h : x = y
  · subst h
    rw [if_pos rfl]
    by_cases h2 : x < m.length
    · rw [if_pos h2]; simp [h2]
    · rw [if_neg h2]
      constructor
      · intro h; cases h
      · rintro (h | h)
        · exact absurd (List.getElem?_eq_some_iff.1 h).1 h2
        · exact absurd h.2 h2
  · rw [if_neg h]
    constructor
    · exact .inl
    · rintro (h1 | ⟨h1, _⟩)
      · exact h1
      · exact absurd h1.symm h
theorem Bf.first {ps : List Pr} {n x0 : Nat} (hx : x0 < n) : Bf ps n x0 (fun _ => False) ((List.replicate n false).set x0 true) [x0] := by
  have h0 : ∀ y : Nat, ((List.replicate n false).set x0 true)[y]? = some true → y = x0 := fun y hy => by
    rcases set_true.1 hy with h | h
    · rw [List.getElem?_replicate] at h
      split at h
      · cases h
      · cases h
    · exact h.1
  refine ⟨by simp, set_true.2 (.inr ⟨rfl, by simpa using hx⟩), fun y hy => ?_, fun y hy => ?_, fun y y' hy hq _ _ => ?_⟩
  · rw [List.mem_singleton] at hy; subst hy; exact set_true.2 (.inr ⟨rfl, by simpa using hx⟩)
  · rw [h0 y hy]; exact .refl _
  · exact absurd (h0 y hy) (by simpa using hq)
theorem Bf.pop {ps : List Pr} {n x0 x : Nat} {m : List Bool} {q : List Nat} (h : Bf ps n x0 (fun _ => False) m (x :: q)) : Bf ps n x0 (fun y => y = x) m q :=
  ⟨h.len, h.start, fun y hy => h.qm y (List.mem_cons_of_mem _ hy), h.reach, fun y y' hy hq hP he => h.closed y y' hy (fun hc => by rcases List.mem_cons.1 hc with hc | hc; exact hP hc; exact hq hc) id he⟩
theorem Bf.push {ps : List Pr} {n x0 x y : Nat} {m : List Bool} {q : List Nat} (h : Bf ps n x0 (fun y => y = x) m q) (hx : m[x]? = some true) (hy : m[y]? = some false) (he : (⟨(x : Int), (y : Int)⟩ : Pr) ∈ ps) : Bf ps n x0 (fun y => y = x) (m.set y true) (q ++ [y]) := by
  have hl := (List.getElem?_eq_some_iff.1 hy).1
  refine ⟨by rw [List.length_set]; exact h.len, set_true.2 (.inl h.start), fun z hz => ?_, fun z hz => ?_, fun z z' hz hq hP hzz => ?_⟩
  · rcases List.mem_append.1 hz with hz | hz
    · exact set_true.2 (.inl (h.qm z hz))
    · rw [List.mem_singleton] at hz; subst hz; exact set_true.2 (.inr ⟨rfl, hl⟩)
  · rcases set_true.1 hz with hz | hz
    · exact h.reach z hz
    · rw [hz.1]; exact (h.reach x hx).trans (.step he (.refl _))
  · rw [List.mem_append, not_or, List.mem_singleton] at hq
    rcases set_true.1 hz with hz | hz
    · exact set_true.2 (.inl (h.closed z z' hz hq.1 hP hzz))
    · exact absurd hz.1 hq.2
theorem Bf.done {ps : List Pr} {n x0 x : Nat} {m : List Bool} {q : List Nat} (h : Bf ps n x0 (fun y => y = x) m q) (hd : ∀ y' : Nat, (⟨(x : Int), (y' : Int)⟩ : Pr) ∈ ps → m[y']? = some true) : Bf ps n x0 (fun _ => False) m q :=
  ⟨h.len, h.start, h.qm, h.reach, fun y y' hy hq _ he => by
    by_cases e : y = x
    · subst e; exact hd y' he
    · exact h.closed y y' hy hq e he⟩
theorem Bf.fin {ps : List Pr} {n x0 : Nat} {m : List Bool} (h : Bf ps n x0 (fun _ => False) m []) (y : Nat) : m[y]? = some true ↔ Rch ps x0 y := by
  refine ⟨h.reach y, fun hr => ?_⟩
  have fwd : ∀ a b : Nat, Rch ps a b → m[a]? = some true → m[b]? = some true := by
    intro a b hab
    induction hab with
    | refl => exact id
    | step e _ ih => exact fun ha => ih (h.closed _ _ ha (by simp) id e)
  exact fwd x0 y hr h.start
/-- the search's own: its marks and its queue -/
structure Rd (B gm n : Nat) (w : World) (v : Value) (m : List Bool) (q : List Nat) (z : World) : Prop where
  met : z.ownsRow B 4 1 (.slice (some ⟨gm, 0, none⟩) n n) n (m.map Value.bool)
  que : Qu B z v q
  bel : Below B w z
  base : B ≤ z.heap.size
theorem Rd.get {B gm n : Nat} {w z : World} {v : Value} {m : List Bool} {q : List Nat} (h : Rd B gm n w v m q z) {x : Nat} {b : Bool} (hx : m[x]? = some b) : z.cell? ⟨gm, x, none⟩ = some (.bool b) ∧ z.frozen? ⟨gm, x, none⟩ = false := by
  have h1 := h.met.cells rfl x (.bool b) (by rw [List.getElem?_map, hx]; rfl)
  rw [addr_add, Nat.zero_add] at h1
  exact ⟨h1, h.met.frozenAt x⟩
theorem Rd.set {B gm n : Nat} {w z : World} {v : Value} {m : List Bool} {q : List Nat} (h : Rd B gm n w v m q z) (x : Nat) : Rd B gm n w v (m.set x true) q (z.setCell ⟨gm, x, none⟩ (.bool true)) := by
  obtain ⟨c, fz, hh⟩ := row_kindR h.met gm rfl
  refine ⟨?_, h.que.far hh (by decide), h.bel.setCell (p := ⟨gm, x, none⟩) (h.met.lt gm rfl).1 _, by simp; exact h.base⟩
  have := (World.ownsRow.stored h.met x (.bool true)).1
  rw [List.map_set]
  exact this
theorem Rd.below {B gm n : Nat} {w z z' : World} {v : Value} {m : List Bool} {q : List Nat} (h : Rd B gm n w v m q z) (hb : Below z.heap.size z z') : Rd B gm n w v m q z' :=
  ⟨ownsRow_below h.met hb (Nat.le_refl _), h.que.below hb (Nat.le_refl _), h.bel.trans (hb.mono h.base), Nat.le_trans h.base hb.size⟩
theorem Rd.grw {B gm n : Nat} {w z z' : World} {v v' : Value} {m : List Bool} {q q' : List Nat} (h : Rd B gm n w v m q z) (hq : Qu B z' v' q') (hg : z.grownBy z' v.ownBlock) : Rd B gm n w v' m q' z' := by
  obtain ⟨g, off, cap, cur, rfl, hgB, hh, -⟩ := h.que
  refine ⟨own_grwR h.met hg (fun k hk e => ?_), hq, h.bel.grown hg h.base (fun k hk => by cases hk; exact hgB), Nat.le_trans h.base hg.size⟩
  cases hk
  obtain ⟨c, fz, h2⟩ := row_kindR h.met g e
  rw [hh] at h2
  cases h2

end Go.Proofs.Ytgijcbipnjmhgab

namespace Go.Proofs.Ytgijcbipnjmhgab
open Go.ChangeShapes Go.WideShapes Go.ChangeAt Go.RowKit
set_option linter.unusedVariables false
set_option linter.unusedSimpArgs false

set_option maxRecDepth 1000000 in
theorem walkerC_any (B gV n bf bl : Nat) (w0 w : World) (rs : List Rr) (hn : n ≤ 131072) (hL : Lv B gV n w0 w rs) :
    Calls Try.prog 23 #[.slice (some ⟨gV, 0, none⟩) n n, .func (.func 25) #[] #[.pointer (some ⟨bf, 0, none⟩), .pointer (some ⟨bl, 0, none⟩)]] w fun e w' => ∃ bm bn bk bt gm, e = .returned (.func (.func 50) #[] #[.pointer (some ⟨bm, 0, none⟩), .pointer (some ⟨bn, 0, none⟩), .pointer (some ⟨bk, 0, none⟩), .pointer (some ⟨bt, 0, none⟩)]) ∧ Wc B bm bn bk bt gm gV n (.func (.func 25) #[] #[.pointer (some ⟨bf, 0, none⟩), .pointer (some ⟨bl, 0, none⟩)]) w0 rs (List.replicate n false) w' ∧ Below w.heap.size w w' := by
  obtain ⟨i0, hi, hz0, hz1, hz2⟩ := info_parts infoBool
  have hmf : ∀ (fn : Fn) (first cap : Array Value) (w : World), (Instr.makeFunc fn first cap).run Try.prog w = .ok (.func fn first cap) w := fun _ _ _ _ => rfl
  have HL : Hid (Lv B gV n w0 w rs) := hL
  obtain ⟨s, hs⟩ : ∃ s, w.heap.size = s := ⟨_, rfl⟩
  obtain ⟨w1, e1, hb1, hs1, B1⟩ := bx1 w #[.slice (some ⟨gV, 0, none⟩) n n] 43
  obtain ⟨w2, e2, hb2, hs2, B2⟩ := bx1 w1 #[.func (.func 25) #[] #[.pointer (some ⟨bf, 0, none⟩), .pointer (some ⟨bl, 0, none⟩)]] 46
  rw [hs] at B1 hs1
  rw [hs1] at B2 hs2
  have L2 : Hid (Lv B gV n w0 w2 rs) := (hL.below hb1).below hb2
  have X2 : Hid (Bx w2 s #[.slice (some ⟨gV, 0, none⟩) n n] 43 ∧ Bx w2 (s + 1) #[.func (.func 25) #[] #[.pointer (some ⟨bf, 0, none⟩), .pointer (some ⟨bl, 0, none⟩)]] 46 ∧ w2.heap.size = s + 2) := ⟨B1.below hb2 (by omega), B2, hs2⟩
  have HB2 : Hid (Below w.heap.size w w2) := hb1.trans (hb2.mono (by omega))
  have c1 := X2.out.1.one
  have HE1 : Hid (w.alloc (.cells #[.slice (some ⟨gV, 0, none⟩) n n] 43) = w1) := e1
  have HE2 : Hid (w1.alloc (.cells #[.func (.func 25) #[] #[.pointer (some ⟨bf, 0, none⟩), .pointer (some ⟨bl, 0, none⟩)]] 46) = w2) := e2
  clear hL hb1 hb2 B1 B2 hs1 hs2 e1 e2
  go_enter Try.func23, Try.ntmps23
  go_upto_region 1 with fail
  rw [HE1.out, HE2.out]
  go_wp2_with (at_make; refine wpList_make_full _ rfl _ _ 75 rfl B 4 i0 (.bool false) 1 Try.underlying75 hi hz0 hz1 _ _ _ _ n rfl rfl rfl rfl (by rw [hz2]; omega) (by unfold maxLen; omega) L2.out.base ?_; intro w3 hown3 hgr3; have L3 : Hid (Lv B gV n w0 w3 rs) := L2.out.below ((Below.refl _ _).grown hgr3 (Nat.le_refl _) (fun k h => by cases h)); have B3 : Hid (Below w2.heap.size w2 w3) := (Below.refl _ _).grown hgr3 (Nat.le_refl _) (fun k h => by cases h); have O3 : Hid (w3.ownsRow B 4 1 (.slice (some ⟨w2.heap.size, 0, none⟩) n n) n (List.replicate n (.bool false))) := (by have h9 := rep_made (.bool false) n; rw [show (Value.bool false).cells = #[.bool false] by rfl] at hown3; rw [h9] at hown3; exact hown3); clear hgr3 hown3)
  go_ret
  obtain ⟨w4, e4, hb4, hs4, B4⟩ := bx1 w3 #[.slice (some ⟨w2.heap.size, 0, none⟩) n n] 75
  obtain ⟨w5, e5, hb5, hs5, B5⟩ := bx1 w4 #[.func (.func 50) #[] #[.pointer (some ⟨w3.heap.size, 0, none⟩), .pointer (some ⟨s, 0, none⟩), .pointer (some ⟨w3.heap.size + 1, 0, none⟩), .pointer (some ⟨s + 1, 0, none⟩)]] 46
  rw [hs4] at B5
  rw [e4, e5]
  have hb45 : Below w3.heap.size w3 w5 := hb4.trans (hb5.mono (by omega))
  have hb25 : Below w2.heap.size w2 w5 := B3.out.trans (hb45.mono B3.out.size)
  have hw2 := X2.out.2.2
  refine ⟨w3.heap.size, s, w3.heap.size + 1, s + 1, w2.heap.size, rfl, ⟨L3.out.below hb45, ?_, B4.below hb5 (by omega), X2.out.1.below hb25 (by omega), B5, X2.out.2.1.below hb25 (by omega)⟩, HB2.out.trans (hb25.mono (by omega))⟩
  have h9 := ownsRow_below O3.out hb45 (Nat.le_refl _)
  rw [List.map_replicate]
  exact h9
end Go.Proofs.Ytgijcbipnjmhgab
