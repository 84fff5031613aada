import Derived.Test.YtgijcbipnjmhgabGreatKs0
import Derived.Laws.EntriesVeiled
import Derived.Test.YtgijcbipnjmhgabGreatGr4
import Derived.Test.YtgijcbipnjmhgabGreatHp2
import Derived.ArgAppend
namespace Go.Proofs.YtgijcbipnjmhgabGreat
open Go.ChangeShapes Go.WideShapes Go.ChangeAt Go.RowKit
set_option linter.unusedVariables false
set_option linter.unusedSimpArgs false

/-- is x one of n things? -/
def thg (n x : Int) : Bool := decide (0 ≤ x) && decide (x < n)
def thp (n : Int) (p : Pr) : Bool := thg n p.a && thg n p.b
def things (n : Int) (ps : List Pr) : Bool := decide (0 ≤ n) && decide (n ≤ 131072) && ps.all (thp n)
theorem isThing_any (n x : Int) (w : World) : Calls Tryz.prog 23 #[.int .i64 n, .int .i64 x] w fun e w' => e = .returned (.bool (thg n x)) ∧ w' = w := by
  by_cases h0 : 0 ≤ x
  · go_enter Tryz.func23, Tryz.ntmps23
    go_wp2
    go_ret
    exact ⟨by simp [thg, h0], rfl⟩
  · go_enter Tryz.func23, Tryz.ntmps23
    go_wp2
    go_ret
    exact ⟨by rw [thg, decide_eq_false (show ¬ 0 ≤ x by omega)]; rfl, rfl⟩
theorem bad_any (bn : Nat) (n a b : Int) (w : World) (hb : Bx w bn #[.int .i64 n] 3) : Calls Tryz.prog 43 #[.agg #[.int .i64 a, .int .i64 b], .pointer (some ⟨bn, 0, none⟩)] w fun e w' => e = .returned (.bool (!thp n ⟨a, b⟩)) ∧ Below w.heap.size w w' := by
  obtain ⟨w1, e1, hb1, hs1, B1⟩ := bx1 w #[.int .i64 a, .int .i64 b] 51
  obtain ⟨s, hs⟩ : ∃ s, w.heap.size = s := ⟨_, rfl⟩
  have HS : Hid (w.heap.size = s) := hs
  rw [hs] at B1
  have HE1 : Hid (w.alloc (.cells #[.int .i64 a, .int .i64 b] 51) = w1) := e1
  have HB1 : Hid (Below w.heap.size w w1) := hb1
  have c0 : w1.cell? ⟨bn, 0, none⟩ = some (.int .i64 n) := (hb.below hb1 hb.lt).one
  have c1 : w1.cell? ⟨s, 0, none⟩ = some (.int .i64 a) := B1.cell 0
  have c2 : w1.cell? ⟨s, 1, none⟩ = some (.int .i64 b) := B1.cell 1
  clear e1 hb1 hs1 B1 hb
  cases hta : thg n a with
  | false =>
    go_enter Tryz.func43, Tryz.ntmps43
    go_upto_region 1 with fail
    rw [HE1.out]
    go_wp2_with (go_at_call 23; (with_reducible refine (isThing_any n a _).mono ?_); rintro e v1 ⟨rfl, hv⟩; have hv2 := hv.symm; clear hv; subst hv2; rw [hta])
    go_ret
    exact ⟨by simp [thp, hta], HB1.out⟩
  | true =>
    go_enter Tryz.func43, Tryz.ntmps43
    go_upto_region 1 with fail
    rw [HE1.out]
    go_wp2_with (first
      | (go_at_call 23; (with_reducible refine (isThing_any n a _).mono ?_); rintro e v1 ⟨rfl, hv⟩; have hv2 := hv.symm; clear hv; subst hv2; rw [hta])
      | (go_at_call 23; (with_reducible refine (isThing_any n b _).mono ?_); rintro e v2 ⟨rfl, hv⟩; have hv2 := hv.symm; clear hv; subst hv2))
    go_ret
    exact ⟨by simp [thp, hta], HB1.out⟩

set_option maxRecDepth 1000000 in
theorem index_any (bn : Nat) (n : Int) (a : Option Addr) (cap : Nat) (ps : List Pr) (w : World) (hb : Bx w bn #[.int .i64 n] 3) (hL : LiesA w a ps) (hm : ps.length ≤ 17592186044416) : Calls Tryz.prog 69 #[.slice a ps.length cap, .func (.func 43) #[] #[.pointer (some ⟨bn, 0, none⟩)]] w fun e w' => ∃ r : Int, e = .returned (.int .i64 r) ∧ (decide (0 ≤ r) = !ps.all (thp n)) ∧ Below w.heap.size w w' := by
  have HB : Hid (Bx w bn #[.int .i64 n] 3) := hb
  have HL : Hid (LiesA w a ps) := hL
  clear hb hL
  go_enter Tryz.func69, Tryz.ntmps69
  go_wp2
  go_loopg [8] ps.length (fun gk si wr => ∃ (k : Nat), gk = ps.length - k ∧ si = .int .i64 (k : Int) ∧ k ≤ ps.length ∧ (ps.take k).all (thp n) = true ∧ Below w.heap.size w wr)
  case atStart => exact ⟨0, rfl, rfl, Nat.zero_le _, rfl, Below.refl _ _⟩
  case round =>
    obtain ⟨k, hgk, rfl, hk, hall, hbel⟩ := hrel
    have HBL : Hid (Below w.heap.size w wr) := hbel
    have HALL : Hid ((ps.take k).all (thp n) = true) := hall
    clear hbel hall
    by_cases hkp : k < ps.length
    · have hkp' : (k : Int) < (ps.length : Int) := by omega
      obtain ⟨p, hp⟩ : ∃ p, ps[k]? = some p := ⟨_, List.getElem?_eq_getElem hkp⟩
      obtain ⟨b, o, ha, hLi⟩ : ∃ b o, a = some ⟨b, o, none⟩ ∧ Lies w b o ps := by
        rcases HL.out with h | h
        · rw [h] at hkp; exact absurd hkp (Nat.not_lt_zero _)
        · exact h
      subst ha
      obtain ⟨pa, pb⟩ := p
      obtain ⟨d0, d1⟩ := (hLi.below HBL.out hLi.1).pr hp
      simp only at d0 d1
      have HP : Hid (ps[k]? = some ⟨pa, pb⟩) := hp
      have hBr : Hid (Bx wr bn #[.int .i64 n] 3) := HB.out.below HBL.out HB.out.lt
      clear hLi hp
      cases hbad : thp n ⟨pa, pb⟩ with
      | true =>
        go_wp2_with (go_at_call 43; (with_reducible refine (bad_any bn n pa pb wr hBr.out).mono ?_); rintro e v1 ⟨rfl, hb1⟩; rw [hbad]; have HB1 : Hid (Below w.heap.size w v1) := HBL.out.trans (hb1.mono HBL.out.size); clear hb1)
        go_roundg (ps.length - (k + 1))
        case measure => omega
        case rel =>
          refine ⟨k + 1, rfl, by go_num, by omega, ?_, HB1.out⟩
          rw [List.take_add_one, HP.out, List.all_append, HALL.out]
          simp [hbad]
      | false =>
        go_wp2_with (go_at_call 43; (with_reducible refine (bad_any bn n pa pb wr hBr.out).mono ?_); rintro e v1 ⟨rfl, hb1⟩; rw [hbad]; have HB1 : Hid (Below w.heap.size w v1) := HBL.out.trans (hb1.mono HBL.out.size); clear hb1)
        go_ret
        refine ⟨(k : Int), rfl, ?_, HB1.out⟩
        have hall : ps.all (thp n) = false := by
          rw [List.all_eq_false]
          exact ⟨_, List.mem_of_getElem? HP.out, by simp [hbad]⟩
        rw [hall]
        simp
    · have hkp' : ¬ (k : Int) < (ps.length : Int) := by omega
      go_wp2
      go_ret
      refine ⟨-1, rfl, ?_, HBL.out⟩
      have h9 := HALL.out
      rw [List.take_of_length_le (by omega)] at h9
      rw [h9]
      decide
theorem contains_any (bn : Nat) (n : Int) (a : Option Addr) (cap : Nat) (ps : List Pr) (w : World) (hb : Bx w bn #[.int .i64 n] 3) (hL : LiesA w a ps) (hm : ps.length ≤ 17592186044416) : Calls Tryz.prog 42 #[.slice a ps.length cap, .func (.func 43) #[] #[.pointer (some ⟨bn, 0, none⟩)]] w fun e w' => e = .returned (.bool (!ps.all (thp n))) ∧ Below w.heap.size w w' := by
  have IX : Hid (Calls Tryz.prog 69 #[.slice a ps.length cap, .func (.func 43) #[] #[.pointer (some ⟨bn, 0, none⟩)]] w fun e w' => ∃ r : Int, e = .returned (.int .i64 r) ∧ (decide (0 ≤ r) = !ps.all (thp n)) ∧ Below w.heap.size w w') := index_any bn n a cap ps w hb hL hm
  clear hb hL
  go_enter Tryz.func42, Tryz.ntmps42
  go_wp2_with (go_at_call 69; (with_reducible refine IX.out.mono ?_); rintro e v1 ⟨r, rfl, hr, hb1⟩; have HB1 : Hid (Below w.heap.size w v1) := hb1; have HR : Hid (decide (0 ≤ r) = !ps.all (thp n)) := hr; clear hb1 hr)
  go_ret
  refine ⟨?_, HB1.out⟩
  show Ending.returned (.bool (decide (0 ≤ r))) = _
  rw [HR.out]
theorem areThings_any (n : Int) (a : Option Addr) (cap : Nat) (ps : List Pr) (w : World) (hL : LiesA w a ps) (hm : ps.length ≤ 17592186044416) : Calls Tryz.prog 17 #[.int .i64 n, .slice a ps.length cap] w fun e w' => e = .returned (.bool (things n ps)) ∧ Below w.heap.size w w' := by
  have hmf : ∀ (fn : Fn) (first cap : Array Value) (w : World), (Instr.makeFunc fn first cap).run Tryz.prog w = .ok (.func fn first cap) w := fun _ _ _ _ => rfl
  obtain ⟨w1, e1, hb1, hs1, B1⟩ := bx1 w #[.int .i64 n] 3
  obtain ⟨s, hs⟩ : ∃ s, w.heap.size = s := ⟨_, rfl⟩
  have HS : Hid (w.heap.size = s) := hs
  rw [hs] at B1
  have HE1 : Hid (w.alloc (.cells #[.int .i64 n] 3) = w1) := e1
  have HB1 : Hid (Below w.heap.size w w1) := hb1
  have c0 : w1.cell? ⟨s, 0, none⟩ = some (.int .i64 n) := B1.one
  have CT : Hid (Calls Tryz.prog 42 #[.slice a ps.length cap, .func (.func 43) #[] #[.pointer (some ⟨s, 0, none⟩)]] w1 fun e w' => e = .returned (.bool (!ps.all (thp n))) ∧ Below w1.heap.size w1 w') := contains_any s n a cap ps w1 B1 (hL.below hb1) hm
  clear e1 hb1 hs1 B1 hL
  by_cases h0 : 0 ≤ n
  · by_cases h1 : n ≤ 131072
    · go_enter Tryz.func17, Tryz.ntmps17
      go_upto_region 1 with fail
      rw [HE1.out]
      go_wp2_with (go_at_call 42; (with_reducible refine CT.out.mono ?_); rintro e v1 ⟨rfl, hb2⟩; have HB2 : Hid (Below w1.heap.size w1 v1) := hb2; clear hb2)
      go_ret
      exact ⟨by simp [things, h0, h1], HB1.out.trans (HB2.out.mono HB1.out.size)⟩
    · go_enter Tryz.func17, Tryz.ntmps17
      go_upto_region 1 with fail
      rw [HE1.out]
      go_wp2
      go_ret
      exact ⟨by rw [things, decide_eq_false (show ¬ n ≤ 131072 by omega)]; simp, by rw [← HS.out]; exact HB1.out⟩
  · go_enter Tryz.func17, Tryz.ntmps17
    go_upto_region 1 with fail
    rw [HE1.out]
    go_wp2
    go_ret
    exact ⟨by rw [things, decide_eq_false (show ¬ 0 ≤ n by omega)]; simp, by rw [← HS.out]; exact HB1.out⟩
end Go.Proofs.YtgijcbipnjmhgabGreat

namespace Go.Proofs.YtgijcbipnjmhgabGreat
set_option linter.unusedVariables false
set_option linter.unusedSimpArgs false

theorem things_spec {n : Nat} {ps : List Pr} (h : things (n : Int) ps = true) : n ≤ 131072 ∧ ∀ p ∈ ps, (0 ≤ p.a ∧ p.a < (n : Int)) ∧ (0 ≤ p.b ∧ p.b < (n : Int)) := by
  unfold things at h
  simp only [Bool.and_eq_true, decide_eq_true_eq, List.all_eq_true] at h
  refine ⟨by omega, fun p hp => ?_⟩
  have := h.2 p hp
  unfold thp thg at this
  simp only [Bool.and_eq_true, decide_eq_true_eq] at this
  exact this
theorem rep_false {n y : Nat} (h : y < n) : (List.replicate n false)[y]? = some false := by rw [List.getElem?_replicate, if_pos h]
/-- what a first walk tells: all that can be come to, each once -/
theorem Dq.all {ps : List Pr} {n x : Nat} {m' : List Bool} {t' : List Nat} (h : Dq ps (Rch ps x) (List.replicate n false) [] m' t') (hx : m'[x]? = some true) : t'.Nodup ∧ ∀ y, y ∈ t' ↔ Rch ps x y := by
  obtain ⟨s, hs, hn, hy, hz⟩ := h.told
  rw [List.nil_append] at hs
  subst hs
  have hlt : ∀ a : Nat, m'[a]? = some true → (List.replicate n false)[a]? = some false := fun a ha => by
    have := (List.getElem?_eq_some_iff.1 ha).1
    rw [h.len, List.length_replicate] at this
    exact rep_false this
  have fwd : ∀ a b : Nat, Rch ps a b → m'[a]? = some true → m'[b]? = some true := by
    intro a b hab
    induction hab with
    | refl => exact id
    | step e _ ih => exact fun ha => ih (h.closed _ _ (hlt _ ha) ha e)
  refine ⟨hn, fun y => ⟨fun hyt => ?_, fun hr => ?_⟩⟩
  · rcases h.reach y (hy y hyt).2 with h1 | h1
    · exact (tf h1 (hy y hyt).1).elim
    · exact h1
  · rcases hz y (fwd x y hr hx) with h1 | h1
    · exact (tf h1 (hlt y (fwd x y hr hx))).elim
    · exact h1
theorem sorted_unique : ∀ l m : List Int, l.Pairwise (· < ·) → m.Pairwise (· < ·) → (∀ y, y ∈ l ↔ y ∈ m) → l = m
  | [], [], _, _, _ => rfl
  | [], b :: m, _, _, h => by have := (h b).2 (by simp); cases this
  | a :: l, [], _, _, h => by have := (h a).1 (by simp); cases this
  | a :: l, b :: m, hl, hm, h => by
    rw [List.pairwise_cons] at hl hm
    have hab : a = b := by
      have h1 := (h a).1 (by simp)
      have h2 := (h b).2 (by simp)
      rcases List.mem_cons.1 h1 with h1 | h1
      · exact h1
      · rcases List.mem_cons.1 h2 with h2 | h2
        · exact h2.symm
        · have := hl.1 b h2
          have := hm.1 a h1
          omega
    subst hab
    rw [sorted_unique l m hl.2 hm.2 (fun y => ?_)]
    have hy := h y
    simp only [List.mem_cons] at hy
    constructor
    · intro h1
      rcases hy.1 (.inr h1) with h2 | h2
      · have := hl.1 y h1; omega
      · exact h2
    · intro h1
      rcases hy.2 (.inr h1) with h2 | h2
      · have := hm.1 y h1; omega
      · exact h2
theorem sorted_strict (xs : List Int) (hn : xs.Nodup) : (xs.mergeSort fun x y => decide (x ≤ y)).Pairwise (· < ·) ∧ ∀ y, y ∈ (xs.mergeSort fun x y => decide (x ≤ y)) ↔ y ∈ xs := by
  have hp := List.mergeSort_perm xs (fun x y => decide (x ≤ y))
  refine ⟨?_, fun y => hp.mem_iff⟩
  have hs := List.pairwise_mergeSort (le := fun x y : Int => decide (x ≤ y)) (fun a b c h1 h2 => by simp at h1 h2 ⊢; omega) (fun a b => by simp; omega) xs
  have hd := hp.nodup_iff.2 hn
  have h2 := List.Pairwise.and hs hd
  refine h2.imp (fun h => ?_)
  simp at h
  omega
end Go.Proofs.YtgijcbipnjmhgabGreat

namespace Go.Proofs.YtgijcbipnjmhgabGreat
open Go.ChangeShapes Go.WideShapes Go.ChangeAt Go.RowKit
set_option linter.unusedVariables false
set_option linter.unusedSimpArgs false

set_option maxRecDepth 1000000 in
theorem walkerR_any (B gV n bo : Nat) (w0 w : World) (rs : List Rr) (hn : n ≤ 131072) (hL : Lv B gV n w0 w rs) :
    Calls Tryz.prog 24 #[.slice (some ⟨gV, 0, none⟩) n n, .func (.func 25) #[] #[.pointer (some ⟨bo, 0, none⟩)]] w fun e w' => ∃ bm bn bk bt gm, e = .returned (.func (.func 57) #[] #[.pointer (some ⟨bm, 0, none⟩), .pointer (some ⟨bn, 0, none⟩), .pointer (some ⟨bk, 0, none⟩), .pointer (some ⟨bt, 0, none⟩)]) ∧ Wc B bm bn bk bt gm gV n (.func (.func 25) #[] #[.pointer (some ⟨bo, 0, none⟩)]) w0 rs (List.replicate n false) w' ∧ Below w.heap.size w w' := by
  obtain ⟨i0, hi, hz0, hz1, hz2⟩ := info_parts infoBool
  have hmf : ∀ (fn : Fn) (first cap : Array Value) (w : World), (Instr.makeFunc fn first cap).run Tryz.prog w = .ok (.func fn first cap) w := fun _ _ _ _ => rfl
  have HL : Hid (Lv B gV n w0 w rs) := hL
  obtain ⟨s, hs⟩ : ∃ s, w.heap.size = s := ⟨_, rfl⟩
  obtain ⟨w1, e1, hb1, hs1, B1⟩ := bx1 w #[.slice (some ⟨gV, 0, none⟩) n n] 55
  obtain ⟨w2, e2, hb2, hs2, B2⟩ := bx1 w1 #[.func (.func 25) #[] #[.pointer (some ⟨bo, 0, none⟩)]] 59
  rw [hs] at B1 hs1
  rw [hs1] at B2 hs2
  have L2 : Hid (Lv B gV n w0 w2 rs) := (hL.below hb1).below hb2
  have X2 : Hid (Bx w2 s #[.slice (some ⟨gV, 0, none⟩) n n] 55 ∧ Bx w2 (s + 1) #[.func (.func 25) #[] #[.pointer (some ⟨bo, 0, none⟩)]] 59 ∧ w2.heap.size = s + 2) := ⟨B1.below hb2 (by omega), B2, hs2⟩
  have HB2 : Hid (Below w.heap.size w w2) := hb1.trans (hb2.mono (by omega))
  have c1 := X2.out.1.one
  have HE1 : Hid (w.alloc (.cells #[.slice (some ⟨gV, 0, none⟩) n n] 55) = w1) := e1
  have HE2 : Hid (w1.alloc (.cells #[.func (.func 25) #[] #[.pointer (some ⟨bo, 0, none⟩)]] 59) = w2) := e2
  clear hL hb1 hb2 B1 B2 hs1 hs2 e1 e2
  go_enter Tryz.func24, Tryz.ntmps24
  go_upto_region 1 with fail
  rw [HE1.out, HE2.out]
  go_wp2_with (at_make; refine wpList_make_full _ rfl _ _ 70 rfl B 4 i0 (.bool false) 1 Tryz.underlying70 hi hz0 hz1 _ _ _ _ n rfl rfl rfl rfl (by rw [hz2]; omega) (by unfold maxLen; omega) L2.out.base ?_; intro w3 hown3 hgr3; have L3 : Hid (Lv B gV n w0 w3 rs) := L2.out.below ((Below.refl _ _).grown hgr3 (Nat.le_refl _) (fun k h => by cases h)); have B3 : Hid (Below w2.heap.size w2 w3) := (Below.refl _ _).grown hgr3 (Nat.le_refl _) (fun k h => by cases h); have O3 : Hid (w3.ownsRow B 4 1 (.slice (some ⟨w2.heap.size, 0, none⟩) n n) n (List.replicate n (.bool false))) := (by have h9 := rep_made (.bool false) n; rw [show (Value.bool false).cells = #[.bool false] by rfl] at hown3; rw [h9] at hown3; exact hown3); clear hgr3 hown3)
  go_ret
  obtain ⟨w4, e4, hb4, hs4, B4⟩ := bx1 w3 #[.slice (some ⟨w2.heap.size, 0, none⟩) n n] 70
  obtain ⟨w5, e5, hb5, hs5, B5⟩ := bx1 w4 #[.func (.func 57) #[] #[.pointer (some ⟨w3.heap.size, 0, none⟩), .pointer (some ⟨s, 0, none⟩), .pointer (some ⟨w3.heap.size + 1, 0, none⟩), .pointer (some ⟨s + 1, 0, none⟩)]] 59
  rw [hs4] at B5
  rw [e4, e5]
  have hb45 : Below w3.heap.size w3 w5 := hb4.trans (hb5.mono (by omega))
  have hb25 : Below w2.heap.size w2 w5 := B3.out.trans (hb45.mono B3.out.size)
  have hw2 := X2.out.2.2
  refine ⟨w3.heap.size, s, w3.heap.size + 1, s + 1, w2.heap.size, rfl, ⟨L3.out.below hb45, ?_, B4.below hb5 (by omega), X2.out.1.below hb25 (by omega), B5, X2.out.2.1.below hb25 (by omega)⟩, HB2.out.trans (hb25.mono (by omega))⟩
  have h9 := ownsRow_below O3.out hb45 (Nat.le_refl _)
  rw [List.map_replicate]
  exact h9
end Go.Proofs.YtgijcbipnjmhgabGreat

namespace Go.Proofs.YtgijcbipnjmhgabGreat
set_option linter.unusedVariables false
set_option linter.unusedSimpArgs false

/-- the pairs both ways round -/
def both (ps : List Pr) : List Pr := ps ++ ps.map swapP
theorem both_mem {ps : List Pr} {a b : Int} : (⟨a, b⟩ : Pr) ∈ both ps ↔ (⟨a, b⟩ : Pr) ∈ ps ∨ (⟨b, a⟩ : Pr) ∈ ps := by
  unfold both
  rw [List.mem_append, List.mem_map]
  constructor
  · rintro (h | ⟨p, hp, he⟩)
    · exact .inl h
    · cases p
      simp only [swapP, Pr.mk.injEq] at he
      obtain ⟨rfl, rfl⟩ := he
      exact .inr hp
  · rintro (h | h)
    · exact .inl h
    · exact .inr ⟨_, h, rfl⟩
theorem both_symm {ps : List Pr} {a b : Int} (h : (⟨a, b⟩ : Pr) ∈ both ps) : (⟨b, a⟩ : Pr) ∈ both ps := both_mem.2 ((both_mem.1 h).symm)
theorem Rch.symm {ps : List Pr} {x y : Nat} (h : Rch (both ps) x y) : Rch (both ps) y x := by
  induction h with
  | refl => exact .refl _
  | step e _ ih => exact ih.trans (.step (both_symm e) (.refl _))
/-- the classes so far: M: what was met; L: the labels; all below x are met -/
structure Cs (ss : List Pr) (x : Nat) (M : Nat → Prop) (L : Nat → Option Int) : Prop where
  closed : ∀ y y' : Nat, M y → (⟨(y : Int), (y' : Int)⟩ : Pr) ∈ ss → M y'
  lab : ∀ y : Nat, M y → ∃ r : Nat, L y = some (r : Int) ∧ Rch ss y r ∧ ∀ z, Rch ss y z → r ≤ z
  all : ∀ y : Nat, y < x → M y
theorem Cs.fwd {ss : List Pr} {x : Nat} {M : Nat → Prop} {L : Nat → Option Int} (h : Cs ss x M L) {a b : Nat} (hr : Rch ss a b) (ha : M a) : M b := by
  induction hr with
  | refl => exact ha
  | step e _ ih => exact ih (h.closed _ _ ha e)
theorem Cs.step {ps : List Pr} {x : Nat} {M M' : Nat → Prop} {L L' : Nat → Option Int} (h : Cs (both ps) x M L) (hM : ∀ y, M y → M' y) (hx : M' x) (hc : ∀ y y' : Nat, M' y → ¬ M y → (⟨(y : Int), (y' : Int)⟩ : Pr) ∈ both ps → M' y')
    (hr : ∀ y, M' y → ¬ M y → Rch (both ps) x y) (h1 : ∀ y, M y → L' y = L y) (h2 : ∀ y, M' y → ¬ M y → L' y = some (x : Int)) : Cs (both ps) (x + 1) M' L' := by
  refine ⟨fun y y' hy he => ?_, fun y hy => ?_, fun y hy => ?_⟩
  · by_cases hm : M y
    · exact hM _ (h.closed y y' hm he)
    · exact hc y y' hy hm he
  · by_cases hm : M y
    · obtain ⟨r, h3, h4⟩ := h.lab y hm
      exact ⟨r, (h1 y hm).trans h3, h4⟩
    · refine ⟨x, h2 y hy hm, (hr y hy hm).symm, fun z hz => ?_⟩
      rcases Nat.lt_or_ge z x with hzx | hzx
      · exact absurd (h.fwd hz.symm (h.all z hzx)) hm
      · exact hzx
  · rcases Nat.lt_succ_iff_lt_or_eq.1 hy with h3 | h3
    · exact hM y (h.all y h3)
    · rw [h3]; exact hx
theorem Cs.skip {ps : List Pr} {x : Nat} {M : Nat → Prop} {L : Nat → Option Int} (h : Cs ps x M L) (hx : M x) : Cs ps (x + 1) M L :=
  ⟨h.closed, h.lab, fun y hy => by
    rcases Nat.lt_succ_iff_lt_or_eq.1 hy with h3 | h3
    · exact h.all y h3
    · rw [h3]; exact hx⟩
/-- the list of the classes -/
def CL (ss : List Pr) (n : Nat) (l : List Int) : Prop := l.length = n ∧ ∀ y : Nat, y < n → ∃ r : Nat, l[y]? = some (r : Int) ∧ Rch ss y r ∧ ∀ z, Rch ss y z → r ≤ z
theorem CL.one {ss : List Pr} {n : Nat} {l k : List Int} (h : CL ss n l) (g : CL ss n k) : l = k := by
  apply List.ext_getElem?
  intro y
  by_cases hy : y < n
  · obtain ⟨r, h1, h2, h3⟩ := h.2 y hy
    obtain ⟨s, g1, g2, g3⟩ := g.2 y hy
    have := h3 s g2
    have := g3 r h2
    rw [h1, g1, show r = s by omega]
  · rw [List.getElem?_eq_none (by rw [h.1]; omega), List.getElem?_eq_none (by rw [g.1]; omega)]
theorem Cs.fin {ss : List Pr} {n : Nat} {M : Nat → Prop} {l : List Int} (h : Cs ss n M (fun y => l[y]?)) (hl : l.length = n) : CL ss n l := ⟨hl, fun y hy => h.lab y (h.all y hy)⟩
theorem Cs.start (ss : List Pr) (L : Nat → Option Int) (M : Nat → Prop) (hM : ∀ y, ¬ M y) : Cs ss 0 M L := ⟨fun y _ h => absurd h (hM y), fun y h => absurd h (hM y), fun y h => absurd h (Nat.not_lt_zero _)⟩
/-- the labels of what was told -/
def lbl (f : Int) (l : List Int) (t : List Nat) : List Int := t.foldl (fun l y => l.set y f) l
theorem lbl_snoc (f : Int) (l : List Int) (t : List Nat) (x : Nat) : lbl f l (t ++ [x]) = (lbl f l t).set x f := by simp [lbl]
theorem lbl_len (f : Int) : ∀ (t : List Nat) (l : List Int), (lbl f l t).length = l.length
  | [], l => rfl
  | y :: t, l => by
    have := lbl_len f t (l.set y f)
    rw [List.length_set] at this
    exact this
theorem lbl_get (f : Int) : ∀ (t : List Nat) (l : List Int) (y : Nat), (lbl f l t)[y]? = if y ∈ t ∧ y < l.length then some f else l[y]?
  | [], l, y => by simp [lbl]
  | z :: t, l, y => by
    have := lbl_get f t (l.set z f) y
    rw [List.length_set] at this
    show (lbl f (l.set z f) t)[y]? = _
    rw [this, List.getElem?_set]
    by_cases h1 : y ∈ t <;> by_cases h2 : y < l.length <;> by_cases h3 : z = y <;> simp [h1, h2, h3]
    · intro h4; exact absurd h4.symm h3
end Go.Proofs.YtgijcbipnjmhgabGreat

namespace Go.Proofs.YtgijcbipnjmhgabGreat
open Go.ChangeShapes Go.WideShapes Go.ChangeAt Go.RowKit
set_option linter.unusedVariables false
set_option linter.unusedSimpArgs false

/-- a row of ints of the call's own, from some place of its block on -/
def Qu (B : Nat) (w : World) (v : Value) (xs : List Nat) : Prop := ∃ g off cap cur, v = .slice (some ⟨g, off, none⟩) xs.length cap ∧ B ≤ g ∧ w.heap[g]? = some (.cells cur 3 (0, 0)) ∧ xs.length ≤ cap ∧ off + cap ≤ cur.size ∧ ∀ (j x : Nat), xs[j]? = some x → cur[off + j]? = some (.int .i64 (x : Int))
theorem cell_cur {w : World} {g i : Nat} {cur : Array Value} {e : TypeId} (h : w.heap[g]? = some (.cells cur e (0, 0))) : w.cell? ⟨g, i, none⟩ = cur[i]? ∧ w.frozen? ⟨g, i, none⟩ = false := by
  simp [World.cell?, World.frozen?, h]
theorem Qu.below {B C : Nat} {w w' : World} {v : Value} {xs : List Nat} (h : Qu B w v xs) (hb : Below C w w') (hC : w.heap.size ≤ C) : Qu B w' v xs := by
  obtain ⟨g, off, cap, cur, h1, h2, h3, h4, h5, h6⟩ := h
  exact ⟨g, off, cap, cur, h1, h2, (hb.block g (Nat.lt_of_lt_of_le (lt_of_block h3) hC)).trans h3, h4, h5, h6⟩
/-- another block is written -/
theorem Qu.far {B g i : Nat} {w : World} {v x : Value} {xs : List Nat} {cs : Array Value} {t : TypeId} {fz : Nat × Nat} (h : Qu B w v xs) (hg : w.heap[g]? = some (.cells cs t fz)) (ht : t ≠ 3) : Qu B (w.setCell ⟨g, i, none⟩ x) v xs := by
  obtain ⟨g1, off, cap, cur, h1, h2, h3, h4, h5, h6⟩ := h
  have hne : g1 ≠ g := fun e => by rw [e, hg] at h3; cases h3; exact ht rfl
  exact ⟨g1, off, cap, cur, h1, h2, (heap_setCell_other w ⟨g, i, none⟩ g1 x hne).trans h3, h4, h5, h6⟩
theorem Qu.first (B : Nat) (w : World) (x : Nat) (hB : B ≤ w.heap.size) : Qu B (w.alloc (.cells #[.int .i64 (x : Int)] 3)) (.slice (some ⟨w.heap.size, 0, none⟩) 1 1) [x] :=
  ⟨w.heap.size, 0, 1, _, rfl, hB, heap_alloc_new w _, Nat.le_refl _, Nat.le_refl _, fun j y hj => by
    cases j with
    | zero => simp at hj; subst hj; rfl
    | succ j => simp at hj⟩
/-- the first one is taken off -/
theorem Qu.pop {B : Nat} {w : World} {v : Value} {x : Nat} {xs : List Nat} (h : Qu B w v (x :: xs)) : ∃ g off cap, v = .slice (some ⟨g, off, none⟩) (xs.length + 1) cap ∧ xs.length + 1 ≤ cap ∧ w.cell? ⟨g, off, none⟩ = some (.int .i64 (x : Int)) ∧ (cap = 1 → Qu B w (.slice (some ⟨g, off, none⟩) xs.length 0) xs) ∧ Qu B w (.slice (some ⟨g, off + 1, none⟩) xs.length (cap - 1)) xs := by
  obtain ⟨g, off, cap, cur, h1, h2, h3, h4, h5, h6⟩ := h
  simp only [List.length_cons] at h1 h4
  refine ⟨g, off, cap, h1, h4, ?_, fun hc => ?_, ⟨g, off + 1, cap - 1, cur, rfl, h2, h3, by omega, by omega, fun j y hj => ?_⟩⟩
  · rw [(cell_cur h3).1]
    exact h6 0 x rfl
  · have hx : xs = [] := List.eq_nil_of_length_eq_zero (by omega)
    subst hx
    exact ⟨g, off, 0, cur, rfl, h2, h3, Nat.le_refl _, by omega, fun j y hj => by cases hj⟩
  · have := h6 (j + 1) y (by simpa using hj)
    rw [show off + 1 + j = off + (j + 1) by omega]
    exact this
/-- one more at the end, for the walk -/
theorem wpList_que {P : Program} (w : World) {ops : Array Oper} {rest : List Oper} {o : Oper} {a : Act} {Q : Exit → Act → World → Prop}
    (hg : o.guard = none) (s x : Operand) (t : TypeId) (hop : o.op = Op.call { callee := Callee.builtin Builtin.append, args := #[s, x], argTypes := #[t, t] })
    (i : TypeInfo) (z : Value) (h1 : P.underlying t = some (.slice 3)) (h2 : P.info? 3 = some i) (h3 : i.zero = some z) (h4 : i.size = 1) (h5 : i.bytes = 8) (h6 : z.cells.size = 1)
    (B : Nat) (v : Value) (xs : List Nat) (y : Nat) (hs : a.eval s = v) (hq : Qu B w v xs) (hB : B ≤ w.heap.size) (ad : Addr) (hx : a.eval x = .slice (some ad) 1 1) (hc : w.cell? ad = some (.int .i64 (y : Int))) (hl : xs.length ≤ 131072)
    (hK : ∀ v' w', Qu B w' v' (xs ++ [y]) → w.grownBy w' v.ownBlock → wpList P ops Q rest (a.put o.dst v') w') : wpList P ops Q (o :: rest) a w := by
  obtain ⟨g, off, cap, cur, rfl, hgB, hh, hle, hsz, hel⟩ := hq
  have hadd : ∀ j u, [Value.int .i64 (y : Int)][j]? = some u → w.cell? (ad.add j) = some u := fun j u hj => by
    cases j with
    | zero => simp at hj; subst hj; unfold Addr.add; simpa using hc
    | succ j => simp at hj
  refine wpList_append_arg w hg s x t hop 3 i z 1 8 h1 h2 h3 h4 h5 h6 (by decide) g off xs.length cap (xs.map fun (x : Nat) => Value.int .i64 (x : Int)) hs (by simp) (fun j u hj => ?_) ad 1 1 [Value.int .i64 (y : Int)] hx rfl hadd (by intro u hu; simp at hu; subst hu; rfl) (fun hr j hj => ?_) (by unfold maxLen; omega) (by omega) (fun hr => ?_) (fun hr v' w' hown hgr => ?_)
  · rw [List.getElem?_map] at hj
    obtain ⟨x1, hx1, rfl⟩ := Option.map_eq_some_iff.1 hj
    rw [(cell_cur hh).1]
    exact hel j x1 hx1
  · have hj0 : j = 0 := by simp at hj; exact hj
    subst hj0
    rw [(cell_cur hh).1, (cell_cur hh).2]
    exact ⟨by rw [Array.getElem?_eq_getElem (by omega)]; rfl, rfl⟩
  · refine hK _ _ ⟨g, off, cap, (cur.setIfInBounds (off + xs.length) (.int .i64 (y : Int))), by simp, hgB, ?_, by simp; omega, by simp; omega, fun j x1 hj => ?_⟩ ⟨rfl, rfl, rfl, by simp [World.setCells, World.setCell], fun k hk hne => ?_⟩
    · show (w.setCell ⟨g, off + xs.length * 1, none⟩ _).heap[g]? = _
      rw [Nat.mul_one]
      have := heap_setCell_same w g (off + xs.length) _ _ (.int .i64 (y : Int)) hh
      simpa using this
    · by_cases hjl : j < xs.length
      · rw [List.getElem?_append_left hjl] at hj
        rw [Array.getElem?_setIfInBounds, if_neg (by omega)]
        exact hel j x1 hj
      · rw [List.getElem?_append_right (by omega)] at hj
        have hj0 : j = xs.length := by
          have := (List.getElem?_eq_some_iff.1 hj).1
          simp at this
          omega
        subst hj0
        simp at hj
        subst hj
        rw [Array.getElem?_setIfInBounds, if_pos rfl, if_pos (by omega)]
    · show (w.setCell ⟨g, off + xs.length * 1, none⟩ _).heap[k]? = _
      exact heap_setCell_other w _ k _ (fun e => hne (by rw [e]; rfl))
  · refine hK v' w' ?_ ⟨hgr.os, hgr.tape, hgr.output, hgr.size, fun k hk _ => hgr.block k hk (by simp)⟩
    rcases hown.2 with ⟨_, h0⟩ | ⟨g', cap', cur', rfl, hb', hh', hn', hc', hs', ht'⟩
    · omega
    · refine ⟨g', 0, cap', cur', by simp, Nat.le_trans hB hb', hh', by simpa using hn', by omega, fun j x1 hj => ?_⟩
      have hjl := (List.getElem?_eq_some_iff.1 hj).1
      simp only [List.length_append, List.length_cons, List.length_nil] at hjl
      have h9 : (cur'.toList.take ((xs.length + 1) * 1))[j]? = ((xs.map fun (x : Nat) => Value.int .i64 (x : Int)) ++ [Value.int .i64 (y : Int)])[j]? := by rw [ht']
      rw [List.getElem?_take, if_pos (by omega)] at h9
      rw [Nat.zero_add, ← Array.getElem?_toList, h9]
      have h8 : ((xs.map fun (x : Nat) => Value.int .i64 (x : Int)) ++ [Value.int .i64 (y : Int)]) = (xs ++ [y]).map fun (x : Nat) => Value.int .i64 (x : Int) := by simp
      rw [h8, List.getElem?_map, hj]
      rfl
end Go.Proofs.YtgijcbipnjmhgabGreat

namespace Go.Proofs.YtgijcbipnjmhgabGreat
open Go.ChangeShapes Go.WideShapes Go.ChangeAt Go.RowKit
set_option linter.unusedVariables false
set_option linter.unusedSimpArgs false

set_option maxRecDepth 1000000 in
set_option maxHeartbeats 4000000 in
theorem rbad_any (n : Int) (a : Option Addr) (cap : Nat) (ps : List Pr) (w : World) (hL : LiesA w a ps) (hm : ps.length ≤ 17592186044416) : Calls Tryz.prog 29 #[.int .i64 n, .slice a ps.length cap] w fun e w' => e = .returned (.bool (!things n ps)) ∧ w' = w := by
  have HL : Hid (LiesA w a ps) := hL
  clear hL
  by_cases h0 : n < 0
  · go_enter Tryz.func29, Tryz.ntmps29
    go_wp2
    go_ret
    exact ⟨by rw [things, decide_eq_false (show ¬ 0 ≤ n by omega)]; rfl, rfl⟩
  · by_cases h1 : 131072 < n
    · go_enter Tryz.func29, Tryz.ntmps29
      go_wp2
      go_ret
      exact ⟨by rw [things, decide_eq_false (show ¬ n ≤ 131072 by omega)]; simp, rfl⟩
    · have HT : Hid (things n ps = ps.all (thp n)) := by unfold Hid things; rw [decide_eq_true (show 0 ≤ n by omega), decide_eq_true (show n ≤ 131072 by omega)]; rfl
      go_enter Tryz.func29, Tryz.ntmps29
      go_wp2
      go_loopg [5] ps.length (fun gk si wr => ∃ (k : Nat), gk = ps.length - k ∧ si = .int .i64 (k : Int) ∧ k ≤ ps.length ∧ (ps.take k).all (thp n) = true ∧ wr = w)
      case atStart => exact ⟨0, rfl, rfl, Nat.zero_le _, rfl, rfl⟩
      case round =>
        obtain ⟨k, hgk, rfl, hk, hall, hw⟩ := hrel
        have hw2 := hw.symm
        clear hw
        subst hw2
        have HALL : Hid ((ps.take k).all (thp n) = true) := hall
        clear hall
        by_cases hkp : k < ps.length
        · have hkp' : (k : Int) < (ps.length : Int) := by omega
          obtain ⟨p, hp⟩ : ∃ p, ps[k]? = some p := ⟨_, List.getElem?_eq_getElem hkp⟩
          obtain ⟨b, o, ha, hLi⟩ : ∃ b o, a = some ⟨b, o, none⟩ ∧ Lies w b o ps := by
            rcases HL.out with h | h
            · rw [h] at hkp; exact absurd hkp (Nat.not_lt_zero _)
            · exact h
          subst ha
          obtain ⟨pa, pb⟩ := p
          obtain ⟨d0, d1⟩ := hLi.pr hp
          simp only at d0 d1
          have HP : Hid (ps[k]? = some ⟨pa, pb⟩) := hp
          have HBAD : Hid (thp n ⟨pa, pb⟩ = false → things n ps = false) := fun hbad => by
            rw [HT.out, List.all_eq_false]
            exact ⟨_, List.mem_of_getElem? HP.out, by simp [hbad]⟩
          clear hLi hp
          by_cases ha0 : pa < 0
          · go_wp2
            go_ret
            exact ⟨by rw [HBAD.out (by unfold thp thg; rw [decide_eq_false (show ¬ 0 ≤ pa by omega)]; rfl)]; rfl, rfl⟩
          · by_cases ha1 : n ≤ pa
            · go_wp2
              go_ret
              exact ⟨by rw [HBAD.out (by unfold thp thg; rw [decide_eq_false (show ¬ pa < n by omega)]; simp)]; rfl, rfl⟩
            · by_cases hb0 : pb < 0
              · go_wp2
                go_ret
                exact ⟨by rw [HBAD.out (by unfold thp thg; rw [decide_eq_false (show ¬ 0 ≤ pb by omega)]; simp)]; rfl, rfl⟩
              · by_cases hb1 : n ≤ pb
                · go_wp2
                  go_ret
                  exact ⟨by rw [HBAD.out (by unfold thp thg; rw [decide_eq_false (show ¬ pb < n by omega)]; simp)]; rfl, rfl⟩
                · have HG : Hid (thp n ⟨pa, pb⟩ = true) := by unfold Hid thp thg; simp; omega
                  go_wp2
                  go_roundg (ps.length - (k + 1))
                  case measure => omega
                  case rel =>
                    refine ⟨k + 1, rfl, by go_num, by omega, ?_, rfl⟩
                    rw [List.take_add_one, HP.out, List.all_append, HALL.out]
                    simp [HG.out]
        · have hkp' : ¬ (k : Int) < (ps.length : Int) := by omega
          go_wp2
          go_ret
          have h9 := HALL.out
          rw [List.take_of_length_le (by omega)] at h9
          exact ⟨by rw [HT.out, h9]; rfl, rfl⟩
end Go.Proofs.YtgijcbipnjmhgabGreat

namespace Go.Proofs.YtgijcbipnjmhgabGreat
open Go.ChangeShapes Go.WideShapes Go.ChangeAt Go.RowKit
set_option linter.unusedVariables false
set_option linter.unusedSimpArgs false

set_option maxRecDepth 1000000 in
theorem walkerC_any (B gV n bf bl : Nat) (w0 w : World) (rs : List Rr) (hn : n ≤ 131072) (hL : Lv B gV n w0 w rs) :
    Calls Tryz.prog 24 #[.slice (some ⟨gV, 0, none⟩) n n, .func (.func 28) #[] #[.pointer (some ⟨bf, 0, none⟩), .pointer (some ⟨bl, 0, none⟩)]] w fun e w' => ∃ bm bn bk bt gm, e = .returned (.func (.func 57) #[] #[.pointer (some ⟨bm, 0, none⟩), .pointer (some ⟨bn, 0, none⟩), .pointer (some ⟨bk, 0, none⟩), .pointer (some ⟨bt, 0, none⟩)]) ∧ Wc B bm bn bk bt gm gV n (.func (.func 28) #[] #[.pointer (some ⟨bf, 0, none⟩), .pointer (some ⟨bl, 0, none⟩)]) w0 rs (List.replicate n false) w' ∧ Below w.heap.size w w' := by
  obtain ⟨i0, hi, hz0, hz1, hz2⟩ := info_parts infoBool
  have hmf : ∀ (fn : Fn) (first cap : Array Value) (w : World), (Instr.makeFunc fn first cap).run Tryz.prog w = .ok (.func fn first cap) w := fun _ _ _ _ => rfl
  have HL : Hid (Lv B gV n w0 w rs) := hL
  obtain ⟨s, hs⟩ : ∃ s, w.heap.size = s := ⟨_, rfl⟩
  obtain ⟨w1, e1, hb1, hs1, B1⟩ := bx1 w #[.slice (some ⟨gV, 0, none⟩) n n] 55
  obtain ⟨w2, e2, hb2, hs2, B2⟩ := bx1 w1 #[.func (.func 28) #[] #[.pointer (some ⟨bf, 0, none⟩), .pointer (some ⟨bl, 0, none⟩)]] 59
  rw [hs] at B1 hs1
  rw [hs1] at B2 hs2
  have L2 : Hid (Lv B gV n w0 w2 rs) := (hL.below hb1).below hb2
  have X2 : Hid (Bx w2 s #[.slice (some ⟨gV, 0, none⟩) n n] 55 ∧ Bx w2 (s + 1) #[.func (.func 28) #[] #[.pointer (some ⟨bf, 0, none⟩), .pointer (some ⟨bl, 0, none⟩)]] 59 ∧ w2.heap.size = s + 2) := ⟨B1.below hb2 (by omega), B2, hs2⟩
  have HB2 : Hid (Below w.heap.size w w2) := hb1.trans (hb2.mono (by omega))
  have c1 := X2.out.1.one
  have HE1 : Hid (w.alloc (.cells #[.slice (some ⟨gV, 0, none⟩) n n] 55) = w1) := e1
  have HE2 : Hid (w1.alloc (.cells #[.func (.func 28) #[] #[.pointer (some ⟨bf, 0, none⟩), .pointer (some ⟨bl, 0, none⟩)]] 59) = w2) := e2
  clear hL hb1 hb2 B1 B2 hs1 hs2 e1 e2
  go_enter Tryz.func24, Tryz.ntmps24
  go_upto_region 1 with fail
  rw [HE1.out, HE2.out]
  go_wp2_with (at_make; refine wpList_make_full _ rfl _ _ 70 rfl B 4 i0 (.bool false) 1 Tryz.underlying70 hi hz0 hz1 _ _ _ _ n rfl rfl rfl rfl (by rw [hz2]; omega) (by unfold maxLen; omega) L2.out.base ?_; intro w3 hown3 hgr3; have L3 : Hid (Lv B gV n w0 w3 rs) := L2.out.below ((Below.refl _ _).grown hgr3 (Nat.le_refl _) (fun k h => by cases h)); have B3 : Hid (Below w2.heap.size w2 w3) := (Below.refl _ _).grown hgr3 (Nat.le_refl _) (fun k h => by cases h); have O3 : Hid (w3.ownsRow B 4 1 (.slice (some ⟨w2.heap.size, 0, none⟩) n n) n (List.replicate n (.bool false))) := (by have h9 := rep_made (.bool false) n; rw [show (Value.bool false).cells = #[.bool false] by rfl] at hown3; rw [h9] at hown3; exact hown3); clear hgr3 hown3)
  go_ret
  obtain ⟨w4, e4, hb4, hs4, B4⟩ := bx1 w3 #[.slice (some ⟨w2.heap.size, 0, none⟩) n n] 70
  obtain ⟨w5, e5, hb5, hs5, B5⟩ := bx1 w4 #[.func (.func 57) #[] #[.pointer (some ⟨w3.heap.size, 0, none⟩), .pointer (some ⟨s, 0, none⟩), .pointer (some ⟨w3.heap.size + 1, 0, none⟩), .pointer (some ⟨s + 1, 0, none⟩)]] 59
  rw [hs4] at B5
  rw [e4, e5]
  have hb45 : Below w3.heap.size w3 w5 := hb4.trans (hb5.mono (by omega))
  have hb25 : Below w2.heap.size w2 w5 := B3.out.trans (hb45.mono B3.out.size)
  have hw2 := X2.out.2.2
  refine ⟨w3.heap.size, s, w3.heap.size + 1, s + 1, w2.heap.size, rfl, ⟨L3.out.below hb45, ?_, B4.below hb5 (by omega), X2.out.1.below hb25 (by omega), B5, X2.out.2.1.below hb25 (by omega)⟩, HB2.out.trans (hb25.mono (by omega))⟩
  have h9 := ownsRow_below O3.out hb45 (Nat.le_refl _)
  rw [List.map_replicate]
  exact h9
end Go.Proofs.YtgijcbipnjmhgabGreat
