import Derived.Test.YtgijcbipnjmhgaaGl
import Derived.Laws.EntriesVeiled
import Derived.Test.YtgijcbipnjmhgaaGq0
namespace Go.Proofs.Ytgijcbipnjmhgaa
open Go.ChangeShapes Go.WideShapes Go.ChangeAt Go.RowKit
set_option linter.unusedVariables false
set_option linter.unusedSimpArgs false

/-- is x one of n things? -/
def thg (n x : Int) : Bool := decide (0 ≤ x) && decide (x < n)
def thp (n : Int) (p : Pr) : Bool := thg n p.a && thg n p.b
def things (n : Int) (ps : List Pr) : Bool := decide (0 ≤ n) && decide (n ≤ 131072) && ps.all (thp n)
theorem isThing_any (n x : Int) (w : World) : Calls Try.prog 23 #[.int .i64 n, .int .i64 x] w fun e w' => e = .returned (.bool (thg n x)) ∧ w' = w := by
  by_cases h0 : 0 ≤ x
  · go_enter Try.func23, Try.ntmps23
    go_wp2
    go_ret
    exact ⟨by simp [thg, h0], rfl⟩
  · go_enter Try.func23, Try.ntmps23
    go_wp2
    go_ret
    exact ⟨by rw [thg, decide_eq_false (show ¬ 0 ≤ x by omega)]; rfl, rfl⟩
theorem bad_any (bn : Nat) (n a b : Int) (w : World) (hb : Bx w bn #[.int .i64 n] 3) : Calls Try.prog 38 #[.agg #[.int .i64 a, .int .i64 b], .pointer (some ⟨bn, 0, none⟩)] w fun e w' => e = .returned (.bool (!thp n ⟨a, b⟩)) ∧ Below w.heap.size w w' := by
  obtain ⟨w1, e1, hb1, hs1, B1⟩ := bx1 w #[.int .i64 a, .int .i64 b] 40
  obtain ⟨s, hs⟩ : ∃ s, w.heap.size = s := ⟨_, rfl⟩
  have HS : Hid (w.heap.size = s) := hs
  rw [hs] at B1
  have HE1 : Hid (w.alloc (.cells #[.int .i64 a, .int .i64 b] 40) = w1) := e1
  have HB1 : Hid (Below w.heap.size w w1) := hb1
  have c0 : w1.cell? ⟨bn, 0, none⟩ = some (.int .i64 n) := (hb.below hb1 hb.lt).one
  have c1 : w1.cell? ⟨s, 0, none⟩ = some (.int .i64 a) := B1.cell 0
  have c2 : w1.cell? ⟨s, 1, none⟩ = some (.int .i64 b) := B1.cell 1
  clear e1 hb1 hs1 B1 hb
  cases hta : thg n a with
  | false =>
    go_enter Try.func38, Try.ntmps38
    go_upto_region 1 with fail
    rw [HE1.out]
    go_wp2_with (go_at_call 23; (with_reducible refine (isThing_any n a _).mono ?_); rintro e v1 ⟨rfl, hv⟩; have hv2 := hv.symm; clear hv; subst hv2; rw [hta])
    go_ret
    exact ⟨by simp [thp, hta], HB1.out⟩
  | true =>
    go_enter Try.func38, Try.ntmps38
    go_upto_region 1 with fail
    rw [HE1.out]
    go_wp2_with (first
      | (go_at_call 23; (with_reducible refine (isThing_any n a _).mono ?_); rintro e v1 ⟨rfl, hv⟩; have hv2 := hv.symm; clear hv; subst hv2; rw [hta])
      | (go_at_call 23; (with_reducible refine (isThing_any n b _).mono ?_); rintro e v2 ⟨rfl, hv⟩; have hv2 := hv.symm; clear hv; subst hv2))
    go_ret
    exact ⟨by simp [thp, hta], HB1.out⟩

set_option maxRecDepth 1000000 in
theorem index_any (bn : Nat) (n : Int) (a : Option Addr) (cap : Nat) (ps : List Pr) (w : World) (hb : Bx w bn #[.int .i64 n] 3) (hL : LiesA w a ps) (hm : ps.length ≤ 17592186044416) : Calls Try.prog 55 #[.slice a ps.length cap, .func (.func 38) #[] #[.pointer (some ⟨bn, 0, none⟩)]] w fun e w' => ∃ r : Int, e = .returned (.int .i64 r) ∧ (decide (0 ≤ r) = !ps.all (thp n)) ∧ Below w.heap.size w w' := by
  have HB : Hid (Bx w bn #[.int .i64 n] 3) := hb
  have HL : Hid (LiesA w a ps) := hL
  clear hb hL
  go_enter Try.func55, Try.ntmps55
  go_wp2
  go_loopg [8] ps.length (fun gk si wr => ∃ (k : Nat), gk = ps.length - k ∧ si = .int .i64 (k : Int) ∧ k ≤ ps.length ∧ (ps.take k).all (thp n) = true ∧ Below w.heap.size w wr)
  case atStart => exact ⟨0, rfl, rfl, Nat.zero_le _, rfl, Below.refl _ _⟩
  case round =>
    obtain ⟨k, hgk, rfl, hk, hall, hbel⟩ := hrel
    have HBL : Hid (Below w.heap.size w wr) := hbel
    have HALL : Hid ((ps.take k).all (thp n) = true) := hall
    clear hbel hall
    by_cases hkp : k < ps.length
    · have hkp' : (k : Int) < (ps.length : Int) := by omega
      obtain ⟨p, hp⟩ : ∃ p, ps[k]? = some p := ⟨_, List.getElem?_eq_getElem hkp⟩
      obtain ⟨b, o, ha, hLi⟩ : ∃ b o, a = some ⟨b, o, none⟩ ∧ Lies w b o ps := by
        rcases HL.out with h | h
        · rw [h] at hkp; exact absurd hkp (Nat.not_lt_zero _)
        · exact h
      subst ha
      obtain ⟨pa, pb⟩ := p
      obtain ⟨d0, d1⟩ := (hLi.below HBL.out hLi.1).pr hp
      simp only at d0 d1
      have HP : Hid (ps[k]? = some ⟨pa, pb⟩) := hp
      have hBr : Hid (Bx wr bn #[.int .i64 n] 3) := HB.out.below HBL.out HB.out.lt
      clear hLi hp
      cases hbad : thp n ⟨pa, pb⟩ with
      | true =>
        go_wp2_with (go_at_call 38; (with_reducible refine (bad_any bn n pa pb wr hBr.out).mono ?_); rintro e v1 ⟨rfl, hb1⟩; rw [hbad]; have HB1 : Hid (Below w.heap.size w v1) := HBL.out.trans (hb1.mono HBL.out.size); clear hb1)
        go_roundg (ps.length - (k + 1))
        case measure => omega
        case rel =>
          refine ⟨k + 1, rfl, by go_num, by omega, ?_, HB1.out⟩
          rw [List.take_add_one, HP.out, List.all_append, HALL.out]
          simp [hbad]
      | false =>
        go_wp2_with (go_at_call 38; (with_reducible refine (bad_any bn n pa pb wr hBr.out).mono ?_); rintro e v1 ⟨rfl, hb1⟩; rw [hbad]; have HB1 : Hid (Below w.heap.size w v1) := HBL.out.trans (hb1.mono HBL.out.size); clear hb1)
        go_ret
        refine ⟨(k : Int), rfl, ?_, HB1.out⟩
        have hall : ps.all (thp n) = false := by
          rw [List.all_eq_false]
          exact ⟨_, List.mem_of_getElem? HP.out, by simp [hbad]⟩
        rw [hall]
        simp
    · have hkp' : ¬ (k : Int) < (ps.length : Int) := by omega
      go_wp2
      go_ret
      refine ⟨-1, rfl, ?_, HBL.out⟩
      have h9 := HALL.out
      rw [List.take_of_length_le (by omega)] at h9
      rw [h9]
      decide
theorem contains_any (bn : Nat) (n : Int) (a : Option Addr) (cap : Nat) (ps : List Pr) (w : World) (hb : Bx w bn #[.int .i64 n] 3) (hL : LiesA w a ps) (hm : ps.length ≤ 17592186044416) : Calls Try.prog 37 #[.slice a ps.length cap, .func (.func 38) #[] #[.pointer (some ⟨bn, 0, none⟩)]] w fun e w' => e = .returned (.bool (!ps.all (thp n))) ∧ Below w.heap.size w w' := by
  have IX : Hid (Calls Try.prog 55 #[.slice a ps.length cap, .func (.func 38) #[] #[.pointer (some ⟨bn, 0, none⟩)]] w fun e w' => ∃ r : Int, e = .returned (.int .i64 r) ∧ (decide (0 ≤ r) = !ps.all (thp n)) ∧ Below w.heap.size w w') := index_any bn n a cap ps w hb hL hm
  clear hb hL
  go_enter Try.func37, Try.ntmps37
  go_wp2_with (go_at_call 55; (with_reducible refine IX.out.mono ?_); rintro e v1 ⟨r, rfl, hr, hb1⟩; have HB1 : Hid (Below w.heap.size w v1) := hb1; have HR : Hid (decide (0 ≤ r) = !ps.all (thp n)) := hr; clear hb1 hr)
  go_ret
  refine ⟨?_, HB1.out⟩
  show Ending.returned (.bool (decide (0 ≤ r))) = _
  rw [HR.out]
theorem areThings_any (n : Int) (a : Option Addr) (cap : Nat) (ps : List Pr) (w : World) (hL : LiesA w a ps) (hm : ps.length ≤ 17592186044416) : Calls Try.prog 22 #[.int .i64 n, .slice a ps.length cap] w fun e w' => e = .returned (.bool (things n ps)) ∧ Below w.heap.size w w' := by
  have hmf : ∀ (fn : Fn) (first cap : Array Value) (w : World), (Instr.makeFunc fn first cap).run Try.prog w = .ok (.func fn first cap) w := fun _ _ _ _ => rfl
  obtain ⟨w1, e1, hb1, hs1, B1⟩ := bx1 w #[.int .i64 n] 3
  obtain ⟨s, hs⟩ : ∃ s, w.heap.size = s := ⟨_, rfl⟩
  have HS : Hid (w.heap.size = s) := hs
  rw [hs] at B1
  have HE1 : Hid (w.alloc (.cells #[.int .i64 n] 3) = w1) := e1
  have HB1 : Hid (Below w.heap.size w w1) := hb1
  have c0 : w1.cell? ⟨s, 0, none⟩ = some (.int .i64 n) := B1.one
  have CT : Hid (Calls Try.prog 37 #[.slice a ps.length cap, .func (.func 38) #[] #[.pointer (some ⟨s, 0, none⟩)]] w1 fun e w' => e = .returned (.bool (!ps.all (thp n))) ∧ Below w1.heap.size w1 w') := contains_any s n a cap ps w1 B1 (hL.below hb1) hm
  clear e1 hb1 hs1 B1 hL
  by_cases h0 : 0 ≤ n
  · by_cases h1 : n ≤ 131072
    · go_enter Try.func22, Try.ntmps22
      go_upto_region 1 with fail
      rw [HE1.out]
      go_wp2_with (go_at_call 37; (with_reducible refine CT.out.mono ?_); rintro e v1 ⟨rfl, hb2⟩; have HB2 : Hid (Below w1.heap.size w1 v1) := hb2; clear hb2)
      go_ret
      exact ⟨by simp [things, h0, h1], HB1.out.trans (HB2.out.mono HB1.out.size)⟩
    · go_enter Try.func22, Try.ntmps22
      go_upto_region 1 with fail
      rw [HE1.out]
      go_wp2
      go_ret
      exact ⟨by rw [things, decide_eq_false (show ¬ n ≤ 131072 by omega)]; simp, by rw [← HS.out]; exact HB1.out⟩
  · go_enter Try.func22, Try.ntmps22
    go_upto_region 1 with fail
    rw [HE1.out]
    go_wp2
    go_ret
    exact ⟨by rw [things, decide_eq_false (show ¬ 0 ≤ n by omega)]; simp, by rw [← HS.out]; exact HB1.out⟩
end Go.Proofs.Ytgijcbipnjmhgaa

namespace Go.Proofs.Ytgijcbipnjmhgaa
set_option linter.unusedVariables false
set_option linter.unusedSimpArgs false

theorem things_spec {n : Nat} {ps : List Pr} (h : things (n : Int) ps = true) : n ≤ 131072 ∧ ∀ p ∈ ps, (0 ≤ p.a ∧ p.a < (n : Int)) ∧ (0 ≤ p.b ∧ p.b < (n : Int)) := by
  unfold things at h
  simp only [Bool.and_eq_true, decide_eq_true_eq, List.all_eq_true] at h
  refine ⟨by omega, fun p hp => ?_⟩
  have := h.2 p hp
  unfold thp thg at this
  simp only [Bool.and_eq_true, decide_eq_true_eq] at this
  exact this
theorem rep_false {n y : Nat} (h : y < n) : (List.replicate n false)[y]? = some false := by rw [List.getElem?_replicate, if_pos h]
/-- what a first walk tells: all that can be come to, each once -/
theorem Dq.all {ps : List Pr} {n x : Nat} {m' : List Bool} {t' : List Nat} (h : Dq ps (Rch ps x) (List.replicate n false) [] m' t') (hx : m'[x]? = some true) : t'.Nodup ∧ ∀ y, y ∈ t' ↔ Rch ps x y := by
  obtain ⟨s, hs, hn, hy, hz⟩ := h.told
  rw [List.nil_append] at hs
  subst hs
  have hlt : ∀ a : Nat, m'[a]? = some true → (List.replicate n false)[a]? = some false := fun a ha => by
    have := (List.getElem?_eq_some_iff.1 ha).1
    rw [h.len, List.length_replicate] at this
    exact rep_false this
  have fwd : ∀ a b : Nat, Rch ps a b → m'[a]? = some true → m'[b]? = some true := by
    intro a b hab
    induction hab with
    | refl => exact id
    | step e _ ih => exact fun ha => ih (h.closed _ _ (hlt _ ha) ha e)
  refine ⟨hn, fun y => ⟨fun hyt => ?_, fun hr => ?_⟩⟩
  · rcases h.reach y (hy y hyt).2 with h1 | h1
    · exact (tf h1 (hy y hyt).1).elim
    · exact h1
  · rcases hz y (fwd x y hr hx) with h1 | h1
    · exact (tf h1 (hlt y (fwd x y hr hx))).elim
    · exact h1
theorem sorted_unique : ∀ l m : List Int, l.Pairwise (· < ·) → m.Pairwise (· < ·) → (∀ y, y ∈ l ↔ y ∈ m) → l = m
  | [], [], _, _, _ => rfl
  | [], b :: m, _, _, h => by have := (h b).2 (by simp); cases this
  | a :: l, [], _, _, h => by have := (h a).1 (by simp); cases this
  | a :: l, b :: m, hl, hm, h => by
    rw [List.pairwise_cons] at hl hm
    have hab : a = b := by
      have h1 := (h a).1 (by simp)
      have h2 := (h b).2 (by simp)
      rcases List.mem_cons.1 h1 with h1 | h1
      · exact h1
      · rcases List.mem_cons.1 h2 with h2 | h2
        · exact h2.symm
        · have := hl.1 b h2
          have := hm.1 a h1
          omega
    subst hab
    rw [sorted_unique l m hl.2 hm.2 (fun y => ?_)]
    have hy := h y
    simp only [List.mem_cons] at hy
    constructor
    · intro h1
      rcases hy.1 (.inr h1) with h2 | h2
      · have := hl.1 y h1; omega
      · exact h2
    · intro h1
      rcases hy.2 (.inr h1) with h2 | h2
      · have := hm.1 y h1; omega
      · exact h2
theorem sorted_strict (xs : List Int) (hn : xs.Nodup) : (xs.mergeSort fun x y => decide (x ≤ y)).Pairwise (· < ·) ∧ ∀ y, y ∈ (xs.mergeSort fun x y => decide (x ≤ y)) ↔ y ∈ xs := by
  have hp := List.mergeSort_perm xs (fun x y => decide (x ≤ y))
  refine ⟨?_, fun y => hp.mem_iff⟩
  have hs := List.pairwise_mergeSort (le := fun x y : Int => decide (x ≤ y)) (fun a b c h1 h2 => by simp at h1 h2 ⊢; omega) (fun a b => by simp; omega) xs
  have hd := hp.nodup_iff.2 hn
  have h2 := List.Pairwise.and hs hd
  refine h2.imp (fun h => ?_)
  simp at h
  omega
end Go.Proofs.Ytgijcbipnjmhgaa

namespace Go.Proofs.Ytgijcbipnjmhgaa
open Go.ChangeShapes Go.WideShapes Go.ChangeAt Go.RowKit
set_option linter.unusedVariables false
set_option linter.unusedSimpArgs false

set_option maxRecDepth 1000000 in
theorem walkerR_any (B gV n bo : Nat) (w0 w : World) (rs : List Rr) (hn : n ≤ 131072) (hL : Lv B gV n w0 w rs) :
    Calls Try.prog 24 #[.slice (some ⟨gV, 0, none⟩) n n, .func (.func 26) #[] #[.pointer (some ⟨bo, 0, none⟩)]] w fun e w' => ∃ bm bn bk bt gm, e = .returned (.func (.func 39) #[] #[.pointer (some ⟨bm, 0, none⟩), .pointer (some ⟨bn, 0, none⟩), .pointer (some ⟨bk, 0, none⟩), .pointer (some ⟨bt, 0, none⟩)]) ∧ Wc B bm bn bk bt gm gV n (.func (.func 26) #[] #[.pointer (some ⟨bo, 0, none⟩)]) w0 rs (List.replicate n false) w' ∧ Below w.heap.size w w' := by
  obtain ⟨i0, hi, hz0, hz1, hz2⟩ := info_parts infoBool
  have hmf : ∀ (fn : Fn) (first cap : Array Value) (w : World), (Instr.makeFunc fn first cap).run Try.prog w = .ok (.func fn first cap) w := fun _ _ _ _ => rfl
  have HL : Hid (Lv B gV n w0 w rs) := hL
  obtain ⟨s, hs⟩ : ∃ s, w.heap.size = s := ⟨_, rfl⟩
  obtain ⟨w1, e1, hb1, hs1, B1⟩ := bx1 w #[.slice (some ⟨gV, 0, none⟩) n n] 50
  obtain ⟨w2, e2, hb2, hs2, B2⟩ := bx1 w1 #[.func (.func 26) #[] #[.pointer (some ⟨bo, 0, none⟩)]] 48
  rw [hs] at B1 hs1
  rw [hs1] at B2 hs2
  have L2 : Hid (Lv B gV n w0 w2 rs) := (hL.below hb1).below hb2
  have X2 : Hid (Bx w2 s #[.slice (some ⟨gV, 0, none⟩) n n] 50 ∧ Bx w2 (s + 1) #[.func (.func 26) #[] #[.pointer (some ⟨bo, 0, none⟩)]] 48 ∧ w2.heap.size = s + 2) := ⟨B1.below hb2 (by omega), B2, hs2⟩
  have HB2 : Hid (Below w.heap.size w w2) := hb1.trans (hb2.mono (by omega))
  have c1 := X2.out.1.one
  have HE1 : Hid (w.alloc (.cells #[.slice (some ⟨gV, 0, none⟩) n n] 50) = w1) := e1
  have HE2 : Hid (w1.alloc (.cells #[.func (.func 26) #[] #[.pointer (some ⟨bo, 0, none⟩)]] 48) = w2) := e2
  clear hL hb1 hb2 B1 B2 hs1 hs2 e1 e2
  go_enter Try.func24, Try.ntmps24
  go_upto_region 1 with fail
  rw [HE1.out, HE2.out]
  go_wp2_with (at_make; refine wpList_make_full _ rfl _ _ 53 rfl B 4 i0 (.bool false) 1 Try.underlying53 hi hz0 hz1 _ _ _ _ n rfl rfl rfl rfl (by rw [hz2]; omega) (by unfold maxLen; omega) L2.out.base ?_; intro w3 hown3 hgr3; have L3 : Hid (Lv B gV n w0 w3 rs) := L2.out.below ((Below.refl _ _).grown hgr3 (Nat.le_refl _) (fun k h => by cases h)); have B3 : Hid (Below w2.heap.size w2 w3) := (Below.refl _ _).grown hgr3 (Nat.le_refl _) (fun k h => by cases h); have O3 : Hid (w3.ownsRow B 4 1 (.slice (some ⟨w2.heap.size, 0, none⟩) n n) n (List.replicate n (.bool false))) := (by have h9 := rep_made (.bool false) n; rw [show (Value.bool false).cells = #[.bool false] by rfl] at hown3; rw [h9] at hown3; exact hown3); clear hgr3 hown3)
  go_ret
  obtain ⟨w4, e4, hb4, hs4, B4⟩ := bx1 w3 #[.slice (some ⟨w2.heap.size, 0, none⟩) n n] 53
  obtain ⟨w5, e5, hb5, hs5, B5⟩ := bx1 w4 #[.func (.func 39) #[] #[.pointer (some ⟨w3.heap.size, 0, none⟩), .pointer (some ⟨s, 0, none⟩), .pointer (some ⟨w3.heap.size + 1, 0, none⟩), .pointer (some ⟨s + 1, 0, none⟩)]] 48
  rw [hs4] at B5
  rw [e4, e5]
  have hb45 : Below w3.heap.size w3 w5 := hb4.trans (hb5.mono (by omega))
  have hb25 : Below w2.heap.size w2 w5 := B3.out.trans (hb45.mono B3.out.size)
  have hw2 := X2.out.2.2
  refine ⟨w3.heap.size, s, w3.heap.size + 1, s + 1, w2.heap.size, rfl, ⟨L3.out.below hb45, ?_, B4.below hb5 (by omega), X2.out.1.below hb25 (by omega), B5, X2.out.2.1.below hb25 (by omega)⟩, HB2.out.trans (hb25.mono (by omega))⟩
  have h9 := ownsRow_below O3.out hb45 (Nat.le_refl _)
  rw [List.map_replicate]
  exact h9
end Go.Proofs.Ytgijcbipnjmhgaa
