import Derived.Test.YtkfdlccacddbfaaGr0
import Derived.Laws.EntriesVeiled
namespace Go.Proofs.Ytkfdlccacddbfaa
open Go.ChangeShapes Go.WideShapes Go.ChangeAt Go.RowKit
set_option linter.unusedVariables false
set_option linter.unusedSimpArgs false

/-- is x one of n things? -/
def thg (n x : Int) : Bool := decide (0 ≤ x) && decide (x < n)
def thp (n : Int) (p : Pr) : Bool := thg n p.a && thg n p.b
def things (n : Int) (ps : List Pr) : Bool := decide (0 ≤ n) && decide (n ≤ 131072) && ps.all (thp n)
theorem isThing_any (n x : Int) (w : World) : Calls Try.prog 13 #[.int .i64 n, .int .i64 x] w fun e w' => e = .returned (.bool (thg n x)) ∧ w' = w := by
  by_cases h0 : 0 ≤ x
  · go_enter Try.func13, Try.ntmps13
    go_wp2
    go_ret
    exact ⟨by simp [thg, h0], rfl⟩
  · go_enter Try.func13, Try.ntmps13
    go_wp2
    go_ret
    exact ⟨by rw [thg, decide_eq_false (show ¬ 0 ≤ x by omega)]; rfl, rfl⟩
theorem bad_any (bn : Nat) (n a b : Int) (w : World) (hb : Bx w bn #[.int .i64 n] 3) : Calls Try.prog 25 #[.agg #[.int .i64 a, .int .i64 b], .pointer (some ⟨bn, 0, none⟩)] w fun e w' => e = .returned (.bool (!thp n ⟨a, b⟩)) ∧ Below w.heap.size w w' := by
  obtain ⟨w1, e1, hb1, hs1, B1⟩ := bx1 w #[.int .i64 a, .int .i64 b] 36
  obtain ⟨s, hs⟩ : ∃ s, w.heap.size = s := ⟨_, rfl⟩
  have HS : Hid (w.heap.size = s) := hs
  rw [hs] at B1
  have HE1 : Hid (w.alloc (.cells #[.int .i64 a, .int .i64 b] 36) = w1) := e1
  have HB1 : Hid (Below w.heap.size w w1) := hb1
  have c0 : w1.cell? ⟨bn, 0, none⟩ = some (.int .i64 n) := (hb.below hb1 hb.lt).one
  have c1 : w1.cell? ⟨s, 0, none⟩ = some (.int .i64 a) := B1.cell 0
  have c2 : w1.cell? ⟨s, 1, none⟩ = some (.int .i64 b) := B1.cell 1
  clear e1 hb1 hs1 B1 hb
  cases hta : thg n a with
  | false =>
    go_enter Try.func25, Try.ntmps25
    go_upto_region 1 with fail
    rw [HE1.out]
    go_wp2_with (go_at_call 13; (with_reducible refine (isThing_any n a _).mono ?_); rintro e v1 ⟨rfl, hv⟩; have hv2 := hv.symm; clear hv; subst hv2; rw [hta])
    go_ret
    exact ⟨by simp [thp, hta], HB1.out⟩
  | true =>
    go_enter Try.func25, Try.ntmps25
    go_upto_region 1 with fail
    rw [HE1.out]
    go_wp2_with (first
      | (go_at_call 13; (with_reducible refine (isThing_any n a _).mono ?_); rintro e v1 ⟨rfl, hv⟩; have hv2 := hv.symm; clear hv; subst hv2; rw [hta])
      | (go_at_call 13; (with_reducible refine (isThing_any n b _).mono ?_); rintro e v2 ⟨rfl, hv⟩; have hv2 := hv.symm; clear hv; subst hv2))
    go_ret
    exact ⟨by simp [thp, hta], HB1.out⟩

set_option maxRecDepth 1000000 in
theorem index_any (bn : Nat) (n : Int) (a : Option Addr) (cap : Nat) (ps : List Pr) (w : World) (hb : Bx w bn #[.int .i64 n] 3) (hL : LiesA w a ps) (hm : ps.length ≤ 17592186044416) : Calls Try.prog 31 #[.slice a ps.length cap, .func (.func 25) #[] #[.pointer (some ⟨bn, 0, none⟩)]] w fun e w' => ∃ r : Int, e = .returned (.int .i64 r) ∧ (decide (0 ≤ r) = !ps.all (thp n)) ∧ Below w.heap.size w w' := by
  have HB : Hid (Bx w bn #[.int .i64 n] 3) := hb
  have HL : Hid (LiesA w a ps) := hL
  clear hb hL
  go_enter Try.func31, Try.ntmps31
  go_wp2
  go_loopg [8] ps.length (fun gk si wr => ∃ (k : Nat), gk = ps.length - k ∧ si = .int .i64 (k : Int) ∧ k ≤ ps.length ∧ (ps.take k).all (thp n) = true ∧ Below w.heap.size w wr)
  case atStart => exact ⟨0, rfl, rfl, Nat.zero_le _, rfl, Below.refl _ _⟩
  case round =>
    obtain ⟨k, hgk, rfl, hk, hall, hbel⟩ := hrel
    have HBL : Hid (Below w.heap.size w wr) := hbel
    have HALL : Hid ((ps.take k).all (thp n) = true) := hall
    clear hbel hall
    by_cases hkp : k < ps.length
    · have hkp' : (k : Int) < (ps.length : Int) := by omega
      obtain ⟨p, hp⟩ : ∃ p, ps[k]? = some p := ⟨_, List.getElem?_eq_getElem hkp⟩
      obtain ⟨b, o, ha, hLi⟩ : ∃ b o, a = some ⟨b, o, none⟩ ∧ Lies w b o ps := by
        rcases HL.out with h | h
        · rw [h] at hkp; exact absurd hkp (Nat.not_lt_zero _)
        · exact h
      subst ha
      obtain ⟨pa, pb⟩ := p
      obtain ⟨d0, d1⟩ := (hLi.below HBL.out hLi.1).pr hp
      simp only at d0 d1
      have HP : Hid (ps[k]? = some ⟨pa, pb⟩) := hp
      have hBr : Hid (Bx wr bn #[.int .i64 n] 3) := HB.out.below HBL.out HB.out.lt
      clear hLi hp
      cases hbad : thp n ⟨pa, pb⟩ with
      | true =>
        go_wp2_with (go_at_call 25; (with_reducible refine (bad_any bn n pa pb wr hBr.out).mono ?_); rintro e v1 ⟨rfl, hb1⟩; rw [hbad]; have HB1 : Hid (Below w.heap.size w v1) := HBL.out.trans (hb1.mono HBL.out.size); clear hb1)
        go_roundg (ps.length - (k + 1))
        case measure => omega
        case rel =>
          refine ⟨k + 1, rfl, by go_num, by omega, ?_, HB1.out⟩
          rw [List.take_add_one, HP.out, List.all_append, HALL.out]
          simp [hbad]
      | false =>
        go_wp2_with (go_at_call 25; (with_reducible refine (bad_any bn n pa pb wr hBr.out).mono ?_); rintro e v1 ⟨rfl, hb1⟩; rw [hbad]; have HB1 : Hid (Below w.heap.size w v1) := HBL.out.trans (hb1.mono HBL.out.size); clear hb1)
        go_ret
        refine ⟨(k : Int), rfl, ?_, HB1.out⟩
        have hall : ps.all (thp n) = false := by
          rw [List.all_eq_false]
          exact ⟨_, List.mem_of_getElem? HP.out, by simp [hbad]⟩
        rw [hall]
        simp
    · have hkp' : ¬ (k : Int) < (ps.length : Int) := by omega
      go_wp2
      go_ret
      refine ⟨-1, rfl, ?_, HBL.out⟩
      have h9 := HALL.out
      rw [List.take_of_length_le (by omega)] at h9
      rw [h9]
      decide
theorem contains_any (bn : Nat) (n : Int) (a : Option Addr) (cap : Nat) (ps : List Pr) (w : World) (hb : Bx w bn #[.int .i64 n] 3) (hL : LiesA w a ps) (hm : ps.length ≤ 17592186044416) : Calls Try.prog 24 #[.slice a ps.length cap, .func (.func 25) #[] #[.pointer (some ⟨bn, 0, none⟩)]] w fun e w' => e = .returned (.bool (!ps.all (thp n))) ∧ Below w.heap.size w w' := by
  have IX : Hid (Calls Try.prog 31 #[.slice a ps.length cap, .func (.func 25) #[] #[.pointer (some ⟨bn, 0, none⟩)]] w fun e w' => ∃ r : Int, e = .returned (.int .i64 r) ∧ (decide (0 ≤ r) = !ps.all (thp n)) ∧ Below w.heap.size w w') := index_any bn n a cap ps w hb hL hm
  clear hb hL
  go_enter Try.func24, Try.ntmps24
  go_wp2_with (go_at_call 31; (with_reducible refine IX.out.mono ?_); rintro e v1 ⟨r, rfl, hr, hb1⟩; have HB1 : Hid (Below w.heap.size w v1) := hb1; have HR : Hid (decide (0 ≤ r) = !ps.all (thp n)) := hr; clear hb1 hr)
  go_ret
  refine ⟨?_, HB1.out⟩
  show Ending.returned (.bool (decide (0 ≤ r))) = _
  rw [HR.out]
theorem areThings_any (n : Int) (a : Option Addr) (cap : Nat) (ps : List Pr) (w : World) (hL : LiesA w a ps) (hm : ps.length ≤ 17592186044416) : Calls Try.prog 12 #[.int .i64 n, .slice a ps.length cap] w fun e w' => e = .returned (.bool (things n ps)) ∧ Below w.heap.size w w' := by
  have hmf : ∀ (fn : Fn) (first cap : Array Value) (w : World), (Instr.makeFunc fn first cap).run Try.prog w = .ok (.func fn first cap) w := fun _ _ _ _ => rfl
  obtain ⟨w1, e1, hb1, hs1, B1⟩ := bx1 w #[.int .i64 n] 3
  obtain ⟨s, hs⟩ : ∃ s, w.heap.size = s := ⟨_, rfl⟩
  have HS : Hid (w.heap.size = s) := hs
  rw [hs] at B1
  have HE1 : Hid (w.alloc (.cells #[.int .i64 n] 3) = w1) := e1
  have HB1 : Hid (Below w.heap.size w w1) := hb1
  have c0 : w1.cell? ⟨s, 0, none⟩ = some (.int .i64 n) := B1.one
  have CT : Hid (Calls Try.prog 24 #[.slice a ps.length cap, .func (.func 25) #[] #[.pointer (some ⟨s, 0, none⟩)]] w1 fun e w' => e = .returned (.bool (!ps.all (thp n))) ∧ Below w1.heap.size w1 w') := contains_any s n a cap ps w1 B1 (hL.below hb1) hm
  clear e1 hb1 hs1 B1 hL
  by_cases h0 : 0 ≤ n
  · by_cases h1 : n ≤ 131072
    · go_enter Try.func12, Try.ntmps12
      go_upto_region 1 with fail
      rw [HE1.out]
      go_wp2_with (go_at_call 24; (with_reducible refine CT.out.mono ?_); rintro e v1 ⟨rfl, hb2⟩; have HB2 : Hid (Below w1.heap.size w1 v1) := hb2; clear hb2)
      go_ret
      exact ⟨by simp [things, h0, h1], HB1.out.trans (HB2.out.mono HB1.out.size)⟩
    · go_enter Try.func12, Try.ntmps12
      go_upto_region 1 with fail
      rw [HE1.out]
      go_wp2
      go_ret
      exact ⟨by rw [things, decide_eq_false (show ¬ n ≤ 131072 by omega)]; simp, by rw [← HS.out]; exact HB1.out⟩
  · go_enter Try.func12, Try.ntmps12
    go_upto_region 1 with fail
    rw [HE1.out]
    go_wp2
    go_ret
    exact ⟨by rw [things, decide_eq_false (show ¬ 0 ≤ n by omega)]; simp, by rw [← HS.out]; exact HB1.out⟩
end Go.Proofs.Ytkfdlccacddbfaa
