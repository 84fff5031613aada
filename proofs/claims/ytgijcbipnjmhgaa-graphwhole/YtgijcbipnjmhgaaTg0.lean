import Derived.Test.YtgijcbipnjmhgaaPt2
namespace Go.Proofs.Ytgijcbipnjmhgaa
open Go.ChangeShapes Go.WideShapes Go.ChangeAt Go.RowKit
set_option linter.unusedVariables false
set_option linter.unusedSimpArgs false

set_option maxRecDepth 1000000 in
theorem parts_bad (n : Int) (a : Option Addr) (cap : Nat) (ps : List Pr) (w : World) (hL : LiesA w a ps) (hm : ps.length ≤ 8796093022208) (h : things n ps = false) :
    Calls Try.prog 16 #[.int .i64 n, .slice a ps.length cap] w fun e w' => e = .returned (.tuple #[.slice none 0 0, .int .i64 1]) ∧ Below w.heap.size w w' := by
  have AT : Hid (Calls Try.prog 22 #[.int .i64 n, .slice a ps.length cap] w fun e w' => e = .returned (.bool (things n ps)) ∧ Below w.heap.size w w') := areThings_any n a cap ps w hL (by omega)
  rw [h] at AT
  go_enter Try.func16, Try.ntmps16
  go_wp2_with (go_at_call 22; (with_reducible refine AT.out.mono ?_); rintro e v1 ⟨rfl, hb1⟩; have HB1 := hidH hb1; clear hb1)
  go_ret2
  exact ⟨rfl, HB1.out⟩
/-- the first of the pairs of which an end is no thing: none so far -/
def Thk (n : Int) (ps : List Pr) (k : Nat) : Prop := ∀ p ∈ ps.take k, thp n p = true
set_option maxRecDepth 1000000 in
set_option maxHeartbeats 4000000 in
theorem right_any (n : Int) (a : Option Addr) (cap : Nat) (ps : List Pr) (w : World) (hL : LiesA w a ps) (hm : ps.length ≤ 8796093022208) :
    Calls Try.prog 17 #[.int .i64 n, .slice a ps.length cap] w fun e w' => e = .returned (.bool (things n ps)) ∧ Below w.heap.size w w' := by
  have HL := hidH hL
  clear hL
  by_cases h0 : n < 0
  · have ht : things n ps = false := by unfold things; simp; omega
    rw [ht]
    go_enter Try.func17, Try.ntmps17
    go_wp2
    go_ret
    exact ⟨rfl, Below.refl _ _⟩
  by_cases h1 : 131072 < n
  · have ht : things n ps = false := by unfold things; simp; omega
    rw [ht]
    go_enter Try.func17, Try.ntmps17
    go_wp2
    go_ret
    exact ⟨rfl, Below.refl _ _⟩
  have BAD : Hid (∀ p ∈ ps, thp n p = false → things n ps = false) := fun p hp hb => by
    unfold things
    rw [Bool.and_eq_false_iff]
    refine .inr ?_
    rw [List.all_eq_false]
    exact ⟨p, hp, by rw [hb]; decide⟩
  obtain ⟨m, rfl⟩ : ∃ m : Nat, n = (m : Int) := ⟨n.toNat, by omega⟩
  go_enter Try.func17, Try.ntmps17
  go_wp2
  go_loopg [15] ps.length (fun gk si wr => ∃ k : Nat, gk = ps.length - k ∧ si = .int .i64 (k : Int) ∧ k ≤ ps.length ∧ Below w.heap.size w wr ∧ Thk (m : Int) ps k)
  case atStart => exact ⟨0, rfl, rfl, Nat.zero_le _, Below.refl _ _, fun p hp => by simp at hp⟩
  case round =>
    obtain ⟨k, hgk, rfl, hk, hE, hT⟩ := hrel
    have HE := hidH hE
    have HT := hidH hT
    clear hE hT
    by_cases hkp : k < ps.length
    · have hkp' : (k : Int) < (ps.length : Int) := by omega
      obtain ⟨p, hp⟩ : ∃ p, ps[k]? = some p := ⟨_, List.getElem?_eq_getElem hkp⟩
      obtain ⟨b, o, ha, hLi⟩ : ∃ b o, a = some ⟨b, o, none⟩ ∧ Lies w b o ps := by
        rcases HL.out with h | h
        · rw [h] at hkp; exact absurd hkp (Nat.not_lt_zero _)
        · exact h
      subst ha
      obtain ⟨pa, pb⟩ := p
      have HP := hidH hp
      have hbad := BAD.out _ (List.mem_of_getElem? hp)
      obtain ⟨d0, d1⟩ := (hLi.below HE.out hLi.1).pr hp
      simp only at d0 d1
      have hEA := hidH ((HE.out.alloc HE.out.size (.cells #[.int .i64 pa, .int .i64 pb] 40)))
      have kk : IntKind.i64.wrap ((k : Int) + 1) = ((k + 1 : Nat) : Int) := by rw [IntWalk.i64_in _ ⟨by omega, by omega⟩]; omega
      clear hp hLi
      by_cases h1' : pa < 0
      · have hb := hbad (by unfold thp thg; simp; omega)
        clear hbad
        go_wp2
        go_ret
        first | exact ⟨rfl, hEA.out⟩ | (rw [hb]; exact ⟨rfl, hEA.out⟩)
      by_cases h2' : (m : Int) ≤ pa
      · have hb := hbad (by unfold thp thg; simp; omega)
        clear hbad
        go_wp2
        go_ret
        first | exact ⟨rfl, hEA.out⟩ | (rw [hb]; exact ⟨rfl, hEA.out⟩)
      by_cases h3' : pb < 0
      · have hb := hbad (by unfold thp thg; simp; omega)
        clear hbad
        go_wp2
        go_ret
        first | exact ⟨rfl, hEA.out⟩ | (rw [hb]; exact ⟨rfl, hEA.out⟩)
      by_cases h4' : (m : Int) ≤ pb
      · have hb := hbad (by unfold thp thg; simp; omega)
        clear hbad
        go_wp2
        go_ret
        first | exact ⟨rfl, hEA.out⟩ | (rw [hb]; exact ⟨rfl, hEA.out⟩)
      clear hbad
      go_wp2
      go_roundg (ps.length - (k + 1))
      case measure => omega
      case rel => exact ⟨k + 1, rfl, rfl, by omega, hEA.out, fun p hp => by
        rw [List.take_add_one, HP.out] at hp
        rcases List.mem_append.1 hp with h | h
        · exact HT.out p h
        · simp at h
          subst h
          unfold thp thg
          simp
          omega⟩
    · have hkp' : ¬ (k : Int) < (ps.length : Int) := by omega
      go_wp2
      go_ret
      have ht : things (m : Int) ps = true := by
        unfold things
        have h2 : ps.all (thp (m : Int)) = true := List.all_eq_true.2 fun p hp => HT.out p (by rw [List.take_of_length_le (by omega)]; exact hp)
        simp only [Bool.and_eq_true, decide_eq_true_eq]
        exact ⟨⟨by omega, by omega⟩, h2⟩
      first | exact ⟨rfl, HE.out⟩ | (rw [ht]; exact ⟨rfl, HE.out⟩)
/-- where a number stands in a rising row -/
structure Bs2 (zs : List Int) (k : Int) (lo hi : Nat) : Prop where
  le : lo ≤ hi
  hl : hi ≤ zs.length
  lt : ∀ (i : Nat) x, i < lo → zs[i]? = some x → x < k
  ge : ∀ (i : Nat) x, hi ≤ i → zs[i]? = some x → k ≤ x
theorem Bs2.mem {zs : List Int} {k : Int} {lo : Nat} (h : Bs2 zs k lo lo) (hp : zs.Pairwise (· < ·)) : k ∈ zs ↔ zs[lo]? = some k := by
  constructor
  · intro hk
    obtain ⟨i, hi⟩ := List.getElem?_of_mem hk
    rcases Nat.lt_trichotomy i lo with h1 | h1 | h1
    · have := h.lt i k h1 hi; omega
    · subst h1; exact hi
    · obtain ⟨li, ei⟩ := List.getElem?_eq_some_iff.1 hi
      have h2 := h.ge lo zs[lo] (Nat.le_refl _) (List.getElem?_eq_getElem (by omega))
      have h3 := List.pairwise_iff_getElem.1 hp lo i (by omega) li h1
      omega
  · exact List.mem_of_getElem?
set_option maxRecDepth 1000000 in
set_option maxHeartbeats 4000000 in
theorem has_any (B c : Nat) (a : Option Addr) (zs : List Int) (k : Int) (w : World) (ho : w.ownsRow B 3 1 (.slice a zs.length c) zs.length (flat zs)) (hp : zs.Pairwise (· < ·)) (hz : zs.length ≤ 131072) :
    Calls Try.prog 18 #[.slice a zs.length c, .int .i64 k] w fun e w' => e = .returned (.bool (decide (k ∈ zs))) ∧ w' = w := by
  obtain ⟨a', c', hv, ha, -⟩ := own_slice ho
  injection hv with e1 e2 e3
  subst e1
  have HO := hidH ho
  have HP := hidH hp
  clear ho hp
  obtain ⟨n, hn⟩ : ∃ n, zs.length = n := ⟨_, rfl⟩
  have HN := hidH hn
  have B0 : Hid (Bs2 zs k 0 n) := ⟨Nat.zero_le _, by omega, fun i x h => absurd h (Nat.not_lt_zero _), fun i x h hx => by have := (List.getElem?_eq_some_iff.1 hx).1; omega⟩
  rw [hn] at ha hz ⊢
  clear hn e2 e3
  go_enter Try.func18, Try.ntmps18
  go_wp2
  go_loopg [5, 6] n (fun gk s5 s6 wr => ∃ lo hi : Nat, gk = hi - lo ∧ s5 = .int .i64 (lo : Int) ∧ s6 = .int .i64 (hi : Int) ∧ Bs2 zs k lo hi ∧ wr = w)
  case atStart => exact ⟨0, n, by omega, rfl, rfl, B0.out, rfl⟩
  case round =>
    clear B0
    obtain ⟨lo, hi, hgk, rfl, rfl, hB, hwr⟩ := hrel
    subst hwr
    have HB := hidH hB
    have hlh := hB.le
    have hhn : hi ≤ n := by have := hB.hl; have := HN.out; omega
    clear hB
    by_cases hl : lo < hi
    · have hl' : (lo : Int) < (hi : Int) := by omega
      obtain ⟨g, rfl⟩ := ha (by omega)
      obtain ⟨s, hs⟩ : ∃ s, lo + hi = s := ⟨_, rfl⟩
      obtain ⟨m, hm⟩ : ∃ m, s / 2 = m := ⟨_, rfl⟩
      have k1 : IntKind.i64.wrap ((lo : Int) + (hi : Int)) = (s : Int) := by rw [IntWalk.i64_in _ ⟨by omega, by omega⟩]; omega
      have k2 : IntKind.i64.wrap ((s : Int).tdiv 2) = (m : Int) := by rw [Int.tdiv_eq_ediv_of_nonneg (by omega), IntWalk.i64_in _ ⟨by omega, by omega⟩]; omega
      have k3 : IntKind.i64.wrap ((s : Int) / 2) = (m : Int) := by rw [IntWalk.i64_in _ ⟨by omega, by omega⟩]; omega
      have k4 : IntKind.i64.wrap ((m : Int) + 1) = ((m + 1 : Nat) : Int) := by rw [IntWalk.i64_in _ ⟨by omega, by omega⟩]; omega
      have hmn : m < n := by omega
      have hmn' : (m : Int) < (n : Int) := by omega
      have hmb : lo ≤ m ∧ m < hi := by omega
      obtain ⟨x, hx⟩ : ∃ x, zs[m]? = some x := ⟨_, List.getElem?_eq_getElem (by rw [HN.out]; exact hmn)⟩
      have cx := (row_cell HO.out hx).1
      have HX := hidH hx
      have HMB := hidH hmb
      clear hx hs hm hmb
      by_cases hxk : x < k
      · go_wp2
        go_roundg (hi - (m + 1))
        case measure => have := HMB.out; omega
        case rel => exact ⟨m + 1, hi, rfl, rfl, rfl, ⟨by have := HMB.out; omega, HB.out.hl, fun i y hi' hy => by
          have h2 := HMB.out
          by_cases e : i = m
          · subst e; rw [HX.out] at hy; cases hy; exact hxk
          · obtain ⟨l1, e1⟩ := List.getElem?_eq_some_iff.1 hy
            obtain ⟨l2, e2⟩ := List.getElem?_eq_some_iff.1 HX.out
            have h3 := List.pairwise_iff_getElem.1 HP.out i m l1 l2 (by omega)
            omega, HB.out.ge⟩, rfl⟩
      · go_wp2
        go_roundg (m - lo)
        case measure => have := HMB.out; omega
        case rel => exact ⟨lo, m, rfl, rfl, rfl, ⟨HMB.out.1, by have := HMB.out; have := HN.out; omega, HB.out.lt, fun i y hi' hy => by
          obtain ⟨l1, e1⟩ := List.getElem?_eq_some_iff.1 hy
          obtain ⟨l2, e2⟩ := List.getElem?_eq_some_iff.1 HX.out
          by_cases e : i = m
          · subst e; omega
          · have h3 := List.pairwise_iff_getElem.1 HP.out m i l2 l1 (by omega)
            omega⟩, rfl⟩
    · have hl' : ¬ (lo : Int) < (hi : Int) := by omega
      obtain rfl : lo = hi := by omega
      have hmem := HB.out.mem HP.out
      have HME := hidH hmem
      clear hmem
      by_cases hln : lo < n
      · have hln' : (lo : Int) < (n : Int) := by omega
        obtain ⟨g, rfl⟩ := ha (by omega)
        obtain ⟨x, hx⟩ : ∃ x, zs[lo]? = some x := ⟨_, List.getElem?_eq_getElem (by rw [HN.out]; exact hln)⟩
        have cx := (row_cell HO.out hx).1
        by_cases hxk : x = k
        · subst hxk
          have hd : decide (x ∈ zs) = true := decide_eq_true (HME.out.2 hx)
          clear hx
          go_wp2
          go_ret
          first | exact ⟨rfl, rfl⟩ | (rw [hd]; exact ⟨rfl, rfl⟩)
        · have hd : decide (k ∈ zs) = false := decide_eq_false (fun h => by have h9 := HME.out.1 h; rw [hx] at h9; injection h9 with h9; exact hxk h9)
          have hxk' : (x == k) = false := by rw [beq_eq_false_iff_ne]; exact hxk
          clear hx
          go_wp2
          go_ret
          first | exact ⟨rfl, rfl⟩ | (rw [hd]; exact ⟨rfl, rfl⟩)
      · have hln' : ¬ (lo : Int) < (n : Int) := by omega
        have hd : decide (k ∈ zs) = false := decide_eq_false (fun h => by have h9 := HME.out.1 h; have := (List.getElem?_eq_some_iff.1 h9).1; have := HN.out; omega)
        go_wp2
        go_ret
        first | exact ⟨rfl, rfl⟩ | (rw [hd]; exact ⟨rfl, rfl⟩)
end Go.Proofs.Ytgijcbipnjmhgaa
