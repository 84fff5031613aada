import Derived.Test.YthdfccdkomfikabGreatDoorRl6
import Derived.Test.YthdfccdkomfikabGreatDoorLmu
import Derived.Test.YthdfccdkomfikabGreatDoorLc2
import Derived.Test.YthdfccdkomfikabGreatDoorLmy
namespace Go.Proofs.YthdfccdkomfikabGreatDoor
open Go.ChangeShapes Go.WideShapes Go.ChangeAt Go.RowKit
set_option linter.unusedVariables false
set_option linter.unusedSimpArgs false

theorem mks48 : mks.length = 48 := by decide
theorem wds25 : wds.length = 25 := by decide
/-- the spelling of a kind, as the reference has it -/
def spR (k : Nat) : List UInt8 := if k < 7 then [] else if k < 32 then wds.getD (k - 7) [] else mks.getD (k - 32) []
theorem spR_80 (k : Nat) (h : 80 ≤ k) : spR k = [] := by
  unfold spR
  rw [if_neg (by omega), if_neg (by omega), List.getD_eq_getElem?_getD, List.getElem?_eq_none (by rw [mks48]; omega)]
  rfl
set_option maxRecDepth 1000000 in
set_option maxHeartbeats 8000000 in
theorem rSpell_any (k : Nat) (w : World) (hkb : k < 1000) :
    Calls Tryz.prog 74 #[.int .i64 (k : Int)] w fun e w' => e = .returned (.string ⟨(spR k).toArray⟩) ∧ Below w.heap.size w w' := by
  obtain ⟨w1, e1⟩ : ∃ w1, w.alloc (.cells (strV wds).toArray 9) = w1 := ⟨_, rfl⟩
  obtain ⟨w2, e2⟩ : ∃ w2, w1.alloc (.cells (strV mks).toArray 9) = w2 := ⟨_, rfl⟩
  have hb1 : Below w.heap.size w w1 := by rw [← e1]; exact (Below.refl _ _).alloc (Nat.le_refl _) _
  have hz1 : w1.heap.size = w.heap.size + 1 := by rw [← e1]; simp
  have hb2 : Below w.heap.size w w2 := by rw [← e2]; exact hb1.alloc hb1.size _
  have HB2 : Hid (Below w.heap.size w w2) := hb2
  have HW : Hid (Calls Tryz.prog 81 #[] w fun e w' => e = .returned (.slice (some ⟨w.heap.size, 0, none⟩) 25 25) ∧ w' = w1) := by rw [← e1]; exact words_any w
  have HM : Hid (Calls Tryz.prog 83 #[] w1 fun e w' => e = .returned (.slice (some ⟨w1.heap.size, 0, none⟩) 48 48) ∧ w' = w2) := by rw [← e2]; exact marks_any w1
  have hm : ∀ i, i < 48 → w2.cell? ⟨w1.heap.size, i, none⟩ = some (.string ⟨(mks.getD i []).toArray⟩) := fun i hi => by rw [← e2]; exact strV_get mks i (Nat.lt_of_lt_of_eq hi mks48.symm) w1
  have hw : ∀ i, i < 25 → w2.cell? ⟨w.heap.size, i, none⟩ = some (.string ⟨(wds.getD i []).toArray⟩) := fun i hi => by
    have h1 : w1.cell? ⟨w.heap.size, i, none⟩ = some (.string ⟨(wds.getD i []).toArray⟩) := by rw [← e1]; exact strV_get wds i (Nat.lt_of_lt_of_eq hi wds25.symm) w
    rw [← e2]
    exact (((Below.refl w1.heap.size w1).alloc (Nat.le_refl _) (.cells (strV mks).toArray 9)).cell (p := ⟨w.heap.size, i, none⟩) (by show w.heap.size < w1.heap.size; omega)).trans h1
  clear e1 e2 hb1 hb2
  obtain ⟨g, hg⟩ : ∃ g, w1.heap.size = g := ⟨_, rfl⟩
  rw [hg] at HM hm hz1
  obtain ⟨S, hS⟩ : ∃ S : ByteArray, (⟨(spR k).toArray⟩ : ByteArray) = S := ⟨_, rfl⟩
  rw [hS]
  clear hz1 hg
  by_cases h7 : k < 7
  · have hs : spR k = [] := by unfold spR; rw [if_pos h7]
    rw [hs] at hS
    have c1 : ¬ (k : Int) ≥ 7 := by omega
    have c2 : ¬ (k : Int) ≥ 32 := by omega
    subst hS
    clear hm hw hs h7 hkb
    go_enter Tryz.func74, Tryz.ntmps74
    go_wp2_with (first
      | (go_at_call 81; (with_reducible refine HW.out.mono ?_); rintro e w3 ⟨rfl, hw3⟩; subst hw3)
      | (go_at_call 83; (with_reducible refine HM.out.mono ?_); rintro e w3 ⟨rfl, hw3⟩; subst hw3))
    go_ret
    exact ⟨rfl, HB2.out⟩
  by_cases h32 : k < 32
  · have hs : spR k = wds.getD (k - 7) [] := by unfold spR; rw [if_neg h7, if_pos h32]
    rw [hs] at hS
    have c1 : (k : Int) ≥ 7 := by omega
    have c2 : (k : Int) < 32 := by omega
    obtain ⟨i, hi⟩ : ∃ i, k - 7 = i := ⟨_, rfl⟩
    have hki : (k : Int) - 7 = (i : Int) := by omega
    have hc := hw i (by omega)
    rw [hi] at hS
    rw [hS] at hc
    have ci : (i : Int) < 25 := by omega
    have ci2 : i < 25 := by omega
    clear hm hw hs h7 h32 hkb hi hS
    go_enter Tryz.func74, Tryz.ntmps74
    go_wp2_with (first
      | (go_at_call 81; (with_reducible refine HW.out.mono ?_); rintro e w3 ⟨rfl, hw3⟩; subst hw3)
      | (go_at_call 83; (with_reducible refine HM.out.mono ?_); rintro e w3 ⟨rfl, hw3⟩; subst hw3))
    go_ret
    exact ⟨rfl, HB2.out⟩
  by_cases h80 : k < 80
  · have hs : spR k = mks.getD (k - 32) [] := by unfold spR; rw [if_neg h7, if_neg h32]
    rw [hs] at hS
    have c1 : (k : Int) ≥ 7 := by omega
    have c2 : ¬ (k : Int) < 32 := by omega
    have c3 : (k : Int) ≥ 32 := by omega
    have c4 : (k : Int) < 80 := by omega
    obtain ⟨i, hi⟩ : ∃ i, k - 32 = i := ⟨_, rfl⟩
    have hki : (k : Int) - 32 = (i : Int) := by omega
    have hc := hm i (by omega)
    rw [hi] at hS
    rw [hS] at hc
    have ci : (i : Int) < 48 := by omega
    have ci2 : i < 48 := by omega
    clear hm hw hs h7 h32 hkb hi hS h80
    go_enter Tryz.func74, Tryz.ntmps74
    go_wp2_with (first
      | (go_at_call 81; (with_reducible refine HW.out.mono ?_); rintro e w3 ⟨rfl, hw3⟩; subst hw3)
      | (go_at_call 83; (with_reducible refine HM.out.mono ?_); rintro e w3 ⟨rfl, hw3⟩; subst hw3))
    go_ret
    exact ⟨rfl, HB2.out⟩
  · rw [spR_80 k (by omega)] at hS
    have c1 : (k : Int) ≥ 7 := by omega
    have c2 : ¬ (k : Int) < 32 := by omega
    have c3 : (k : Int) ≥ 32 := by omega
    have c4 : ¬ (k : Int) < 80 := by omega
    subst hS
    clear hm hw h7 h32 h80
    go_enter Tryz.func74, Tryz.ntmps74
    go_wp2_with (first
      | (go_at_call 81; (with_reducible refine HW.out.mono ?_); rintro e w3 ⟨rfl, hw3⟩; subst hw3)
      | (go_at_call 83; (with_reducible refine HM.out.mono ?_); rintro e w3 ⟨rfl, hw3⟩; subst hw3))
    go_ret
    exact ⟨rfl, HB2.out⟩
end Go.Proofs.YthdfccdkomfikabGreatDoor

namespace Go.Proofs.YthdfccdkomfikabGreatDoor
open Go.ChangeShapes Go.WideShapes Go.ChangeAt Go.RowKit
set_option linter.unusedVariables false
set_option linter.unusedSimpArgs false

/-- the spellings behind which a semicolon may stand -/
def akl : List (List UInt8) := [[98, 114, 101, 97, 107], [99, 111, 110, 116, 105, 110, 117, 101], [102, 97, 108, 108, 116, 104, 114, 111, 117, 103, 104], [114, 101, 116, 117, 114, 110], [43, 43], [45, 45], [41], [93], [125]]
theorem akl9 : akl.length = 9 := by decide
set_option maxRecDepth 100000 in
theorem akl_yes : ∀ k, k < 80 → ¬ (2 ≤ k ∧ k ≤ 5) → ∀ i, i < 9 → akl.getD i [] = spR k → ask k = true := by decide
set_option maxRecDepth 100000 in
theorem akl_no : ∀ k, k < 80 → ¬ (2 ≤ k ∧ k ≤ 5) → (∀ i, i < 9 → akl.getD i [] ≠ spR k) → ask k = false := by
  have key : ∀ k, k < 80 → ¬ (2 ≤ k ∧ k ≤ 5) → ask k = true → ∃ i, i < 9 ∧ akl.getD i [] = spR k := by decide
  intro k hk h h9
  cases ha : ask k with
  | false => rfl
  | true =>
    obtain ⟨i, hi, e⟩ := key k hk h ha
    exact absurd e (h9 i hi)
theorem ask_mid : ∀ k, 2 ≤ k → k ≤ 5 → ask k = true := by
  intro k h1 h2
  have : ∀ k, k < 6 → 2 ≤ k → ask k = true := by decide
  exact this k (by omega) h1

set_option maxRecDepth 1000000 in
set_option maxHeartbeats 8000000 in
theorem rasks_any (k : Nat) (hk : k < 80) (w : World) :
    Calls Tryz.prog 43 #[.int .i64 (k : Int)] w fun e w' => e = .returned (.bool (ask k)) ∧ Below w.heap.size w w' := by
  by_cases hm : 2 ≤ k ∧ k ≤ 5
  · rw [ask_mid k hm.1 hm.2]
    have c1 : (k : Int) ≥ 2 := by omega
    have c2 : (k : Int) ≤ 5 := by omega
    go_enter Tryz.func43, Tryz.ntmps43
    go_wp2
    go_ret
    exact ⟨rfl, Below.refl _ _⟩
  · obtain ⟨S, hS⟩ : ∃ S : ByteArray, (⟨(spR k).toArray⟩ : ByteArray) = S := ⟨_, rfl⟩
    have hSl : S.data.toList = spR k := by rw [← hS]
    have HSP : Hid (Calls Tryz.prog 74 #[.int .i64 (k : Int)] w fun e w' => e = .returned (.string S) ∧ Below w.heap.size w w') := by rw [← hS]; exact rSpell_any k w (by omega)
    have HY : Hid (∀ i, i < 9 → akl.getD i [] = S.data.toList → ask k = true) := by unfold Hid; rw [hSl]; exact akl_yes k hk hm
    have HN : Hid ((∀ i, i < 9 → akl.getD i [] ≠ S.data.toList) → ask k = false) := by unfold Hid; rw [hSl]; exact akl_no k hk hm
    obtain ⟨b, hb⟩ : ∃ b, ask k = b := ⟨_, rfl⟩
    rw [hb] at HY HN ⊢
    have hcc : (¬ (k : Int) ≥ 2) ∨ ((k : Int) ≥ 2 ∧ ¬ (k : Int) ≤ 5) := by omega
    clear hS hSl hm hb
    rcases hcc with c1 | ⟨c1, c2⟩
    all_goals
      go_enter Tryz.func43, Tryz.ntmps43
      go_wp2_with (go_at_call 74; (with_reducible refine HSP.out.mono ?_); rintro e w3 ⟨rfl, hb3⟩; have HB3 : Hid (Below w.heap.size w w3) := hb3; clear hb3)
      obtain ⟨w4, e4⟩ : ∃ w4, w3.alloc (.cells (strV akl).toArray 9) = w4 := ⟨_, rfl⟩
      have HC4 : Hid (∀ i, i < 9 → w4.cell? ⟨w3.heap.size, i, none⟩ = some (.string ⟨(akl.getD i []).toArray⟩)) := by intro i hi; rw [← e4]; exact strV_get akl i (Nat.lt_of_lt_of_eq hi akl9.symm) w3
      have HB4 : Hid (Below w.heap.size w w4) := by unfold Hid; rw [← e4]; exact HB3.out.alloc HB3.out.size _
      have hz4 : w3.heap.size < w4.heap.size := by rw [← e4]; simp
      have e5 : w3.alloc (.cells #[.string ⟨#[98, 114, 101, 97, 107]⟩, .string ⟨#[99, 111, 110, 116, 105, 110, 117, 101]⟩, .string ⟨#[102, 97, 108, 108, 116, 104, 114, 111, 117, 103, 104]⟩, .string ⟨#[114, 101, 116, 117, 114, 110]⟩, .string ⟨#[43, 43]⟩, .string ⟨#[45, 45]⟩, .string ⟨#[41]⟩, .string ⟨#[93]⟩, .string ⟨#[125]⟩] 9) = w4 := e4
      rw [e5]
      clear e4 e5
      generalize w3.heap.size = g at *
      go_loopw [16] (fun si wi => ∃ i : Nat, i ≤ 9 ∧ si = .int .i64 (i : Int) ∧ (∀ j, j < i → akl.getD j [] ≠ S.data.toList) ∧ wi = w4) (fun si _ => 9 - (intOf si).toNat)
      case atStart => exact ⟨0, by omega, rfl, fun j hj => by omega, by first | rfl | trivial⟩
      case round =>
        obtain ⟨i, hi9, rfl, hno, rfl⟩ := hrel
        have HNO : Hid (∀ j, j < i → akl.getD j [] ≠ S.data.toList) := hno
        clear hno
        by_cases hlt : i < 9
        · have hlt' : (i : Int) < 9 := by omega
          have c4 := HC4.out i hlt
          have hq := str_lit S (akl.getD i [])
          obtain ⟨W, hW⟩ : ∃ W : ByteArray, ⟨(akl.getD i []).toArray⟩ = W := ⟨_, rfl⟩
          rw [hW] at c4 hq
          by_cases hit : akl.getD i [] = S.data.toList
          · rw [decide_eq_true hit] at hq
            have hbt := HY.out i hlt hit
            subst hbt
            clear hit hW
            go_wp2
            go_ret
            exact ⟨rfl, HB4.out⟩
          · rw [decide_eq_false hit] at hq
            have HN2 : Hid (∀ j, j < i + 1 → akl.getD j [] ≠ S.data.toList) := fun j hj => by
              by_cases h : j = i
              · subst h; exact hit
              · exact HNO.out j (by omega)
            clear hit hW
            go_wp2
            go_roundw
            case rel => exact ⟨i + 1, by omega, by go_num, HN2.out, by first | rfl | trivial⟩
            case measure => simp [intOf]; omega
        · have hge : ¬ (i : Int) < 9 := by omega
          have hbf := HN.out (fun j hj => HNO.out j (by omega))
          subst hbf
          go_wp2
          go_ret
          exact ⟨rfl, HB4.out⟩
end Go.Proofs.YthdfccdkomfikabGreatDoor

namespace Go.Proofs.YthdfccdkomfikabGreatDoor
open Go.ChangeShapes Go.WideShapes Go.ChangeAt Go.RowKit
set_option linter.unusedVariables false
set_option linter.unusedSimpArgs false

/-- tokens follow one another without a gap up to the end; only autos are empty; no blanks side by side; each token is itself when cut anew -/
def Chn (s : ByteArray) : Nat → Bool → List Tk → Prop
  | p, _, [] => p = s.size
  | p, b, q :: r => ∃ k t : Nat, q = ⟨k, p, t⟩ ∧ p ≤ t ∧ t ≤ s.size ∧ k < 80 ∧ (k = 6 ↔ p = t) ∧ (b = true → k ≠ 0) ∧ (2 ≤ k → k ≠ 6 → cut (s.extract p t) 0 = ([(⟨k, 0, (s.extract p t).size⟩ : Tk)], none)) ∧ Chn s t (decide (k = 0)) r
theorem chn_cut (s : ByteArray) : ∀ m p (b : Bool), s.size - p ≤ m → p ≤ s.size → (cut s p).2 = none → (b = true → blk (bt s p) = false) → Chn s p b (wau s (cut s p).1)
  | m, p, b, hm, hps, h, hb => by
    by_cases hp : p < s.size
    · cases hc : pce s p with
      | no y z => rw [cut_no hp hc] at h; cases h
      | ok k t =>
        rw [cut_ok hp hc] at h ⊢
        obtain ⟨t1, t2, t3⟩ := pce_ok hp hc
        have hs := pce_stop hp hc
        have hsh := pce_shape hp hc
        have k6 : k ≠ 6 := by
          rcases hsh with e | e | e | e | e | e <;> omega
        have ih : Chn s t (decide (k = 0)) (wau s (cut s t).1) := by
          match m, hm with
          | 0, hm => omega
          | m + 1, hm =>
            refine chn_cut s m t _ (by omega) t2 h fun h0 => hs.1 (of_decide_eq_true h0)
        rw [wau]
        simp only [Int.toNat_natCast]
        refine ⟨k, t, rfl, by omega, t2, t3, by omega, fun hb' => ?_, fun _ _ => cut_self hp hc, ?_⟩
        · intro h0
          rcases hsh with e | e | e | e | e | e
          · rw [hb hb'] at e; exact absurd e.2.1 (by simp)
          all_goals omega
        · by_cases ha : (ask k && aft s (cut s t).1) = true
          · have hk0 : k ≠ 0 := by
              intro h0
              subst h0
              have : ask 0 = false := by decide
              rw [this] at ha
              cases ha
            rw [if_pos ha]
            refine ⟨6, t, rfl, by omega, t2, by omega, by omega, by omega, by omega, ?_⟩
            have e : decide (k = 0) = false := by simp [hk0]
            rw [e] at ih
            exact ih
          · rw [if_neg ha]
            simpa using ih
    · rw [cut_end hp]
      show p = s.size
      omega
theorem chn_at {s : ByteArray} : ∀ (L : List Tk) (p : Nat) (b : Bool) (i : Nat), Chn s p b L → i < L.length → ∃ p' b', Chn s p' b' (L.drop i) ∧ (i = 0 → p' = p ∧ b' = b)
  | q :: r, p, b, 0, h, hi => ⟨p, b, h, fun _ => ⟨rfl, rfl⟩⟩
  | q :: r, p, b, i + 1, h, hi => by
    obtain ⟨k, t, -, -, -, -, -, -, -, h8⟩ := h
    cases r with
    | nil => simp at hi
    | cons q' r' =>
      obtain ⟨p', b', h1, -⟩ := chn_at (q' :: r') t _ i h8 (by simpa using hi)
      exact ⟨p', b', h1, fun h => by omega⟩
end Go.Proofs.YthdfccdkomfikabGreatDoor

namespace Go.Proofs.YthdfccdkomfikabGreatDoor
open Go.ChangeShapes Go.WideShapes Go.ChangeAt Go.RowKit
set_option linter.unusedVariables false
set_option linter.unusedSimpArgs false

theorem dN_one' (b0 b1 b2 b3 c1 c2 c3 : Nat) (h : b1 / 64 ≠ 2) (h' : c1 / 64 ≠ 2) : Lib.decodeN 4 b0 b1 b2 b3 = Lib.decodeN 4 b0 c1 c2 c3 := by
  unfold Lib.decodeN
  simp [h, h']
theorem dN_two' (b0 b1 b2 b3 c2 c3 : Nat) (h : b2 / 64 ≠ 2) (h' : c2 / 64 ≠ 2) : Lib.decodeN 4 b0 b1 b2 b3 = Lib.decodeN 4 b0 b1 c2 c3 := by
  unfold Lib.decodeN
  simp [h, h']
theorem dN_three' (b0 b1 b2 b3 c3 : Nat) (h : b3 / 64 ≠ 2) (h' : c3 / 64 ≠ 2) : Lib.decodeN 4 b0 b1 b2 b3 = Lib.decodeN 4 b0 b1 b2 c3 := by
  unfold Lib.decodeN
  simp [h, h']
/-- a rune hangs on the bytes up to the first that goes on with none, whatever that is -/
theorem dec_stop2 {s s' : ByteArray} {k k' n : Nat} (h : k < s.size) (hn : 1 ≤ n) (ha : Ag s s' k k' n) (hs : bt s (k + n) / 64 ≠ 2) (hs' : bt s' (k' + n) / 64 ≠ 2) : rn s' k' = rn s k ∧ wd s' k' = wd s k := by
  have h' : k' < s'.size := ha.lt (j := 0) (by omega) h
  have e := dec_bt s k h
  have e' := dec_bt s' k' h'
  have a0 : bt s' k' = bt s k := ha 0 (by omega)
  have key : (rn s' k', wd s' k') = (rn s k, wd s k) := by
    rw [e, e', a0]
    by_cases n1 : n = 1
    · subst n1; exact dN_one' _ _ _ _ _ _ _ hs' hs
    have a1 : bt s' (k' + 1) = bt s (k + 1) := ha 1 (by omega)
    rw [a1]
    by_cases n2 : n = 2
    · subst n2; exact dN_two' _ _ _ _ _ _ hs' hs
    have a2 : bt s' (k' + 2) = bt s (k + 2) := ha 2 (by omega)
    rw [a2]
    by_cases n3 : n = 3
    · subst n3; exact dN_three' _ _ _ _ _ hs' hs
    have a3 : bt s' (k' + 3) = bt s (k + 3) := ha 3 (by omega)
    rw [a3]
  exact ⟨congrArg Prod.fst key, congrArg Prod.snd key⟩
theorem fit_byte {s : ByteArray} : ∀ (m : List UInt8) (p i : Nat) (hi : i < m.length), fit s p m → bt s (p + i) = (m[i]'hi).toNat
  | c :: r, p, 0, hi, h => h.1
  | c :: r, p, i + 1, hi, h => by
    have := fit_byte r (p + 1) i (by simpa using hi) h.2
    rw [show p + (i + 1) = p + 1 + i by omega, this]
    rfl
theorem mks_no : ∀ m ∈ mks, ∀ c ∈ m, c.toNat ≠ 10 ∧ c.toNat < 128 ∧ c.toNat ≠ 32 ∧ isLD c.toNat = false := by decide

/-- a, a line feed, b -/
structure Jn (a b J : ByteArray) : Prop where
  size : J.size = a.size + 1 + b.size
  one : ∀ j, j < a.size → bt J j = bt a j
  lf : bt J a.size = 10
  two : ∀ j, bt J (a.size + 1 + j) = bt b j
theorem Jn.ag {a b J : ByteArray} (h : Jn a b J) {p n : Nat} (hn : p + n ≤ a.size) : Ag a J p p n := fun j hj => h.one (p + j) (by omega)
theorem Jn.dec {a b J : ByteArray} (h : Jn a b J) {p : Nat} (hp : p < a.size) : rn J p = rn a p ∧ wd J p = wd a p :=
  dec_stop2 (n := a.size - p) hp (by omega) (h.ag (by omega)) (by rw [show p + (a.size - p) = a.size by omega, bt_out (by omega)]; decide) (by rw [show p + (a.size - p) = a.size by omega, h.lf]; decide)
theorem Jn.rlf {a b J : ByteArray} (h : Jn a b J) : rn J a.size = 10 := by rw [asc_rn (by have := h.size; omega) (by rw [h.lf]; decide), h.lf]
/-- a mark that fits fits in a -/
theorem Jn.bgn {a b J : ByteArray} (h : Jn a b J) {p : Nat} (hp : p ≤ a.size) {m : List UInt8} (hm : m ∈ mks) (hb : bgn J p m = true) : bgn a p m = true := by
  have hl := bgn_le hb
  have hsz := h.size
  rw [bgn_fit _ _ _ (by omega)] at hb
  have hin : p + m.length ≤ a.size := by
    apply Classical.byContradiction
    intro hc
    have hi : a.size - p < m.length := by omega
    have := fit_byte m p (a.size - p) hi hb
    rw [show p + (a.size - p) = a.size by omega, h.lf] at this
    exact (mks_no m hm _ (List.getElem_mem hi)).1 this.symm
  rw [bgn_fit _ _ _ hp, ← fit_ag m p p (h.ag hin)]
  exact hb
/-- a's pieces are the whole's, but blanks at its end -/
theorem Jn.pce_a {a b J : ByteArray} (h : Jn a b J) {p k t : Nat} (hp : p < a.size) (hc : pce a p = .ok k t) (hlast : k = 0 → t < a.size) : pce J p = .ok k t := by
  obtain ⟨t1, t2, -⟩ := pce_ok hp hc
  obtain ⟨s0, s1, s2, s3⟩ := pce_stop hp hc
  have et : p + (t - p) = t := by omega
  have hsz := h.size
  have key := pce_ag (s' := J) (p' := p) hp hc (h.ag (by omega))
    (fun hk => by rw [et, h.one t (hlast hk)]; exact s0 hk)
    (fun hk hb => by
      rw [et]
      by_cases hl : t < a.size
      · left
        rw [h.one t hl]
        rcases s1 hk hb with e | e
        · exact e
        · omega
      · left; rw [show t = a.size by omega]; exact h.lf)
    (fun x y z u hl => by
      rw [et]
      by_cases hl : t < a.size
      · rw [(h.dec hl).1]; exact s2 x y z u hl
      · rw [show t = a.size by omega, h.rlf]; decide)
    (fun hk => ⟨fun m hm hb => (s3 hk).1 m hm (h.bgn (by omega) hm hb), fun e hb => by
      by_cases hl : p + 1 < a.size
      · rw [h.one _ hl]
        exact ⟨fun x => (s3 hk).2 ⟨hb, .inl x⟩, fun x => (s3 hk).2 ⟨hb, .inr x⟩⟩
      · rw [show p + 1 = a.size by omega, h.lf]; exact ⟨by omega, by omega⟩⟩)
  rw [et] at key
  exact key
theorem rnE_fwd {a J : ByteArray} {p : Nat} (hp : p < a.size) (ha : ∀ n, p + n ≤ a.size → Ag a J p p n) (hd : ∀ q, p ≤ q → q < a.size → rn J q = rn a q) (he : a.size < J.size → isLD (rn J a.size) = false) : rnE J p = rnE a p := by
  have hl := rnE_le a (a.size - p) p (Nat.le_refl _) (by omega)
  have := rnE_ag (s := a) (s' := J) (rnE a p - p) (rnE a p - p) p p (Nat.le_refl _) (by omega) (ha _ (by omega)) (fun h1 => by
    rw [show p + (rnE a p - p) = rnE a p by omega] at h1 ⊢
    by_cases h2 : rnE a p < a.size
    · rw [hd _ hl.1 h2]; exact rnE_stop a _ p (Nat.le_refl _) h2
    · rw [show rnE a p = a.size by omega] at h1 ⊢; exact he h1)
  omega
/-- a's faults that no text behind mends are the whole's -/
theorem Jn.pce_no {a b J : ByteArray} (h : Jn a b J) {p y z : Nat} (hp : p < a.size) (hc : pce a p = .no y z) (h22 : y ≠ 22) (h23 : y ≠ 23) : pce J p = .no y z := by
  have hsz := h.size
  have a0 : bt J p = bt a p := h.one p hp
  have hrn := (h.dec hp).1
  have hnx : bt a p = 47 → (bt J (p + 1) = 47 → bt a (p + 1) = 47) ∧ (bt J (p + 1) = 42 → bt a (p + 1) = 42) := fun _ => by
    by_cases hl : p + 1 < a.size
    · rw [h.one _ hl]; exact ⟨id, id⟩
    · rw [show p + 1 = a.size by omega, h.lf]; exact ⟨by omega, by omega⟩
  have hrun := rnE_fwd (a := a) (J := J) hp (fun n hn => h.ag hn) (fun q _ hq => (h.dec hq).1) (fun _ => by rw [h.rlf]; decide)
  have hl := rnE_le a (a.size - p) p (Nat.le_refl _) (by omega)
  unfold pce at hc ⊢
  rw [a0, hrn]
  by_cases g1 : blk (bt a p) = true
  · rw [if_pos g1] at hc; cases hc
  rw [if_neg g1] at hc ⊢
  by_cases g2 : bt a p = 47 ∧ bt a (p + 1) = 47
  · rw [if_pos g2] at hc; cases hc
  rw [if_neg g2] at hc
  by_cases g3 : bt a p = 47 ∧ bt a (p + 1) = 42
  · rw [if_pos g3] at hc
    cases hf : fn2 a 42 47 (p + 2) with
    | none => rw [hf] at hc; cases hc; exact absurd rfl h23
    | some x => rw [hf] at hc; cases hc
  rw [if_neg g3] at hc
  rw [if_neg (fun e => g2 ⟨e.1, (hnx e.1).1 e.2⟩), if_neg (fun e => g3 ⟨e.1, (hnx e.1).2 e.2⟩)]
  have hext : J.extract p (rnE a p) = a.extract p (rnE a p) := by
    have := ext_ag (h.ag (p := p) (n := rnE a p - p) (by omega)) (by omega)
    rw [show p + (rnE a p - p) = rnE a p by omega] at this
    exact this
  by_cases g4 : isL (rn a p) = true
  · rw [if_pos g4] at hc ⊢
    unfold nmP at hc ⊢
    rw [hrun, hext]
    exact hc
  rw [if_neg g4] at hc ⊢
  by_cases g5 : 48 ≤ bt a p ∧ bt a p ≤ 57
  · rw [if_pos g5] at hc ⊢
    unfold ruP at hc ⊢
    rw [hrun, hext]
    exact hc
  rw [if_neg g5] at hc ⊢
  by_cases g6 : bt a p = 39 ∨ bt a p = 34 ∨ bt a p = 96
  · rw [if_pos g6] at hc ⊢
    unfold quP at hc ⊢
    rw [a0]
    by_cases h96 : bt a p = 96
    · rw [if_pos h96] at hc
      split at hc
      · cases hc
      · cases hc; exact absurd rfl h22
    · rw [if_neg h96] at hc ⊢
      cases hq : quo a (bt a p) (p + 1) 0 none with
      | none => rw [hq] at hc; cases hc; exact absurd rfl h22
      | some x =>
        obtain ⟨t', c', bad'⟩ := x
        rw [hq] at hc
        simp only at hc
        have hle := quo_le a (bt a p) (a.size - (p + 1)) (p + 1) 0 none t' c' bad' (Nat.le_refl _) hq
        split at hc
        · cases hc; exact absurd rfl h22
        · rename_i h39
          cases bad' with
          | none => cases hc
          | some z' =>
            simp only at hc
            cases hc
            obtain ⟨-, o, ho, hq'⟩ := quo_ag0 (s' := J) (p' := p) (by omega) hq (h.ag (by omega))
            rw [hq']
            simp only
            rw [if_neg h39, ← ho]
  rw [if_neg g6] at hc ⊢
  unfold mkP at hc ⊢
  rcases mkF_spec a p mks 0 (0, p) with ⟨e, hall⟩ | ⟨n, n1, n2, n3, n4, n5⟩
  · rw [e, if_pos rfl] at hc
    cases hc
    rcases mkF_spec J p mks 0 (0, p) with ⟨e', -⟩ | ⟨n, n1, n2, n3, n4, n5⟩
    · rw [e', if_pos rfl]
    · exfalso
      have hn : n < 48 := by have := tt_len.2; omega
      have := hall _ (mks_in hn) (h.bgn (by omega) (mks_in hn) n2)
      simp only at this n4
      omega
  · rw [n3] at hc
    simp only at hc n4
    rw [if_neg (by omega)] at hc
    cases hc

-- all bytes from a place on agree
def Fg (s s' : ByteArray) (p p' : Nat) : Prop := ∀ j, bt s' (p' + j) = bt s (p + j)
theorem Fg.ag {s s' : ByteArray} {p p' : Nat} (h : Fg s s' p p') (n : Nat) : Ag s s' p p' n := fun j _ => h j
theorem Fg.symm {s s' : ByteArray} {p p' : Nat} (h : Fg s s' p p') : Fg s' s p' p := fun j => (h j).symm
theorem Fg.on {s s' : ByteArray} {p p' : Nat} (h : Fg s s' p p') (i : Nat) : Fg s s' (p + i) (p' + i) := fun j => by have := h (i + j); rw [Nat.add_assoc, Nat.add_assoc]; exact this
theorem Fg.lt {s s' : ByteArray} {p p' : Nat} (h : Fg s s' p p') (i : Nat) : p' + i < s'.size ↔ p + i < s.size := by rw [← bt_256, ← bt_256, h i]
theorem Fg.dec {s s' : ByteArray} {p p' : Nat} (h : Fg s s' p p') (hp : p < s.size) : rn s' p' = rn s p ∧ wd s' p' = wd s p := by
  have hp' : p' < s'.size := (h.lt 0).2 hp
  have e := dec_bt s p hp
  have e' := dec_bt s' p' hp'
  have a0 : bt s' p' = bt s p := h 0
  rw [a0, h 1, h 2, h 3, ← e] at e'
  exact ⟨congrArg Prod.fst e', congrArg Prod.snd e'⟩
theorem Fg.bgn {s s' : ByteArray} {p p' : Nat} (h : Fg s s' p p') (hp : p < s.size) (m : List UInt8) : bgn s' p' m = true ↔ bgn s p m = true := by
  have hp' : p' < s'.size := (h.lt 0).2 hp
  rw [bgn_fit _ _ _ (by omega), bgn_fit _ _ _ (by omega)]
  exact fit_ag m p p' (h.ag _)
theorem Fg.run {s s' : ByteArray} {p p' : Nat} (h : Fg s s' p p') (hp : p < s.size) : rnE s' p' = p' + (rnE s p - p) := by
  have hl := rnE_le s (s.size - p) p (Nat.le_refl _) (by omega)
  refine rnE_ag (rnE s p - p) (rnE s p - p) p p' (Nat.le_refl _) (by omega) (h.ag _) (fun h1 => ?_)
  have h2 : p + (rnE s p - p) < s.size := (h.lt _).1 h1
  rw [((h.on (rnE s p - p)).dec h2).1]
  rw [show p + (rnE s p - p) = rnE s p by omega] at h2 ⊢
  exact rnE_stop s _ p (Nat.le_refl _) h2
theorem Fg.pce_ok {s s' : ByteArray} {p p' k t : Nat} (h : Fg s s' p p') (hp : p < s.size) (hc : pce s p = .ok k t) : pce s' p' = .ok k (p' + (t - p)) := by
  obtain ⟨t1, t2, -⟩ := Go.Proofs.YthdfccdkomfikabGreatDoor.pce_ok hp hc
  obtain ⟨s0, s1, s2, s3⟩ := pce_stop hp hc
  have et : p + (t - p) = t := by omega
  have hb : bt s' (p' + (t - p)) = bt s t := by rw [h (t - p), et]
  refine pce_ag hp hc (h.ag _) (fun hk => by rw [hb]; exact s0 hk) (fun hk hx => ?_) (fun x y z u hl => ?_) (fun hk => ⟨fun m hm hbm => (s3 hk).1 m hm ((h.bgn hp m).1 hbm), fun _ hx => by rw [h 1]; exact ⟨fun x => (s3 hk).2 ⟨hx, .inl x⟩, fun x => (s3 hk).2 ⟨hx, .inr x⟩⟩⟩)
  · rw [hb]
    rcases s1 hk hx with e | e
    · exact .inl e
    · right
      have := (h.lt (t - p)).1
      omega
  · have hl' : p + (t - p) < s.size := (h.lt _).1 hl
    rw [((h.on (t - p)).dec hl').1, et]
    exact s2 x y z u (by omega)
theorem Fg.pce_no {s s' : ByteArray} {p p' y z : Nat} (h : Fg s s' p p') (hp : p < s.size) (hc : pce s p = .no y z) : p ≤ z ∧ pce s' p' = .no y (p' + (z - p)) := by
  have hp' : p' < s'.size := (h.lt 0).2 hp
  have a0 : bt s' p' = bt s p := h 0
  have a1 : bt s' (p' + 1) = bt s (p + 1) := h 1
  have hrn := (h.dec hp).1
  have hrun := h.run hp
  have hl := rnE_le s (s.size - p) p (Nat.le_refl _) (by omega)
  have hext : s'.extract p' (p' + (rnE s p - p)) = s.extract p (rnE s p) := by
    have := ext_ag (h.ag (rnE s p - p)) (by omega)
    rw [show p + (rnE s p - p) = rnE s p by omega] at this
    exact this
  have self : p' + (p - p) = p' := by omega
  unfold pce at hc ⊢
  rw [a0, a1, hrn]
  by_cases g1 : blk (bt s p) = true
  · rw [if_pos g1] at hc; cases hc
  rw [if_neg g1] at hc ⊢
  by_cases g2 : bt s p = 47 ∧ bt s (p + 1) = 47
  · rw [if_pos g2] at hc; cases hc
  rw [if_neg g2] at hc ⊢
  by_cases g3 : bt s p = 47 ∧ bt s (p + 1) = 42
  · rw [if_pos g3] at hc ⊢
    cases hf : fn2 s 42 47 (p + 2) with
    | some x => rw [hf] at hc; cases hc
    | none =>
      rw [hf] at hc
      cases hc
      refine ⟨Nat.le_refl _, ?_⟩
      cases hf' : fn2 s' 42 47 (p' + 2) with
      | none => rw [self]
      | some x =>
        exfalso
        have hle := fn2_le s' 42 47 (by omega) _ _ _ (Nat.le_refl _) hf'
        have := fn2_ag (s := s') (s' := s) (x - (p' + 2)) (p' + 2) (p + 2) (by rw [hf']; congr 1; omega) ((h.symm.on 2).ag _)
        rw [hf] at this
        cases this
  rw [if_neg g3] at hc ⊢
  by_cases g4 : isL (rn s p) = true
  · rw [if_pos g4] at hc ⊢
    unfold nmP at hc ⊢
    rw [hrun, hext]
    split at hc
    · rename_i h2
      cases hc
      rw [if_pos (by omega), self]
      exact ⟨Nat.le_refl _, rfl⟩
    · cases hc
  rw [if_neg g4] at hc ⊢
  by_cases g5 : 48 ≤ bt s p ∧ bt s p ≤ 57
  · rw [if_pos g5] at hc ⊢
    unfold ruP at hc ⊢
    rw [hrun, hext]
    split at hc
    · cases hc
    · rename_i h2
      cases hc
      rw [if_neg h2, self]
      exact ⟨Nat.le_refl _, rfl⟩
  rw [if_neg g5] at hc ⊢
  by_cases g6 : bt s p = 39 ∨ bt s p = 34 ∨ bt s p = 96
  · rw [if_pos g6] at hc ⊢
    unfold quP at hc ⊢
    rw [a0]
    by_cases h96 : bt s p = 96
    · rw [if_pos h96] at hc ⊢
      have hl2 := fnd_le s 96 (s.size - (p + 1)) (p + 1) (Nat.le_refl _) (by omega)
      split at hc
      · cases hc
      · rename_i hf
        cases hc
        have e1 : fnd s' 96 (p' + 1) = p' + 1 + (fnd s 96 (p + 1) - (p + 1)) := by
          refine fnd_ag _ (p + 1) (p' + 1) (by omega) ((h.on 1).ag _) (.inr ?_)
          have := (h.lt (1 + (fnd s 96 (p + 1) - (p + 1)))).1
          omega
        rw [e1, self]
        refine ⟨Nat.le_refl _, ?_⟩
        rw [if_neg]
        intro hx
        have := (h.lt (1 + (fnd s 96 (p + 1) - (p + 1)))).1 (by omega)
        omega
    · rw [if_neg h96] at hc ⊢
      cases hq : quo s (bt s p) (p + 1) 0 none with
      | none =>
        rw [hq] at hc
        cases hc
        refine ⟨Nat.le_refl _, ?_⟩
        cases hq' : quo s' (bt s p) (p' + 1) 0 none with
        | none => rw [self]
        | some x =>
          exfalso
          obtain ⟨t', c', bad'⟩ := x
          obtain ⟨-, o, ho, hq2⟩ := quo_ag0 (s := s') (s' := s) (p' := p) (by omega) hq' (h.symm.ag _)
          rw [hq] at hq2
          cases hq2
      | some x =>
        obtain ⟨t', c', bad'⟩ := x
        rw [hq] at hc
        simp only at hc
        obtain ⟨-, o, ho, hq'⟩ := quo_ag0 (s' := s') (p' := p') (by omega) hq (h.ag _)
        rw [hq']
        simp only
        split at hc
        · rename_i h39
          cases hc
          rw [if_pos h39, self]
          exact ⟨Nat.le_refl _, rfl⟩
        · rename_i h39
          cases bad' with
          | none => cases hc
          | some z' =>
            simp only at hc
            cases hc
            cases o with
            | none => cases ho
            | some i =>
              have : z = p + i := by simpa using ho
              subst this
              rw [if_neg h39]
              refine ⟨by omega, ?_⟩
              show Pce.no 20 (p' + i) = _
              congr 1
              omega
  rw [if_neg g6] at hc ⊢
  unfold mkP at hc ⊢
  rcases mkF_spec s p mks 0 (0, p) with ⟨e, hall⟩ | ⟨n, n1, n2, n3, n4, n5⟩
  · rw [e, if_pos rfl] at hc
    cases hc
    refine ⟨Nat.le_refl _, ?_⟩
    rcases mkF_spec s' p' mks 0 (0, p') with ⟨e', -⟩ | ⟨n, n1, n2, n3, n4, n5⟩
    · rw [e', if_pos rfl, self]
    · exfalso
      have hn : n < 48 := by have := tt_len.2; omega
      have := hall _ (mks_in hn) ((h.bgn hp _).1 n2)
      simp only at this n4
      omega
  · rw [n3] at hc
    simp only at hc n4
    rw [if_neg (by omega)] at hc
    cases hc
end Go.Proofs.YthdfccdkomfikabGreatDoor
