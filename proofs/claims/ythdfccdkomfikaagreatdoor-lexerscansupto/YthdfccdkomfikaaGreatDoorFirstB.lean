import Derived.Test.YthdfccdkomfikaaGreatDoorTm7
import Derived.Test.YthdfccdkomfikaaGreatDoorLc2
import Derived.Test.YthdfccdkomfikaaGreatDoorLmy
import Derived.Test.YthdfccdkomfikaaGreatDoorLmz
namespace Go.Proofs.YthdfccdkomfikaaGreatDoor
open Go.ChangeShapes Go.WideShapes Go.ChangeAt Go.RowKit
set_option linter.unusedVariables false
set_option linter.unusedSimpArgs false

/-- the spellings behind which a semicolon may stand -/
def akl : List (List UInt8) := [[98, 114, 101, 97, 107], [99, 111, 110, 116, 105, 110, 117, 101], [102, 97, 108, 108, 116, 104, 114, 111, 117, 103, 104], [114, 101, 116, 117, 114, 110], [43, 43], [45, 45], [41], [93], [125]]
theorem akl9 : akl.length = 9 := by decide
set_option maxRecDepth 100000 in
theorem akl_yes : ∀ k, k < 80 → ¬ (2 ≤ k ∧ k ≤ 5) → ∀ i, i < 9 → akl.getD i [] = spR k → ask k = true := by decide
set_option maxRecDepth 100000 in
theorem akl_no : ∀ k, k < 80 → ¬ (2 ≤ k ∧ k ≤ 5) → (∀ i, i < 9 → akl.getD i [] ≠ spR k) → ask k = false := by
  have key : ∀ k, k < 80 → ¬ (2 ≤ k ∧ k ≤ 5) → ask k = true → ∃ i, i < 9 ∧ akl.getD i [] = spR k := by decide
  intro k hk h h9
  cases ha : ask k with
  | false => rfl
  | true =>
    obtain ⟨i, hi, e⟩ := key k hk h ha
    exact absurd e (h9 i hi)
theorem ask_mid : ∀ k, 2 ≤ k → k ≤ 5 → ask k = true := by
  intro k h1 h2
  have : ∀ k, k < 6 → 2 ≤ k → ask k = true := by decide
  exact this k (by omega) h1

set_option maxRecDepth 1000000 in
set_option maxHeartbeats 8000000 in
theorem rasks_any (k : Nat) (hk : k < 80) (w : World) :
    Calls Tryz.prog 22 #[.int .i64 (k : Int)] w fun e w' => e = .returned (.bool (ask k)) ∧ Below w.heap.size w w' := by
  by_cases hm : 2 ≤ k ∧ k ≤ 5
  · rw [ask_mid k hm.1 hm.2]
    have c1 : (k : Int) ≥ 2 := by omega
    have c2 : (k : Int) ≤ 5 := by omega
    go_enter Tryz.func22, Tryz.ntmps22
    go_wp2
    go_ret
    exact ⟨rfl, Below.refl _ _⟩
  · obtain ⟨S, hS⟩ : ∃ S : ByteArray, (⟨(spR k).toArray⟩ : ByteArray) = S := ⟨_, rfl⟩
    have hSl : S.data.toList = spR k := by rw [← hS]
    have HSP : Hid (Calls Tryz.prog 14 #[.int .i64 (k : Int)] w fun e w' => e = .returned (.string S) ∧ Below w.heap.size w w') := by rw [← hS]; exact rSpell_any k w (by omega)
    have HY : Hid (∀ i, i < 9 → akl.getD i [] = S.data.toList → ask k = true) := by unfold Hid; rw [hSl]; exact akl_yes k hk hm
    have HN : Hid ((∀ i, i < 9 → akl.getD i [] ≠ S.data.toList) → ask k = false) := by unfold Hid; rw [hSl]; exact akl_no k hk hm
    obtain ⟨b, hb⟩ : ∃ b, ask k = b := ⟨_, rfl⟩
    rw [hb] at HY HN ⊢
    have hcc : (¬ (k : Int) ≥ 2) ∨ ((k : Int) ≥ 2 ∧ ¬ (k : Int) ≤ 5) := by omega
    clear hS hSl hm hb
    rcases hcc with c1 | ⟨c1, c2⟩
    all_goals
      go_enter Tryz.func22, Tryz.ntmps22
      go_wp2_with (go_at_call 14; (with_reducible refine HSP.out.mono ?_); rintro e w3 ⟨rfl, hb3⟩; have HB3 : Hid (Below w.heap.size w w3) := hb3; clear hb3)
      obtain ⟨w4, e4⟩ : ∃ w4, w3.alloc (.cells (strV akl).toArray 9) = w4 := ⟨_, rfl⟩
      have HC4 : Hid (∀ i, i < 9 → w4.cell? ⟨w3.heap.size, i, none⟩ = some (.string ⟨(akl.getD i []).toArray⟩)) := by intro i hi; rw [← e4]; exact strV_get akl i (Nat.lt_of_lt_of_eq hi akl9.symm) w3
      have HB4 : Hid (Below w.heap.size w w4) := by unfold Hid; rw [← e4]; exact HB3.out.alloc HB3.out.size _
      have hz4 : w3.heap.size < w4.heap.size := by rw [← e4]; simp
      have e5 : w3.alloc (.cells #[.string ⟨#[98, 114, 101, 97, 107]⟩, .string ⟨#[99, 111, 110, 116, 105, 110, 117, 101]⟩, .string ⟨#[102, 97, 108, 108, 116, 104, 114, 111, 117, 103, 104]⟩, .string ⟨#[114, 101, 116, 117, 114, 110]⟩, .string ⟨#[43, 43]⟩, .string ⟨#[45, 45]⟩, .string ⟨#[41]⟩, .string ⟨#[93]⟩, .string ⟨#[125]⟩] 9) = w4 := e4
      rw [e5]
      clear e4 e5
      generalize w3.heap.size = g at *
      go_loopw [16] (fun si wi => ∃ i : Nat, i ≤ 9 ∧ si = .int .i64 (i : Int) ∧ (∀ j, j < i → akl.getD j [] ≠ S.data.toList) ∧ wi = w4) (fun si _ => 9 - (intOf si).toNat)
      case atStart => exact ⟨0, by omega, rfl, fun j hj => by omega, by first | rfl | trivial⟩
      case round =>
        obtain ⟨i, hi9, rfl, hno, rfl⟩ := hrel
        have HNO : Hid (∀ j, j < i → akl.getD j [] ≠ S.data.toList) := hno
        clear hno
        by_cases hlt : i < 9
        · have hlt' : (i : Int) < 9 := by omega
          have c4 := HC4.out i hlt
          have hq := str_lit S (akl.getD i [])
          obtain ⟨W, hW⟩ : ∃ W : ByteArray, ⟨(akl.getD i []).toArray⟩ = W := ⟨_, rfl⟩
          rw [hW] at c4 hq
          by_cases hit : akl.getD i [] = S.data.toList
          · rw [decide_eq_true hit] at hq
            have hbt := HY.out i hlt hit
            subst hbt
            clear hit hW
            go_wp2
            go_ret
            exact ⟨rfl, HB4.out⟩
          · rw [decide_eq_false hit] at hq
            have HN2 : Hid (∀ j, j < i + 1 → akl.getD j [] ≠ S.data.toList) := fun j hj => by
              by_cases h : j = i
              · subst h; exact hit
              · exact HNO.out j (by omega)
            clear hit hW
            go_wp2
            go_roundw
            case rel => exact ⟨i + 1, by omega, by go_num, HN2.out, by first | rfl | trivial⟩
            case measure => simp [intOf]; omega
        · have hge : ¬ (i : Int) < 9 := by omega
          have hbf := HN.out (fun j hj => HNO.out j (by omega))
          subst hbf
          go_wp2
          go_ret
          exact ⟨rfl, HB4.out⟩
end Go.Proofs.YthdfccdkomfikaaGreatDoor

namespace Go.Proofs.YthdfccdkomfikaaGreatDoor
open Go.ChangeShapes Go.WideShapes Go.ChangeAt Go.RowKit
set_option linter.unusedVariables false
set_option linter.unusedSimpArgs false

/-- tokens follow one another without a gap up to the end; only autos are empty; no blanks side by side; each token is itself when cut anew -/
def Chn (s : ByteArray) : Nat → Bool → List Tk → Prop
  | p, _, [] => p = s.size
  | p, b, q :: r => ∃ k t : Nat, q = ⟨k, p, t⟩ ∧ p ≤ t ∧ t ≤ s.size ∧ k < 80 ∧ (k = 6 ↔ p = t) ∧ (b = true → k ≠ 0) ∧ (2 ≤ k → k ≠ 6 → cut (s.extract p t) 0 = ([(⟨k, 0, (s.extract p t).size⟩ : Tk)], none)) ∧ Chn s t (decide (k = 0)) r
theorem chn_cut (s : ByteArray) : ∀ m p (b : Bool), s.size - p ≤ m → p ≤ s.size → (cut s p).2 = none → (b = true → blk (bt s p) = false) → Chn s p b (wau s (cut s p).1)
  | m, p, b, hm, hps, h, hb => by
    by_cases hp : p < s.size
    · cases hc : pce s p with
      | no y z => rw [cut_no hp hc] at h; cases h
      | ok k t =>
        rw [cut_ok hp hc] at h ⊢
        obtain ⟨t1, t2, t3⟩ := pce_ok hp hc
        have hs := pce_stop hp hc
        have hsh := pce_shape hp hc
        have k6 : k ≠ 6 := by
          rcases hsh with e | e | e | e | e | e <;> omega
        have ih : Chn s t (decide (k = 0)) (wau s (cut s t).1) := by
          match m, hm with
          | 0, hm => omega
          | m + 1, hm =>
            refine chn_cut s m t _ (by omega) t2 h fun h0 => hs.1 (of_decide_eq_true h0)
        rw [wau]
        simp only [Int.toNat_natCast]
        refine ⟨k, t, rfl, by omega, t2, t3, by omega, fun hb' => ?_, fun _ _ => cut_self hp hc, ?_⟩
        · intro h0
          rcases hsh with e | e | e | e | e | e
          · rw [hb hb'] at e; exact absurd e.2.1 (by simp)
          all_goals omega
        · by_cases ha : (ask k && aft s (cut s t).1) = true
          · have hk0 : k ≠ 0 := by
              intro h0
              subst h0
              have : ask 0 = false := by decide
              rw [this] at ha
              cases ha
            rw [if_pos ha]
            refine ⟨6, t, rfl, by omega, t2, by omega, by omega, by omega, by omega, ?_⟩
            have e : decide (k = 0) = false := by simp [hk0]
            rw [e] at ih
            exact ih
          · rw [if_neg ha]
            simpa using ih
    · rw [cut_end hp]
      show p = s.size
      omega
theorem chn_at {s : ByteArray} : ∀ (L : List Tk) (p : Nat) (b : Bool) (i : Nat), Chn s p b L → i < L.length → ∃ p' b', Chn s p' b' (L.drop i) ∧ (i = 0 → p' = p ∧ b' = b)
  | q :: r, p, b, 0, h, hi => ⟨p, b, h, fun _ => ⟨rfl, rfl⟩⟩
  | q :: r, p, b, i + 1, h, hi => by
    obtain ⟨k, t, -, -, -, -, -, -, -, h8⟩ := h
    cases r with
    | nil => simp at hi
    | cons q' r' =>
      obtain ⟨p', b', h1, -⟩ := chn_at (q' :: r') t _ i h8 (by simpa using hi)
      exact ⟨p', b', h1, fun h => by omega⟩
end Go.Proofs.YthdfccdkomfikaaGreatDoor

namespace Go.Proofs.YthdfccdkomfikaaGreatDoor
open Go.ChangeShapes Go.WideShapes Go.ChangeAt Go.RowKit Go.Maps Go.WideMaps
set_option linter.unusedVariables false
set_option linter.unusedSimpArgs false

theorem hid_of {p : Prop} (h : p) : Hid p := h
def MaxL (w : World) : Prop := ∃ m, w.cell? ⟨4, 0, none⟩ = some (.int .i64 m)
theorem MaxL.below {w w' : World} (h : MaxL w) (hb : Below w.heap.size w w') : MaxL w' := by
  obtain ⟨m, hm⟩ := h
  exact ⟨m, (hb.cell (p := ⟨4, 0, none⟩) (World.block_lt_of_cell? _ _ hm)).trans hm⟩
/-- Scan of a text with a fault -/
theorem scan_no {s : ByteArray} (hs : s.size ≤ 4294967280) {y z : Nat} (hc : (cut s 0).2 = some (y, z)) (w : World) (hS : Spl w) (hT : Lt w) (hM : MaxL w) :
    Calls Tryz.prog 6 #[.string s] w fun e w' => e = .returned (.tuple #[.slice none 0 0, .agg #[.int .i64 (y : Int), .int .i64 0, .int .i64 (z : Int)]]) ∧ Below w.heap.size w w' := by
  refine (Scan_any s hs w hS hT hM).mono fun e w' h => ?_
  unfold SnE at h
  rw [hc] at h
  exact ⟨h.2, h.1⟩
/-- .. and of one without -/
theorem scan_ok {s : ByteArray} (hs : s.size ≤ 4294967280) (hc : (cut s 0).2 = none) (w : World) (hS : Spl w) (hT : Lt w) (hM : MaxL w) :
    Calls Tryz.prog 6 #[.string s] w fun e w' => ∃ a c, e = .returned (.tuple #[.slice a (wau s (cut s 0).1).length c, .agg #[.int .i64 0, .int .i64 0, .int .i64 0]]) ∧ LiesA w' a (wau s (cut s 0).1) ∧ (wau s (cut s 0).1).length ≤ c ∧ (a = none → c = 0) ∧ Below w.heap.size w w' := by
  refine (Scan_any s hs w hS hT hM).mono fun e w' h => ?_
  unfold SnE at h
  rw [hc] at h
  obtain ⟨hb, v, he, ho⟩ := h
  obtain ⟨a, c, rfl, hl, -, hn⟩ := own_form ho
  refine ⟨a, c, he, hl, ?_, fun h => (hn h).2, hb⟩
  rcases ho.2 with ⟨h1, h2⟩ | ⟨g, cap, cur, hv, hg, hh, hcap, -⟩
  · omega
  · cases hv; exact hcap
theorem wau_pos {s : ByteArray} (hc : (cut s 0).2 = none) (h : 0 < s.size) : 0 < (wau s (cut s 0).1).length := by
  cases hp : pce s 0 with
  | no y z => rw [cut_no h hp] at hc; cases hc
  | ok k t => rw [cut_ok h hp]; simp [wau]

end Go.Proofs.YthdfccdkomfikaaGreatDoor
