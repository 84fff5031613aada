import Derived.Test.YthdfccdkomfikabGreatDoorRlE
import Derived.Test.YthdfccdkomfikabGreatDoorLc4
import Derived.Test.YthdfccdkomfikabGreatDoorLc5
namespace Go.Proofs.YthdfccdkomfikabGreatDoor
open Go.ChangeShapes Go.WideShapes Go.ChangeAt Go.RowKit
set_option linter.unusedVariables false
set_option linter.unusedSimpArgs false

theorem nlc_not {s : ByteArray} {f t : Nat} (ht : t ≤ s.size) (hno : ∀ i, f ≤ i → i < t → bt s i ≠ 10) (k : Int) : nlc s ⟨k, f, t⟩ = false := by
  have hz : (s.extract f t).size = t - f := by rw [ByteArray.size_extract]; omega
  have e : (s.extract f t).data.toList = dl (s.extract f t) 0 := by rw [dl_drop]; rfl
  have hx := idx_fnd (s.extract f t) 10 (s.extract f t).size 0 (by omega) (by omega)
  have e10 : (10 : UInt8).toNat = 10 := rfl
  have hn : ¬ fnd (s.extract f t) 10 0 < (s.extract f t).size := by
    intro hl
    rcases fnd_stop (s.extract f t) 10 _ 0 (Nat.le_refl _) with h | h
    · rw [bt_ex _ _ _ _ ht, if_pos (by omega)] at h
      exact hno _ (by omega) (by omega) h
    · omega
  rw [e10, if_neg hn, ← e] at hx
  rw [nlc_nat, hx]
  decide
theorem fnd_none (s : ByteArray) (c : Nat) : ∀ m k i, s.size - k ≤ m → k ≤ i → i < fnd s c k → bt s i ≠ c
  | m, k, i, hm, h1, h2 => by
    by_cases h : k < s.size ∧ bt s k ≠ c
    · rw [fnd_in h.1 h.2] at h2
      by_cases e : k = i
      · subst e; exact h.2
      · match m, hm with
        | 0, hm => omega
        | m + 1, hm => exact fnd_none s c m (k + 1) i (by omega) (by omega) h2
    · rw [fnd_out h] at h2; omega
/-- how feed ends -/
def FdE (s : ByteArray) (p : Nat) (e : Ending) : Prop := ∃ b, e = .returned (.bool b) ∧ ((cut s p).2 = none → b = aft s (cut s p).1)
theorem FdE.mk {s : ByteArray} {p : Nat} (b : Bool) (h : (cut s p).2 = none → aft s (cut s p).1 = b) : FdE s p (.returned (.bool b)) := ⟨b, rfl, fun h' => (h h').symm⟩

set_option maxRecDepth 1000000 in
set_option maxHeartbeats 8000000 in
theorem rfeed_any (s : ByteArray) (p : Nat) (hs : s.size ≤ 4294967280) (hp : p ≤ s.size) (w : World) (hT : Lt w) :
    Calls Tryz.prog 44 #[.string s, .int .i64 (p : Int)] w fun e w' => FdE s p e ∧ Below w.heap.size w w' := by
  have HT : Hid (∀ v, Below w.heap.size w v → Lt v) := fun v hv => hT.below hv
  have HF : Hid (∀ b, ((cut s p).2 = none → aft s (cut s p).1 = b) → FdE s p (.returned (.bool b))) := fun b h => FdE.mk b h
  clear hT
  go_enter Tryz.func44, Tryz.ntmps44
  go_wp2
  go_loopw [1] (fun st wr => ∃ q : Nat, q ≤ s.size ∧ st = .int .i64 (q : Int) ∧ ((cut s p).2 = none → (cut s q).2 = none ∧ aft s (cut s q).1 = aft s (cut s p).1) ∧ Below w.heap.size w wr) (fun st _ => s.size - (intOf st).toNat)
  case atStart => exact ⟨p, hp, rfl, fun h => ⟨h, rfl⟩, Below.refl _ _⟩
  case round =>
    obtain ⟨q, hqs, rfl, hcut, hbel⟩ := hrel
    have HB : Hid (Below w.heap.size w wr) := hbel
    have HC : Hid ((cut s p).2 = none → (cut s q).2 = none ∧ aft s (cut s q).1 = aft s (cut s p).1) := hcut
    clear hbel hcut
    by_cases hlt : q < s.size
    · have hlt' : (q : Int) < (s.size : Int) := by omega
      have HP0 := rPiece_any s q hs hlt wr (HT.out wr HB.out)
      cases hc : pce s q with
      | no y z =>
        obtain ⟨y1, y2⟩ := pce_no_y hlt hc
        rw [hc] at HP0
        have HP : Hid (Calls Tryz.prog 36 #[.string s, .int .i64 (q : Int)] wr fun e w' => e = .returned (.tuple #[.int .i64 0, .int .i64 0, .int .i64 (y : Int), .int .i64 (z : Int)]) ∧ Below wr.heap.size wr w') := HP0
        have hy : ((y : Int) != 0) = true := by rw [bne_iff_ne]; omega
        have HE : Hid (FdE s p (.returned (.bool false))) := HF.out false fun h => by
          have := (HC.out h).1
          rw [cut_no hlt hc] at this
          cases this
        clear HP0 hc
        go_wp2_with (go_at_call 36; (with_reducible refine HP.out.mono ?_); rintro e w3 ⟨rfl, hb3⟩; have HB3 : Hid (Below w.heap.size w w3) := HB.out.trans (hb3.mono HB.out.size); clear hb3)
        go_ret
        exact ⟨HE.out, HB3.out⟩
      | ok k t =>
        obtain ⟨t1, t2, t3⟩ := pce_ok hlt hc
        have hsh := pce_shape hlt hc
        rw [hc] at HP0
        have HP : Hid (Calls Tryz.prog 36 #[.string s, .int .i64 (q : Int)] wr fun e w' => e = .returned (.tuple #[.int .i64 (k : Int), .int .i64 (t : Int), .int .i64 0, .int .i64 0]) ∧ Below wr.heap.size wr w') := HP0
        have HC2 : Hid ((cut s p).2 = none → (cut s t).2 = none ∧ aft s ((⟨k, q, t⟩ : Tk) :: (cut s t).1) = aft s (cut s p).1) := fun h => by
          have := HC.out h
          rw [cut_ok hlt hc] at this
          exact this
        clear HP0
        by_cases hk1 : 1 < k
        · have hk' : (k : Int) > 1 := by omega
          have HE : Hid (FdE s p (.returned (.bool false))) := HF.out false fun h => by
            rw [← (HC2.out h).2, aft]
            simp only
            rw [if_neg (by omega)]
          clear hsh hc
          go_wp2_with (go_at_call 36; (with_reducible refine HP.out.mono ?_); rintro e w3 ⟨rfl, hb3⟩; have HB3 : Hid (Below w.heap.size w w3) := HB.out.trans (hb3.mono HB.out.size); clear hb3)
          go_ret
          exact ⟨HE.out, HB3.out⟩
        · have hk' : ¬ (k : Int) > 1 := by omega
          have HON : Hid (nlc s ⟨k, q, t⟩ = false → (cut s p).2 = none → (cut s t).2 = none ∧ aft s (cut s t).1 = aft s (cut s p).1) := fun hn h => by
            have := HC2.out h
            refine ⟨this.1, ?_⟩
            rw [← this.2, aft]
            simp only
            rw [if_pos (by omega), hn]
            rfl
          have HYE : Hid (nlc s ⟨k, q, t⟩ = true → FdE s p (.returned (.bool true))) := fun hn => HF.out true fun h => by
            rw [← (HC2.out h).2, aft]
            simp only
            rw [if_pos (by omega), hn]
            rfl
          have HNL : Hid (∀ i, q ≤ i → i < t → bt s i = 10 → nlc s ⟨k, q, t⟩ = true) := fun i h1 h2 h3 => nlc_has t2 h1 h2 h3 k
          have HNN : Hid ((∀ i, q ≤ i → i < t → bt s i ≠ 10) → nlc s ⟨k, q, t⟩ = false) := fun h => nlc_not t2 h k
          by_cases hline : k = 1 ∧ bt s (q + 1) = 47
          · have hb47 : Hid (bt s q = 47 ∧ t = fnd s 10 q) := by
              rcases hsh with e | e | e | e | e | e
              · omega
              · exact ⟨e.2.1, e.2.2.2⟩
              · omega
              · omega
              · omega
              · omega
            have HBG : Hid (∀ v, Calls Tryz.prog 52 #[.string s, .int .i64 (q : Int), .string ⟨#[47, 42]⟩] v fun e w' => e = .returned (.bool false) ∧ w' = v) := fun v => by
              have := rbegins_two s q 47 42 hs hqs v
              have e : decide (bt s q = (47 : UInt8).toNat ∧ bt s (q + 1) = (42 : UInt8).toNat) = false := by
                have e42 : (42 : UInt8).toNat = 42 := rfl
                rw [decide_eq_false_iff_not, e42]; have := hline.2; omega
              rw [e] at this
              exact this
            have HNF : Hid (nlc s ⟨k, q, t⟩ = false) := HNN.out fun i h1 h2 => fnd_none s 10 _ q i (Nat.le_refl _) h1 (by rw [← hb47.out.2]; exact h2)
            have hk0 : ((k : Int) == 0) = false := by rw [beq_eq_false_iff_ne]; omega
            clear hsh hc
            go_wp2_with (first
              | (go_at_call 36; (with_reducible refine HP.out.mono ?_); rintro e w3 ⟨rfl, hb3⟩; have HB3 : Hid (Below w.heap.size w w3) := HB.out.trans (hb3.mono HB.out.size); clear hb3)
              | (go_at_call 52; (with_reducible refine (HBG.out _).mono ?_); rintro e w4 ⟨rfl, hw4⟩; obtain rfl := hw4.symm))
            go_roundw
            case rel => exact ⟨t, t2, rfl, HON.out HNF.out, HB3.out⟩
            case measure => simp [intOf]; omega
          · have hcase : ((k : Int) == 0) = true ∨ ((k : Int) == 0) = false ∧ (k = 1 ∧ bt s q = 47 ∧ bt s (q + 1) = 42) := by
              rcases hsh with e | e | e | e | e | e
              · left; rw [beq_iff_eq]; omega
              · exact absurd ⟨e.1, e.2.2.1⟩ hline
              · right; exact ⟨by rw [beq_eq_false_iff_ne]; omega, e.1, e.2.1, e.2.2.1⟩
              · omega
              · omega
              · omega
            have HBG : Hid (bt s q = 47 ∧ bt s (q + 1) = 42 → ∀ v, Calls Tryz.prog 52 #[.string s, .int .i64 (q : Int), .string ⟨#[47, 42]⟩] v fun e w' => e = .returned (.bool true) ∧ w' = v) := fun hh v => by
              have := rbegins_two s q 47 42 hs hqs v
              have e : decide (bt s q = (47 : UInt8).toNat ∧ bt s (q + 1) = (42 : UInt8).toNat) = true := by
                have e42 : (42 : UInt8).toNat = 42 := rfl
                have e47 : (47 : UInt8).toNat = 47 := rfl
                rw [decide_eq_true_eq, e42, e47]; exact hh
              rw [e] at this
              exact this
            clear hsh hc hline
            rcases hcase with hk0 | ⟨hk0, -, hcc⟩
            all_goals
              go_wp2_with (first
                | (go_at_call 36; (with_reducible refine HP.out.mono ?_); rintro e w3 ⟨rfl, hb3⟩; have HB3 : Hid (Below w.heap.size w w3) := HB.out.trans (hb3.mono HB.out.size); clear hb3)
                | (go_at_call 52; (with_reducible refine (HBG.out hcc _).mono ?_); rintro e w4 ⟨rfl, hw4⟩; obtain rfl := hw4.symm))
              obtain ⟨wo, hwo⟩ : ∃ wo, wo = wr := ⟨_, rfl⟩
              go_loopw [9] (fun si wi => ∃ i : Nat, q ≤ i ∧ i ≤ t ∧ si = .int .i64 (i : Int) ∧ (∀ j, q ≤ j → j < i → bt s j ≠ 10) ∧ wi = w3) (fun si _ => t - (intOf si).toNat)
              case atStart => exact ⟨q, Nat.le_refl _, by omega, rfl, fun j h1 h2 => by omega, by first | rfl | trivial⟩
              case round =>
                obtain ⟨i, hi1, hi2, rfl, hno, rfl⟩ := hrel
                have HNO : Hid (∀ j, q ≤ j → j < i → bt s j ≠ 10) := hno
                clear hno
                by_cases hit : i < t
                · have hit' : (i : Int) < (t : Int) := by omega
                  have his : i < s.size := by omega
                  have his' : (i : Int) < (s.size : Int) := by omega
                  have hbt := bt_in his
                  obtain ⟨c, hcD⟩ : ∃ c, (s[i]'his).toNat = c := ⟨_, rfl⟩
                  by_cases h10 : c = 10
                  · subst h10
                    have HE := HYE.out (HNL.out i hi1 hit (by rw [hbt, hcD]))
                    clear hbt
                    go_wp2
                    go_ret
                    exact ⟨HE, HB3.out⟩
                  · have h10' : ((c : Int) == 10) = false := by rw [beq_eq_false_iff_ne]; omega
                    have HN2 : Hid (∀ j, q ≤ j → j < i + 1 → bt s j ≠ 10) := fun j h1 h2 => by
                      by_cases h : j = i
                      · subst h; rw [hbt, hcD]; exact h10
                      · exact HNO.out j h1 (by omega)
                    clear hbt
                    go_wp2
                    go_roundw
                    case rel => exact ⟨i + 1, by omega, by omega, by go_num, HN2.out, by first | rfl | trivial⟩
                    case measure => simp [intOf]; omega
                · have hit' : ¬ (i : Int) < (t : Int) := by omega
                  have HNF : Hid (nlc s ⟨k, q, t⟩ = false) := HNN.out fun j h1 h2 => HNO.out j h1 (by omega)
                  go_wp2
                  go_roundw
                  case rel => exact ⟨t, t2, rfl, HON.out HNF.out, HB3.out⟩
                  case measure => simp [intOf]; omega
    · have hge : ¬ (q : Int) < (s.size : Int) := by omega
      have HE : Hid (FdE s p (.returned (.bool true))) := HF.out true fun h => by
        rw [← (HC.out h).2, cut_end hlt]
        rfl
      go_wp2
      go_ret
      exact ⟨HE.out, HB.out⟩
end Go.Proofs.YthdfccdkomfikabGreatDoor

namespace Go.Proofs.YthdfccdkomfikabGreatDoor
open Go.ChangeShapes Go.WideShapes Go.ChangeAt Go.RowKit
set_option linter.unusedVariables false
set_option linter.unusedSimpArgs false

/-- how the reference's Scan ends -/
def RsE (s : ByteArray) (w : World) (e : Ending) (w' : World) : Prop := Below w.heap.size w w' ∧
  match (cut s 0).2 with
  | none => ∃ v, e = .returned (.tuple #[v, .int .i64 0, .int .i64 0]) ∧ w'.ownsRow w.heap.size 43 3 v (wau s (cut s 0).1).length (flat (wau s (cut s 0).1))
  | some (y, z) => e = .returned (.tuple #[.slice none 0 0, .int .i64 (y : Int), .int .i64 (z : Int)])
/-- what stands in a round of the reference's Scan -/
def RsI (s : ByteArray) (q : Nat) (acc : List Tk) : Prop := ((cut s 0).2 = none → (cut s q).2 = none ∧ acc ++ wau s (cut s q).1 = wau s (cut s 0).1) ∧ ∀ x, (cut s 0).2 = some x → (cut s q).2 = some x
theorem RsI.end' {s : ByteArray} {q : Nat} {acc : List Tk} (h : RsI s q acc) (hq : ¬ q < s.size) : (cut s 0).2 = none ∧ acc = wau s (cut s 0).1 := by
  cases hc : (cut s 0).2 with
  | none =>
    have := (h.1 hc).2
    rw [cut_end hq] at this
    simp only [wau, List.append_nil] at this
    exact ⟨rfl, this⟩
  | some x =>
    have := h.2 x hc
    rw [cut_end hq] at this
    cases this
theorem RsI.fault {s : ByteArray} {q y z : Nat} {acc : List Tk} (h : RsI s q acc) (hq : q < s.size) (hc : pce s q = .no y z) : (cut s 0).2 = some (y, z) := by
  cases h0 : (cut s 0).2 with
  | none =>
    have := (h.1 h0).1
    rw [cut_no hq hc] at this
    cases this
  | some x =>
    have := h.2 x h0
    rw [cut_no hq hc] at this
    exact this.symm
theorem RsI.plain {s : ByteArray} {q k t : Nat} {acc : List Tk} (h : RsI s q acc) (hq : q < s.size) (hc : pce s q = .ok k t) (ha : ask k = false) : RsI s t (acc ++ [(⟨k, q, t⟩ : Tk)]) := by
  refine ⟨fun h0 => ?_, fun x hx => ?_⟩
  · have := h.1 h0
    rw [cut_ok hq hc] at this
    refine ⟨this.1, ?_⟩
    rw [← this.2]
    simp [wau, ha]
  · have := h.2 x hx
    rw [cut_ok hq hc] at this
    exact this
theorem RsI.asked {s : ByteArray} {q k t : Nat} {acc : List Tk} {b : Bool} (h : RsI s q acc) (hq : q < s.size) (hc : pce s q = .ok k t) (ha : ask k = true) (hb : (cut s t).2 = none → b = aft s (cut s t).1) : RsI s t (acc ++ [(⟨k, q, t⟩ : Tk)] ++ (if b then [(⟨6, t, t⟩ : Tk)] else [])) := by
  refine ⟨fun h0 => ?_, fun x hx => ?_⟩
  · have := h.1 h0
    rw [cut_ok hq hc] at this
    refine ⟨this.1, ?_⟩
    rw [← this.2, hb this.1]
    simp [wau, ha]
  · have := h.2 x hx
    rw [cut_ok hq hc] at this
    exact this

set_option maxRecDepth 1000000 in
set_option maxHeartbeats 8000000 in
theorem rScan_any (s : ByteArray) (hs : s.size ≤ 4294967280) (w : World) (hT : Lt w) :
    Calls Tryz.prog 28 #[.string s] w fun e w' => RsE s w e w' := by
  obtain ⟨i0, hi, hz0, hz1, hz2⟩ := info_parts (show (Tryz.prog.info? 43).map (fun i => (i.zero, i.size, i.bytes)) = some (some (.agg #[.int .u8 0, .int .i64 0, .int .i64 0]), 3, 24) by kernel_rfl)
  have HT : Hid (∀ v, Below w.heap.size w v → Lt v) := fun v hv => hT.below hv
  have HEY : Hid (∀ v acc e w', Below w.heap.size w w' → (cut s 0).2 = none → acc = wau s (cut s 0).1 → e = .returned (.tuple #[v, .int .i64 0, .int .i64 0]) → w'.ownsRow w.heap.size 43 3 v acc.length (flat acc) → RsE s w e w') := fun v acc e w' hb hc ha he ho => by
    unfold RsE
    rw [hc]
    subst ha
    exact ⟨hb, v, he, ho⟩
  have HEN : Hid (∀ y z e w', Below w.heap.size w w' → (cut s 0).2 = some (y, z) → e = .returned (.tuple #[.slice none 0 0, .int .i64 (y : Int), .int .i64 (z : Int)]) → RsE s w e w') := fun y z e w' hb hc he => by
    unfold RsE
    rw [hc]
    exact ⟨hb, he⟩
  clear hT
  go_enter Tryz.func28, Tryz.ntmps28
  go_wp2
  go_loopw [5, 6] (fun so st wr => ∃ (q : Nat) (acc : List Tk), q ≤ s.size ∧ st = .int .i64 (q : Int) ∧ acc.length ≤ 2 * q ∧ RsI s q acc ∧ wr.ownsRow w.heap.size 43 3 so acc.length (flat acc) ∧ Below w.heap.size w wr) (fun _ st _ => s.size - (intOf st).toNat)
  case atStart => exact ⟨0, [], Nat.zero_le _, rfl, by simp, ⟨fun h => ⟨h, rfl⟩, fun _ h => h⟩, World.ownsRow_nil _ _ _ _, Below.refl _ _⟩
  case round =>
    obtain ⟨q, acc, hqs, rfl, hal, hI, hown, hbel⟩ := hrel
    have HI : Hid (RsI s q acc) := hI
    have HO : Hid (wr.ownsRow w.heap.size 43 3 u5 acc.length (flat acc)) := hown
    have HB : Hid (Below w.heap.size w wr) := hbel
    clear hI hown hbel
    by_cases hlt : q < s.size
    · have hlt' : (q : Int) < (s.size : Int) := by omega
      have HP0 := rPiece_any s q hs hlt wr (HT.out wr HB.out)
      cases hc : pce s q with
      | no y z =>
        obtain ⟨y1, y2⟩ := pce_no_y hlt hc
        rw [hc] at HP0
        have HP : Hid (Calls Tryz.prog 36 #[.string s, .int .i64 (q : Int)] wr fun e w' => e = .returned (.tuple #[.int .i64 0, .int .i64 0, .int .i64 (y : Int), .int .i64 (z : Int)]) ∧ Below wr.heap.size wr w') := HP0
        have hy : ((y : Int) != 0) = true := by rw [bne_iff_ne]; omega
        have HFA : Hid ((cut s 0).2 = some (y, z)) := HI.out.fault hlt hc
        clear HP0 hc
        go_wp2_with (go_at_call 36; (with_reducible refine HP.out.mono ?_); rintro e w3 ⟨rfl, hb3⟩; have HB3 : Hid (Below w.heap.size w w3) := HB.out.trans (hb3.mono HB.out.size); clear hb3)
        refine bodyPost_ret (v := .tuple #[.slice none 0 0, .int .i64 (y : Int), .int .i64 (z : Int)]) (by simp [results, Tryz.results28, go_sem]) rfl (HEN.out y z _ _ HB3.out HFA.out rfl)
      | ok k t =>
        obtain ⟨t1, t2, t3⟩ := pce_ok hlt hc
        rw [hc] at HP0
        have HP : Hid (Calls Tryz.prog 36 #[.string s, .int .i64 (q : Int)] wr fun e w' => e = .returned (.tuple #[.int .i64 (k : Int), .int .i64 (t : Int), .int .i64 0, .int .i64 0]) ∧ Below wr.heap.size wr w') := HP0
        have HIP : Hid (ask k = false → RsI s t (acc ++ [(⟨k, q, t⟩ : Tk)])) := fun ha => HI.out.plain hlt hc ha
        have HIA : Hid (ask k = true → ∀ b, ((cut s t).2 = none → b = aft s (cut s t).1) → RsI s t (acc ++ [(⟨k, q, t⟩ : Tk)] ++ (if b then [(⟨6, t, t⟩ : Tk)] else []))) := fun ha b hb => HI.out.asked hlt hc ha hb
        have hk255 : (k : Int) ≤ 255 := by omega
        clear HP0 hc
        by_cases hk1 : 1 < k
        · have hk' : (k : Int) > 1 := by omega
          have HAK0 : ∀ v, Calls Tryz.prog 43 #[.int .i64 (k : Int)] v fun e w' => e = .returned (.bool (ask k)) ∧ Below v.heap.size v w' := fun v => rasks_any k t3 v
          cases hA : ask k with
          | false =>
            rw [hA] at HAK0
            have HAK : Hid (∀ v, Calls Tryz.prog 43 #[.int .i64 (k : Int)] v fun e w' => e = .returned (.bool false) ∧ Below v.heap.size v w') := HAK0
            have HI9 : Hid (RsI s t (acc ++ [(⟨k, q, t⟩ : Tk)])) := HIP.out hA
            clear HAK0 hA
            go_wp2_with (first
              | (go_at_call 36; (with_reducible refine HP.out.mono ?_); rintro e w3 ⟨rfl, hb3⟩; have HB3 : Hid (Below w.heap.size w w3) := HB.out.trans (hb3.mono HB.out.size); have HO3 : Hid (w3.ownsRow w.heap.size 43 3 u5 acc.length (flat acc)) := ownsRow_below HO.out hb3 (Nat.le_refl _); clear hb3)
              | (at_builtin; (refine wpList_append_at _ rfl (.tmp 27) (.tmp 33) 32 rfl w.heap.size 43 i0 (.agg #[.int .u8 0, .int .i64 0, .int .i64 0]) 3 24 Tryz.underlying32 hi hz0 hz1 hz2 rfl (by decide) _ acc.length (flat acc) rfl (HO3.out.alloc _) (some ⟨_, 0, none⟩) 1 1 [.int .u8 (k : Int), .int .i64 (q : Int), .int .i64 (t : Int)] rfl rfl (fun h => by cases h) (fun ad had => by cases had; exact cells_new _ _ _) (fun u hu => by simp at hu; rcases hu with rfl | rfl | rfl <;> rfl) (by unfold maxLen; omega) (by omega) (by have := HB3.out.size; simp; omega) ?_); intro v9 w9 ho9 hg9 _; have HO9 : Hid (w9.ownsRow w.heap.size 43 3 v9 (acc ++ [(⟨k, q, t⟩ : Tk)]).length (flat (acc ++ [(⟨k, q, t⟩ : Tk)]))) := (by unfold Hid; rw [flat_one, List.length_append]; exact ho9); have HB9 : Hid (Below w.heap.size w w9) := (HB3.out.alloc HB3.out.size _).grown hg9 (by have := HB3.out.size; simp; omega) (fun j hj => (HO3.out.lt j hj).1); clear ho9 hg9)
              | (go_at_call 43; (with_reducible refine (HAK.out w9).mono ?_); rintro e w4 ⟨rfl, hb4⟩; have HB4 : Hid (Below w.heap.size w w4) := HB9.out.trans (hb4.mono HB9.out.size); have HO4 : Hid (w4.ownsRow w.heap.size 43 3 v9 (acc ++ [(⟨k, q, t⟩ : Tk)]).length (flat (acc ++ [(⟨k, q, t⟩ : Tk)]))) := ownsRow_below HO9.out hb4 (Nat.le_refl _); clear hb4))
            go_roundw
            case rel => exact ⟨t, acc ++ [(⟨k, q, t⟩ : Tk)], t2, rfl, by simp; omega, HI9.out, HO4.out, HB4.out⟩
            case measure => simp [intOf]; omega
          | true =>
            rw [hA] at HAK0
            have HAK : Hid (∀ v, Calls Tryz.prog 43 #[.int .i64 (k : Int)] v fun e w' => e = .returned (.bool true) ∧ Below v.heap.size v w') := HAK0
            have HAT : Hid (ask k = true) := hA
            have HFD : Hid (∀ v, Below w.heap.size w v → Calls Tryz.prog 44 #[.string s, .int .i64 (t : Int)] v fun e w' => FdE s t e ∧ Below v.heap.size v w') := fun v hv => rfeed_any s t hs t2 v (HT.out v hv)
            clear HAK0 hA
            go_wp2_with (first
              | (go_at_call 36; (with_reducible refine HP.out.mono ?_); rintro e w3 ⟨rfl, hb3⟩; have HB3 : Hid (Below w.heap.size w w3) := HB.out.trans (hb3.mono HB.out.size); have HO3 : Hid (w3.ownsRow w.heap.size 43 3 u5 acc.length (flat acc)) := ownsRow_below HO.out hb3 (Nat.le_refl _); clear hb3)
              | (at_builtin; (refine wpList_append_at _ rfl (.tmp 27) (.tmp 33) 32 rfl w.heap.size 43 i0 (.agg #[.int .u8 0, .int .i64 0, .int .i64 0]) 3 24 Tryz.underlying32 hi hz0 hz1 hz2 rfl (by decide) _ acc.length (flat acc) rfl (HO3.out.alloc _) (some ⟨_, 0, none⟩) 1 1 [.int .u8 (k : Int), .int .i64 (q : Int), .int .i64 (t : Int)] rfl rfl (fun h => by cases h) (fun ad had => by cases had; exact cells_new _ _ _) (fun u hu => by simp at hu; rcases hu with rfl | rfl | rfl <;> rfl) (by unfold maxLen; omega) (by omega) (by have := HB3.out.size; simp; omega) ?_); intro v9 w9 ho9 hg9 _; have HO9 : Hid (w9.ownsRow w.heap.size 43 3 v9 (acc ++ [(⟨k, q, t⟩ : Tk)]).length (flat (acc ++ [(⟨k, q, t⟩ : Tk)]))) := (by unfold Hid; rw [flat_one, List.length_append]; exact ho9); have HB9 : Hid (Below w.heap.size w w9) := (HB3.out.alloc HB3.out.size _).grown hg9 (by have := HB3.out.size; simp; omega) (fun j hj => (HO3.out.lt j hj).1); clear ho9 hg9)
              | (go_at_call 43; (with_reducible refine (HAK.out w9).mono ?_); rintro e w4 ⟨rfl, hb4⟩; have HB4 : Hid (Below w.heap.size w w4) := HB9.out.trans (hb4.mono HB9.out.size); have HO4 : Hid (w4.ownsRow w.heap.size 43 3 v9 (acc ++ [(⟨k, q, t⟩ : Tk)]).length (flat (acc ++ [(⟨k, q, t⟩ : Tk)]))) := ownsRow_below HO9.out hb4 (Nat.le_refl _); clear hb4)
              | (go_at_call 44; (with_reducible refine (HFD.out w4 HB4.out).mono ?_); rintro e w5 ⟨⟨b5, rfl, haf5⟩, hb5⟩; have HB5 : Hid (Below w.heap.size w w5) := HB4.out.trans (hb5.mono HB4.out.size); have HO5 : Hid (w5.ownsRow w.heap.size 43 3 v9 (acc ++ [(⟨k, q, t⟩ : Tk)]).length (flat (acc ++ [(⟨k, q, t⟩ : Tk)]))) := ownsRow_below HO4.out hb5 (Nat.le_refl _); have HI5 : Hid (RsI s t (acc ++ [(⟨k, q, t⟩ : Tk)] ++ (if b5 then [(⟨6, t, t⟩ : Tk)] else []))) := HIA.out HAT.out b5 haf5; clear hb5 haf5; cases b5)
              | (at_builtin; (refine wpList_append_at _ rfl (.tmp 46) (.tmp 50) 32 rfl w.heap.size 43 i0 (.agg #[.int .u8 0, .int .i64 0, .int .i64 0]) 3 24 Tryz.underlying32 hi hz0 hz1 hz2 rfl (by decide) _ (acc ++ [(⟨k, q, t⟩ : Tk)]).length (flat (acc ++ [(⟨k, q, t⟩ : Tk)])) rfl (HO5.out.alloc _) (some ⟨_, 0, none⟩) 1 1 [.int .u8 6, .int .i64 (t : Int), .int .i64 (t : Int)] rfl rfl (fun h => by cases h) (fun ad had => by cases had; exact cells_new _ _ _) (fun u hu => by simp at hu; rcases hu with rfl | rfl | rfl <;> rfl) (by unfold maxLen; simp; omega) (by simp; omega) (by have := HB5.out.size; simp; omega) ?_); intro v8 w8 ho8 hg8 _; have HO8 : Hid (w8.ownsRow w.heap.size 43 3 v8 ((acc ++ [(⟨k, q, t⟩ : Tk)]) ++ [(⟨6, t, t⟩ : Tk)]).length (flat ((acc ++ [(⟨k, q, t⟩ : Tk)]) ++ [(⟨6, t, t⟩ : Tk)]))) := (by unfold Hid; rw [flat_one, List.length_append]; exact ho8); have HB8 : Hid (Below w.heap.size w w8) := (HB5.out.alloc HB5.out.size _).grown hg8 (by have := HB5.out.size; simp; omega) (fun j hj => (HO5.out.lt j hj).1); clear ho8 hg8))
            · go_roundw
              case rel => exact ⟨t, acc ++ [(⟨k, q, t⟩ : Tk)], t2, rfl, by simp; omega, by simpa using HI5.out, HO5.out, HB5.out⟩
              case measure => simp [intOf]; omega
            · go_roundw
              case rel => exact ⟨t, acc ++ [(⟨k, q, t⟩ : Tk)] ++ [(⟨6, t, t⟩ : Tk)], t2, rfl, by simp; omega, by simpa using HI5.out, HO8.out, HB8.out⟩
              case measure => simp [intOf]; omega
        · have hk' : ¬ (k : Int) > 1 := by omega
          have HI9 : Hid (RsI s t (acc ++ [(⟨k, q, t⟩ : Tk)])) := HIP.out (by
            have : ∀ k, k < 2 → ask k = false := by decide
            exact this k (by omega))
          go_wp2_with (first
            | (go_at_call 36; (with_reducible refine HP.out.mono ?_); rintro e w3 ⟨rfl, hb3⟩; have HB3 : Hid (Below w.heap.size w w3) := HB.out.trans (hb3.mono HB.out.size); have HO3 : Hid (w3.ownsRow w.heap.size 43 3 u5 acc.length (flat acc)) := ownsRow_below HO.out hb3 (Nat.le_refl _); clear hb3)
            | (at_builtin; (refine wpList_append_at _ rfl (.tmp 27) (.tmp 33) 32 rfl w.heap.size 43 i0 (.agg #[.int .u8 0, .int .i64 0, .int .i64 0]) 3 24 Tryz.underlying32 hi hz0 hz1 hz2 rfl (by decide) _ acc.length (flat acc) rfl (HO3.out.alloc _) (some ⟨_, 0, none⟩) 1 1 [.int .u8 (k : Int), .int .i64 (q : Int), .int .i64 (t : Int)] rfl rfl (fun h => by cases h) (fun ad had => by cases had; exact cells_new _ _ _) (fun u hu => by simp at hu; rcases hu with rfl | rfl | rfl <;> rfl) (by unfold maxLen; omega) (by omega) (by have := HB3.out.size; simp; omega) ?_); intro v9 w9 ho9 hg9 _; have HO9 : Hid (w9.ownsRow w.heap.size 43 3 v9 (acc ++ [(⟨k, q, t⟩ : Tk)]).length (flat (acc ++ [(⟨k, q, t⟩ : Tk)]))) := (by unfold Hid; rw [flat_one, List.length_append]; exact ho9); have HB9 : Hid (Below w.heap.size w w9) := (HB3.out.alloc HB3.out.size _).grown hg9 (by have := HB3.out.size; simp; omega) (fun j hj => (HO3.out.lt j hj).1); clear ho9 hg9))
          go_roundw
          case rel => exact ⟨t, acc ++ [(⟨k, q, t⟩ : Tk)], t2, rfl, by simp; omega, HI9.out, HO9.out, HB9.out⟩
          case measure => simp [intOf]; omega
    · have hge : ¬ (q : Int) < (s.size : Int) := by omega
      obtain ⟨e1, e2⟩ := HI.out.end' hlt
      have HE1 : Hid ((cut s 0).2 = none) := e1
      have HE2 : Hid (acc = wau s (cut s 0).1) := e2
      clear e1 e2
      go_wp2
      refine bodyPost_ret (v := .tuple #[u5, .int .i64 0, .int .i64 0]) (by simp [results, Tryz.results28, go_sem]) rfl (HEY.out u5 acc _ _ HB.out HE1.out HE2.out rfl HO.out)
end Go.Proofs.YthdfccdkomfikabGreatDoor
