import Derived.Test.YthdfccdkomfikaaDoorJoinsW
namespace Go.Proofs.YthdfccdkomfikaaDoor
open Go.ChangeShapes Go.WideShapes Go.ChangeAt Go.RowKit Go.Maps Go.WideMaps
set_option linter.unusedVariables false
set_option linter.unusedSimpArgs false

theorem wau_inn {s : ByteArray} : ∀ l, Inn s l → Inn s (wau s l)
  | [], _ => fun q hq => by cases hq
  | x :: r, h => by
    obtain ⟨k, f, t, rfl, h1, h2, h3⟩ := h x (List.mem_cons_self ..)
    have ih := wau_inn r (fun q hq => h q (List.mem_cons_of_mem _ hq))
    intro q hq
    rw [wau] at hq
    rcases List.mem_append.1 hq with hq | hq
    · rcases List.mem_cons.1 hq with rfl | hq
      · exact ⟨k, f, t, rfl, h1, h2, h3⟩
      · split at hq
        · have : q = ⟨6, t, t⟩ := by simpa using hq
          exact ⟨6, t, t, this, by omega, Nat.le_refl _, h3⟩
        · cases hq
    · exact ih q hq
theorem rlB_len : ∀ l : List Tk, (rlB l).length ≤ l.length
  | [] => by simp [rlB]
  | q :: r => by
    have := rlB_len r
    rw [rlB]
    split <;> simp <;> omega
theorem tlB_len (l : List Tk) : (tlB l).length ≤ l.length := by
  cases l with
  | nil => simp [tlB]
  | cons q r => rw [tlB]; split <;> simp
/-- loop 3 -/
def J3 (A : Nat) (W Lb : List Tk) (i : Nat) (acc : List Tk) : Prop := acc = W ++ (tlB (Lb.take i)).map (mv1 (A + 1))
theorem J3.put {A : Nat} {W Lb : List Tk} {i : Nat} {acc : List Tk} {q : Tk} (h : J3 A W Lb i acc) (hq : Lb[i]? = some q) (hk : 0 < i ∨ q.k ≠ 0) : J3 A W Lb (i + 1) (acc ++ [(⟨q.k, q.f + ((A + 1 : Nat) : Int), q.t + ((A + 1 : Nat) : Int)⟩ : Tk)]) := by
  unfold J3 at *
  rw [h, tlB_next hq, if_pos hk]
  simp [mv1]
theorem J3.put' {A : Nat} {W Lb : List Tk} {i : Nat} {acc : List Tk} {k f t : Int} (h : J3 A W Lb i acc) (hq : Lb[i]? = some ⟨k, f, t⟩) (hk : 0 < i ∨ k ≠ 0) : J3 A W Lb (i + 1) (acc ++ [(⟨k, f + ((A : Int) + 1), t + ((A : Int) + 1)⟩ : Tk)]) := by
  have := h.put hq hk
  rw [show ((A + 1 : Nat) : Int) = (A : Int) + 1 by omega] at this
  exact this
theorem J3.skip {A : Nat} {W Lb : List Tk} {i : Nat} {acc : List Tk} {q : Tk} (h : J3 A W Lb i acc) (hq : Lb[i]? = some q) (hk : ¬ (0 < i ∨ q.k ≠ 0)) : J3 A W Lb (i + 1) acc := by
  unfold J3 at *
  rw [h, tlB_next hq, if_neg hk]
  simp

set_option maxRecDepth 1000000 in
set_option maxHeartbeats 16000000 in
theorem joins_both (a b : ByteArray) (hB : a.size + b.size ≤ 1048576) (ha : (cut a 0).2 = none) (hb : (cut b 0).2 = none) (w : World) (hS : Spl w) (hT : Lt w) (hM : MaxL w) :
    Calls Tryd.prog 5 #[.string a, .string b] w fun e w' => e = .returned (.bool true) ∧ Below w.heap.size w w' := by
  obtain ⟨i0, hi, hz0, hz1, hz2⟩ := info_parts (show (Tryd.prog.info? 31).map (fun i => (i.zero, i.size, i.bytes)) = some (some (.agg #[.int .u8 0, .int .i64 0, .int .i64 0]), 3, 24) by kernel_rfl)
  have hj := jn_of a b
  have hjz := hj.size
  have ia := (cut_all a a.size 0 (by omega)).1
  have ib := (cut_all b b.size 0 (by omega)).1
  obtain ⟨hJ1, hJ2⟩ := hj.scan ia ib ha
  rw [hb] at hJ1
  have hJ1' : (cut (a ++ ⟨#[10]⟩ ++ b) 0).2 = none := hJ1
  have mxa := wau_max (s := a) (by omega)
  have mxb := wau_max (s := b) (by omega)
  have iA := wau_inn _ ia
  have iB := wau_inn _ ib
  have HSA0 := scan_ok (s := a) (by omega) ha w hS hT hM
  have HSB0 : ∀ v, Below w.heap.size w v → _ := fun v hv => scan_ok (s := b) (by omega) hb v (hS.below hv) (hT.below hv) (hM.below hv)
  have HSJ0 : ∀ v, Below w.heap.size w v → _ := fun v hv => scan_ok (s := a ++ ⟨#[10]⟩ ++ b) (by omega) hJ1' v (hS.below hv) (hT.below hv) (hM.below hv)
  rw [hJ2] at HSJ0
  obtain ⟨La, hLa⟩ : ∃ L, wau a (cut a 0).1 = L := ⟨_, rfl⟩
  obtain ⟨Lb, hLb⟩ : ∃ L, wau b (cut b 0).1 = L := ⟨_, rfl⟩
  rw [hLa] at HSA0 HSJ0 mxa iA
  rw [hLb] at HSB0 HSJ0 mxb iB
  obtain ⟨LJ, hLJ⟩ : ∃ L, rlB La ++ (⟨0, frB a.size La, ((a.size + 1 : Nat) : Int) + hdB Lb⟩ : Tk) :: (tlB Lb).map (mv1 (a.size + 1)) = L := ⟨_, rfl⟩
  rw [hLJ] at HSJ0
  have HLJ : Hid (rlB La ++ (⟨0, frB a.size La, ((a.size + 1 : Nat) : Int) + hdB Lb⟩ : Tk) :: (tlB Lb).map (mv1 (a.size + 1)) = LJ) := hLJ
  have HSA : Hid (Calls Tryd.prog 6 #[.string a] w fun e w' => ∃ a c, e = .returned (.tuple #[.slice a La.length c, .agg #[.int .i64 0, .int .i64 0, .int .i64 0]]) ∧ LiesA w' a La ∧ La.length ≤ c ∧ (a = none → c = 0) ∧ Below w.heap.size w w') := HSA0
  have HSB : Hid (∀ v, Below w.heap.size w v → Calls Tryd.prog 6 #[.string b] v fun e w' => ∃ a c, e = .returned (.tuple #[.slice a Lb.length c, .agg #[.int .i64 0, .int .i64 0, .int .i64 0]]) ∧ LiesA w' a Lb ∧ Lb.length ≤ c ∧ (a = none → c = 0) ∧ Below v.heap.size v w') := HSB0
  have HSJ : Hid (∀ v, Below w.heap.size w v → Calls Tryd.prog 6 #[.string (a ++ ⟨#[10]⟩ ++ b)] v fun e w' => ∃ a c, e = .returned (.tuple #[.slice a LJ.length c, .agg #[.int .i64 0, .int .i64 0, .int .i64 0]]) ∧ LiesA w' a LJ ∧ LJ.length ≤ c ∧ (a = none → c = 0) ∧ Below v.heap.size v w') := HSJ0
  have HIA : Hid (Inn a La) := iA
  have HIB : Hid (Inn b Lb) := iB
  have hza : ¬ (9223372036854775807 < a.size + 1) := by omega
  have hzb : ¬ (9223372036854775807 < (a ++ ⟨#[10]⟩ : ByteArray).size + b.size) := by rw [ByteArray.size_append, show (⟨#[10]⟩ : ByteArray).size = 1 from rfl]; omega
  have HSM : Hid (∀ a1 c1 a2 c2 v, LiesA v a1 LJ → LiesA v a2 LJ → LJ.length ≤ maxLen → Calls Tryd.prog 11 #[.slice a1 LJ.length c1, .slice a2 LJ.length c2] v fun e w' => e = .returned (.bool true) ∧ Below v.heap.size v w') := fun a1 c1 a2 c2 v h1 h2 h3 => same_tokens a1 a2 c1 c2 LJ v h1 h2 h3
  clear HSA0 HSB0 HSJ0 hj ia ib hJ1 hJ1' hJ2 ha hb hLa hLb hLJ iA iB hS hT hM
  go_enter Tryd.func5, Tryd.ntmps5
  go_wp2_with (first
    | (go_at_call 6; (with_reducible refine HSA.out.mono ?_); rintro e w3 ⟨a3, c3, rfl, hl3, hc3, hn3, hb3⟩; have HB3 : Hid (Below w.heap.size w w3) := hb3; have HL3 : Hid (LiesA w3 a3 La) := hl3; clear hb3 hl3 hn3)
    | (go_at_call 6; (with_reducible refine (HSB.out _ (HB3.out.alloc HB3.out.size _)).mono ?_); rintro e w4 ⟨a4, c4, rfl, hl4, hc4, hn4, hb4⟩; have HB4 : Hid (Below w.heap.size w w4) := (HB3.out.alloc HB3.out.size _).trans (hb4.mono (by have := HB3.out.size; simp; omega)); have X4 := (Bx.new w3 _ _).below hb4 (Bx.new w3 _ _).lt; have HX4 := hid_of X4; have HL4 : Hid (LiesA w4 a4 Lb) := hl4; have HL34 : Hid (LiesA w4 a3 La) := (HL3.out.below ((Below.refl _ _).alloc (Nat.le_refl _) _)).below hb4; clear hb4 X4 hl4 hn4)
    | (go_at_call 6; (with_reducible refine (HSJ.out _ (HB4.out.alloc HB4.out.size _)).mono ?_); rintro e w5 ⟨a5, c5, rfl, hl5, hc5, hn5, hb5⟩; have HB5 : Hid (Below w.heap.size w w5) := (HB4.out.alloc HB4.out.size _).trans (hb5.mono (by have := HB4.out.size; simp; omega)); have X5 := (HX4.out.alloc _).below hb5 (HX4.out.alloc _).lt; have Y5 := (Bx.new w4 _ _).below hb5 (Bx.new w4 _ _).lt; have k0 := X5.cell 0; have kz := X5.lt; have j0 := Y5.cell 0; have jz := Y5.lt; simp at k0 j0; have HL5 : Hid (LiesA w5 a5 LJ) := hl5; have HL35 : Hid (LiesA w5 a3 La) := (HL34.out.below ((Below.refl _ _).alloc (Nat.le_refl _) _)).below hb5; have HL45 : Hid (LiesA w5 a4 Lb) := (HL4.out.below ((Below.refl _ _).alloc (Nat.le_refl _) _)).below hb5; clear hb5 X5 Y5 hl5 hn5))
  obtain ⟨w6, e6⟩ : ∃ w6, w5.alloc (.cells #[.int .i64 0, .int .i64 0, .int .i64 0] 25) = w6 := ⟨_, rfl⟩
  rw [e6]
  have hbl : Below w5.heap.size w5 w6 := by rw [← e6]; exact (Below.refl _ _).alloc (Nat.le_refl _) _
  have HX6 : Hid (Bx w6 w5.heap.size #[.int .i64 0, .int .i64 0, .int .i64 0] 25) := by unfold Hid; rw [← e6]; exact Bx.new _ _ _
  have HB6 : Hid (Below w.heap.size w w6) := HB5.out.trans (hbl.mono HB5.out.size)
  have HLA : Hid (LiesA w6 a3 La) := HL35.out.below hbl
  have HLB : Hid (LiesA w6 a4 Lb) := HL45.out.below hbl
  have HLJ6 : Hid (LiesA w6 a5 LJ) := HL5.out.below hbl
  clear e6 hbl HL3 HL4 HL5 HL34 HL35 HL45 HX4 HB3 HB4 HB5 k0 kz j0 jz HSA HSB HSJ
  go_loopw [11, 12, 70] (fun sw sf si wr => ∃ (i : Nat) (acc : List Tk) (fr : Int), i ≤ La.length ∧ si = .int .i64 (i : Int) ∧ sf = .int .i64 fr ∧ acc.length ≤ i ∧ J1 a.size La i acc fr ∧ wr.ownsRow w6.heap.size 31 3 sw acc.length (flat acc) ∧ Below w6.heap.size w6 wr) (fun _ _ si _ => La.length - (intOf si).toNat)
  case atStart => exact ⟨0, [], a.size, Nat.zero_le _, rfl, rfl, by simp, J1.start _ _, World.ownsRow_nil _ _ _ _, Below.refl _ _⟩
  case round =>
    obtain ⟨i, acc, fr, hil, rfl, rfl, hal, hJ, hown, hbel⟩ := hrel
    have HJ : Hid (J1 a.size La i acc fr) := hJ
    have HO : Hid (wr.ownsRow w6.heap.size 31 3 u11 acc.length (flat acc)) := hown
    have HB : Hid (Below w6.heap.size w6 wr) := hbel
    clear hJ hown hbel
    by_cases hlt : i < La.length
    · have hlt' : (i : Int) < (La.length : Int) := by omega
      obtain ⟨q, hq⟩ : ∃ q, La[i]? = some q := ⟨_, List.getElem?_eq_getElem hlt⟩
      obtain ⟨k, f, t, rfl, hk80, hft, hta⟩ := HIA.out q (List.mem_of_getElem? hq)
      obtain ⟨g, o, rfl, hlg⟩ : ∃ g o, a3 = some ⟨g, o, none⟩ ∧ Lies w6 g o La := by
        rcases HLA.out with h | ⟨g, o, h1, h2⟩
        · rw [h] at hlt; simp at hlt
        · exact ⟨g, o, h1, h2⟩
      obtain ⟨c0, c1, c2⟩ := hlg.tk HB.out hq
      simp only at c0 c1 c2
      have hgr : g < wr.heap.size := by have := hlg.1; have := HB.out.size; omega
      have HSK : Hid (i + 1 = La.length → (k : Int) = 0 → J1 a.size La (i + 1) acc f) := fun h1 h2 => HJ.out.skip hq h1 h2
      have HPT : Hid ((i + 1 = La.length → (k : Int) ≠ 0) → J1 a.size La (i + 1) (acc ++ [(⟨k, f, t⟩ : Tk)]) fr) := fun h1 => HJ.out.put hq h1
      clear hq hlg
      by_cases hlast : i + 1 = La.length
      · have HLS : Hid (i + 1 = La.length) := hlast
        have hd : ((i : Int) == (La.length : Int) - 1) = true := by rw [beq_iff_eq]; omega
        clear hlast
        by_cases hk0 : k = 0
        · subst hk0
          have HJN : Hid (J1 a.size La (i + 1) acc f) := HSK.out HLS.out rfl
          go_wp2
          go_roundw
          case rel => exact ⟨i + 1, acc, f, by omega, by go_num, rfl, by omega, HJN.out, HO.out.alloc _, HB.out.alloc HB.out.size _⟩
          case measure => simp [intOf]; omega
        · have hk0' : ((k : Int) == 0) = false := by rw [beq_eq_false_iff_ne]; omega
          have HJN : Hid (J1 a.size La (i + 1) (acc ++ [(⟨k, f, t⟩ : Tk)]) fr) := HPT.out (fun _ => by omega)
          go_wp2_with (at_builtin; (refine wpList_append_at _ rfl (.tmp 87) (.tmp 89) 22 rfl w6.heap.size 31 i0 (.agg #[.int .u8 0, .int .i64 0, .int .i64 0]) 3 24 Tryd.underlying22 hi hz0 hz1 hz2 rfl (by decide) _ acc.length (flat acc) rfl ((HO.out.alloc _).alloc _) (some ⟨_, 0, none⟩) 1 1 [.int .u8 (k : Int), .int .i64 (f : Int), .int .i64 (t : Int)] rfl rfl (fun h => by cases h) (fun ad had => by cases had; exact cells_new2 _ _ _ _) (fun u hu => by simp at hu; rcases hu with rfl | rfl | rfl <;> rfl) (by unfold maxLen; omega) (by omega) (by have := HB.out.size; simp; omega) ?_); intro v9 w9 ho9 hg9 _; have HO9 : Hid (w9.ownsRow w6.heap.size 31 3 v9 (acc ++ [(⟨k, f, t⟩ : Tk)]).length (flat (acc ++ [(⟨k, f, t⟩ : Tk)]))) := (by unfold Hid; rw [flat_one, List.length_append]; exact ho9); have HB9 : Hid (Below w6.heap.size w6 w9) := ((HB.out.alloc HB.out.size _).alloc (by have := HB.out.size; simp; omega) _).grown hg9 (by have := HB.out.size; simp; omega) (fun j hj => (HO.out.lt j hj).1); clear ho9 hg9)
          go_roundw
          case rel => exact ⟨i + 1, acc ++ [(⟨k, f, t⟩ : Tk)], fr, by omega, by go_num, rfl, by simp; omega, HJN.out, HO9.out, HB9.out⟩
          case measure => simp [intOf]; omega
      · have hd : ((i : Int) == (La.length : Int) - 1) = false := by rw [beq_eq_false_iff_ne]; omega
        have HJN : Hid (J1 a.size La (i + 1) (acc ++ [(⟨k, f, t⟩ : Tk)]) fr) := HPT.out (fun h => absurd h hlast)
        go_wp2_with (at_builtin; (refine wpList_append_at _ rfl (.tmp 87) (.tmp 89) 22 rfl w6.heap.size 31 i0 (.agg #[.int .u8 0, .int .i64 0, .int .i64 0]) 3 24 Tryd.underlying22 hi hz0 hz1 hz2 rfl (by decide) _ acc.length (flat acc) rfl ((HO.out.alloc _).alloc _) (some ⟨_, 0, none⟩) 1 1 [.int .u8 (k : Int), .int .i64 (f : Int), .int .i64 (t : Int)] rfl rfl (fun h => by cases h) (fun ad had => by cases had; exact cells_new2 _ _ _ _) (fun u hu => by simp at hu; rcases hu with rfl | rfl | rfl <;> rfl) (by unfold maxLen; omega) (by omega) (by have := HB.out.size; simp; omega) ?_); intro v9 w9 ho9 hg9 _; have HO9 : Hid (w9.ownsRow w6.heap.size 31 3 v9 (acc ++ [(⟨k, f, t⟩ : Tk)]).length (flat (acc ++ [(⟨k, f, t⟩ : Tk)]))) := (by unfold Hid; rw [flat_one, List.length_append]; exact ho9); have HB9 : Hid (Below w6.heap.size w6 w9) := ((HB.out.alloc HB.out.size _).alloc (by have := HB.out.size; simp; omega) _).grown hg9 (by have := HB.out.size; simp; omega) (fun j hj => (HO.out.lt j hj).1); clear ho9 hg9)
        go_roundw
        case rel => exact ⟨i + 1, acc ++ [(⟨k, f, t⟩ : Tk)], fr, by omega, by go_num, rfl, by simp; omega, HJN.out, HO9.out, HB9.out⟩
        case measure => simp [intOf]; omega
    · have hge : ¬ (i : Int) < (La.length : Int) := by omega
      have hie : i = La.length := by omega
      obtain ⟨e1, e2⟩ := HJ.out.2 hie
      subst e1
      have HFR : Hid (fr = frB a.size La) := e2
      clear e2 hie HJ
      have hrl := rlB_len La
      obtain ⟨wo, rfl⟩ : ∃ wo, wo = wr := ⟨_, rfl⟩
      obtain ⟨V1, rfl⟩ : ∃ V1, V1 = u11 := ⟨_, rfl⟩
      go_wp2
      go_loopw [13, 94] (fun st si wr => ∃ (i : Nat) (tt : Int), i ≤ Lb.length ∧ si = .int .i64 (i : Int) ∧ st = .int .i64 tt ∧ (0 ≤ tt ∧ tt ≤ 4294967296) ∧ J2 a.size Lb i tt ∧ wr.ownsRow w6.heap.size 31 3 V1 (rlB La).length (flat (rlB La)) ∧ Below w6.heap.size w6 wr) (fun _ si _ => Lb.length - (intOf si).toNat)
      case atStart => exact ⟨0, (a.size : Int) + 1, Nat.zero_le _, rfl, rfl, ⟨by omega, by omega⟩, by simp [J2], HO.out, HB.out⟩
      case round =>
        obtain ⟨i, tt, hil, rfl, rfl, htt, hJ, hown, hbel⟩ := hrel
        have HJ : Hid (J2 a.size Lb i tt) := hJ
        have HO2 : Hid (wr.ownsRow w6.heap.size 31 3 V1 (rlB La).length (flat (rlB La))) := hown
        have HB2 : Hid (Below w6.heap.size w6 wr) := hbel
        clear hJ hown hbel
        by_cases hlt : i < Lb.length
        · have hlt' : (i : Int) < (Lb.length : Int) := by omega
          obtain ⟨q, hq⟩ : ∃ q, Lb[i]? = some q := ⟨_, List.getElem?_eq_getElem hlt⟩
          obtain ⟨k, f, t, rfl, hk80, hft, hta⟩ := HIB.out q (List.mem_of_getElem? hq)
          obtain ⟨g, o, rfl, hlg⟩ : ∃ g o, a4 = some ⟨g, o, none⟩ ∧ Lies w6 g o Lb := by
            rcases HLB.out with h | ⟨g, o, h1, h2⟩
            · rw [h] at hlt; simp at hlt
            · exact ⟨g, o, h1, h2⟩
          obtain ⟨c0, c1, c2⟩ := hlg.tk HB2.out hq
          simp only at c0 c1 c2
          have hgr : g < wr.heap.size := by have := hlg.1; have := HB2.out.size; omega
          by_cases hb0 : i = 0 ∧ k = 0
          · obtain ⟨rfl, rfl⟩ := hb0
            simp only [Nat.zero_mul, Nat.add_zero] at c0 c1 c2
            have htv : Hid (tt = (a.size : Int) + 1) := by have := HJ.out; unfold J2 at this; unfold Hid; rw [this]; simp
            have HJN : Hid (J2 a.size Lb 1 (tt + t)) := HJ.out.first hq rfl
            have hbd : 0 ≤ tt + (t : Int) ∧ tt + (t : Int) ≤ 4294967296 := by rw [htv.out]; omega
            clear hq hlg
            go_wp2
            go_roundw
            case rel => exact ⟨1, tt + t, by omega, by go_num, rfl, hbd, HJN.out, HO2.out.alloc _, HB2.out.alloc HB2.out.size _⟩
            case measure => simp [intOf]; omega
          · have HJN : Hid (J2 a.size Lb (i + 1) tt) := HJ.out.next hq (fun e => hb0 ⟨e.1, by have := e.2; simp only at this; omega⟩)
            have hcs : ((i : Int) == 0) = false ∨ (((i : Int) == 0) = true ∧ ((k : Int) == 0) = false) := by
              by_cases h : i = 0
              · right; exact ⟨by rw [beq_iff_eq]; omega, by rw [beq_eq_false_iff_ne]; omega⟩
              · left; rw [beq_eq_false_iff_ne]; omega
            clear hq hlg
            rcases hcs with q1 | ⟨q1, q2⟩
            all_goals
              go_wp2
              go_roundw
              case rel => exact ⟨i + 1, tt, by omega, by go_num, rfl, htt, HJN.out, HO2.out.alloc _, HB2.out.alloc HB2.out.size _⟩
              case measure => simp [intOf]; omega
        · have hge2 : ¬ (i : Int) < (Lb.length : Int) := by omega
          have hie : i = Lb.length := by omega
          have hjd := HJ.out
          rw [hie] at hjd
          have HTT : Hid (tt = (a.size : Int) + 1 + hdB Lb) := hjd.done
          clear hjd HJ hie
          obtain ⟨wp, rfl⟩ : ∃ wp, wp = wr := ⟨_, rfl⟩
          go_wp2_with (at_builtin; (refine wpList_append_at _ rfl (.tmp 111) (.tmp 115) 22 rfl w6.heap.size 31 i0 (.agg #[.int .u8 0, .int .i64 0, .int .i64 0]) 3 24 Tryd.underlying22 hi hz0 hz1 hz2 rfl (by decide) _ (rlB La).length (flat (rlB La)) rfl (HO2.out.alloc _) (some ⟨_, 0, none⟩) 1 1 [.int .u8 0, .int .i64 fr, .int .i64 tt] rfl rfl (fun h => by cases h) (fun ad had => by cases had; exact cells_new _ _ _) (fun u hu => by simp at hu; rcases hu with rfl | rfl | rfl <;> rfl) (by unfold maxLen; omega) (by omega) (by have := HB2.out.size; simp; omega) ?_); intro v8 w8 ho8 hg8 _; have HO8 : Hid (w8.ownsRow w6.heap.size 31 3 v8 (rlB La ++ [(⟨0, fr, tt⟩ : Tk)]).length (flat (rlB La ++ [(⟨0, fr, tt⟩ : Tk)]))) := (by unfold Hid; rw [flat_one, List.length_append]; exact ho8); have HB8 : Hid (Below w6.heap.size w6 w8) := (HB2.out.alloc HB2.out.size _).grown hg8 (by have := HB2.out.size; simp; omega) (fun j hj => (HO2.out.lt j hj).1); clear ho8 hg8)
          go_loopw [11, 119] (fun sw si wr => ∃ (i : Nat) (acc : List Tk), i ≤ Lb.length ∧ si = .int .i64 (i : Int) ∧ acc.length ≤ La.length + 1 + i ∧ J3 a.size (rlB La ++ [(⟨0, fr, tt⟩ : Tk)]) Lb i acc ∧ wr.ownsRow w6.heap.size 31 3 sw acc.length (flat acc) ∧ Below w6.heap.size w6 wr) (fun _ si _ => Lb.length - (intOf si).toNat)
          case atStart => exact ⟨0, rlB La ++ [(⟨0, fr, tt⟩ : Tk)], Nat.zero_le _, rfl, by simp; omega, by simp [J3, tlB], HO8.out, HB8.out⟩
          case round =>
            obtain ⟨i, acc, hil, rfl, hal, hJ, hown, hbel⟩ := hrel
            have HJ3 : Hid (J3 a.size (rlB La ++ [(⟨0, fr, tt⟩ : Tk)]) Lb i acc) := hJ
            have HO3 : Hid (wr.ownsRow w6.heap.size 31 3 u11 acc.length (flat acc)) := hown
            have HB3 : Hid (Below w6.heap.size w6 wr) := hbel
            clear hJ hown hbel
            by_cases hlt3 : i < Lb.length
            · have hlt' : (i : Int) < (Lb.length : Int) := by omega
              obtain ⟨q, hq⟩ : ∃ q, Lb[i]? = some q := ⟨_, List.getElem?_eq_getElem hlt3⟩
              obtain ⟨k, f, t, rfl, hk80, hft, hta⟩ := HIB.out q (List.mem_of_getElem? hq)
              obtain ⟨g, o, rfl, hlg⟩ : ∃ g o, a4 = some ⟨g, o, none⟩ ∧ Lies w6 g o Lb := by
                rcases HLB.out with h | ⟨g, o, h1, h2⟩
                · rw [h] at hlt3; simp at hlt3
                · exact ⟨g, o, h1, h2⟩
              obtain ⟨c0, c1, c2⟩ := hlg.tk HB3.out hq
              simp only at c0 c1 c2
              have hgr : g < wr.heap.size := by have := hlg.1; have := HB3.out.size; omega
              have HMV : Hid (∀ v, Calls Tryd.prog 10 #[.agg #[.int .u8 (k : Int), .int .i64 (f : Int), .int .i64 (t : Int)], .int .i64 ((a.size : Int) + 1)] v fun e w' => e = .returned (.agg #[.int .u8 (k : Int), .int .i64 ((f : Int) + ((a.size : Int) + 1)), .int .i64 ((t : Int) + ((a.size : Int) + 1))]) ∧ Below v.heap.size v w') := fun v => moved_any _ _ _ _ (by omega) (by omega) (by omega) v
              by_cases hb0 : 0 < i ∨ (k : Int) ≠ 0
              · have HJN : Hid (J3 a.size (rlB La ++ [(⟨0, fr, tt⟩ : Tk)]) Lb (i + 1) (acc ++ [(⟨k, (f : Int) + ((a.size : Int) + 1), (t : Int) + ((a.size : Int) + 1)⟩ : Tk)])) := HJ3.out.put' hq hb0
                have hcs : (decide ((i : Int) > 0) = true ∧ decide (0 < i) = true) ∨ ((decide ((i : Int) > 0) = false ∧ decide (0 < i) = false) ∧ ((k : Int) != 0) = true) := by
                  by_cases h : 0 < i
                  · left; constructor <;> (rw [decide_eq_true_eq]; omega)
                  · right
                    refine ⟨by constructor <;> (rw [decide_eq_false_iff_not]; omega), ?_⟩
                    rw [bne_iff_ne]
                    rcases hb0 with h' | h'
                    · exact absurd h' h
                    · exact h'
                clear hq hlg hb0
                rcases hcs with ⟨q1, q2⟩ | ⟨⟨q1, q2⟩, q3⟩
                all_goals
                  go_wp2_with (first
                    | (go_at_call 10; (with_reducible refine (HMV.out _).mono ?_); rintro e w7 ⟨rfl, hb7⟩; have HB7 : Hid (Below w6.heap.size w6 w7) := (HB3.out.alloc HB3.out.size _).trans (hb7.mono (by have := HB3.out.size; simp; omega)); have HO7 : Hid (w7.ownsRow w6.heap.size 31 3 u11 acc.length (flat acc)) := ownsRow_below (HO3.out.alloc _) hb7 (Nat.le_refl _); clear hb7)
                    | (at_builtin; (refine wpList_append_at _ rfl (.tmp 131) (.tmp 137) 22 rfl w6.heap.size 31 i0 (.agg #[.int .u8 0, .int .i64 0, .int .i64 0]) 3 24 Tryd.underlying22 hi hz0 hz1 hz2 rfl (by decide) _ acc.length (flat acc) rfl (HO7.out.alloc _) (some ⟨_, 0, none⟩) 1 1 [.int .u8 (k : Int), .int .i64 ((f : Int) + ((a.size : Int) + 1)), .int .i64 ((t : Int) + ((a.size : Int) + 1))] rfl rfl (fun h => by cases h) (fun ad had => by cases had; exact cells_new _ _ _) (fun u hu => by simp at hu; rcases hu with rfl | rfl | rfl <;> rfl) (by unfold maxLen; omega) (by omega) (by have := HB7.out.size; simp; omega) ?_); intro v9 w9 ho9 hg9 _; have HO9 : Hid (w9.ownsRow w6.heap.size 31 3 v9 (acc ++ [(⟨k, (f : Int) + ((a.size : Int) + 1), (t : Int) + ((a.size : Int) + 1)⟩ : Tk)]).length (flat (acc ++ [(⟨k, (f : Int) + ((a.size : Int) + 1), (t : Int) + ((a.size : Int) + 1)⟩ : Tk)]))) := (by unfold Hid; rw [flat_one, List.length_append]; exact ho9); have HB9 : Hid (Below w6.heap.size w6 w9) := (HB7.out.alloc HB7.out.size _).grown hg9 (by have := HB7.out.size; simp; omega) (fun j hj => (HO7.out.lt j hj).1); clear ho9 hg9))
                  go_roundw
                  case rel => exact ⟨i + 1, acc ++ [(⟨k, (f : Int) + ((a.size : Int) + 1), (t : Int) + ((a.size : Int) + 1)⟩ : Tk)], by omega, by go_num, by simp; omega, HJN.out, HO9.out, HB9.out⟩
                  case measure => simp [intOf]; omega
              · have HJN : Hid (J3 a.size (rlB La ++ [(⟨0, fr, tt⟩ : Tk)]) Lb (i + 1) acc) := HJ3.out.skip hq hb0
                have q1 : decide ((i : Int) > 0) = false := by rw [decide_eq_false_iff_not]; omega
                have q2 : decide (0 < i) = false := by rw [decide_eq_false_iff_not]; omega
                have q3 : ((k : Int) != 0) = false := by
                  have : (k : Int) = 0 := Classical.byContradiction fun h => hb0 (.inr h)
                  rw [this]; rfl
                clear hq hlg hb0
                go_wp2
                go_roundw
                case rel => exact ⟨i + 1, acc, by omega, by go_num, by omega, HJN.out, HO3.out.alloc _, HB3.out.alloc HB3.out.size _⟩
                case measure => simp [intOf]; omega
            · have hge3 : ¬ (i : Int) < (Lb.length : Int) := by omega
              have hie : i = Lb.length := by omega
              have hj3 := HJ3.out
              rw [hie] at hj3
              unfold J3 at hj3
              rw [List.take_length, HFR.out, HTT.out, show (a.size : Int) + 1 = ((a.size + 1 : Nat) : Int) by omega, List.append_assoc, List.singleton_append, HLJ.out] at hj3
              subst hj3
              obtain ⟨a7, c7, rfl, hl7, -, -⟩ := own_form HO3.out
              have HL7 : Hid (LiesA wr a7 acc) := hl7
              have HL5 : Hid (LiesA wr a5 acc) := HLJ6.out.below HB3.out
              have X9 := HX6.out.below HB3.out HX6.out.lt
              have m0 := X9.cell 0
              have mz := X9.lt
              simp at m0
              have HMX : Hid (acc.length ≤ maxLen) := by unfold Hid maxLen; omega
              clear hl7 X9 hie
              go_wp2_with (go_at_call 11; (with_reducible refine (HSM.out a5 c5 a7 c7 wr HL5.out HL7.out HMX.out).mono ?_); rintro e w9 ⟨rfl, hb9⟩; have HB9 : Hid (Below w6.heap.size w6 w9) := HB3.out.trans (hb9.mono HB3.out.size); clear hb9)
              go_ret
              exact ⟨rfl, HB6.out.trans (HB9.out.mono HB6.out.size)⟩
theorem lexerJoins_walk (a b : ByteArray) (hB : a.size + b.size ≤ 1048576) (w : World) (hS : Spl w) (hT : Lt w) (hM : MaxL w) :
    Calls Tryd.prog 5 #[.string a, .string b] w fun e w' => e = .returned (.bool true) ∧ Below w.heap.size w w' := by
  cases ha : (cut a 0).2 with
  | some x => exact joins_fault a b hB x.1 x.2 ha w hS hT hM
  | none =>
    cases hb : (cut b 0).2 with
    | some x => exact joins_second a b hB x.1 x.2 ha hb w hS hT hM
    | none => exact joins_both a b hB ha hb w hS hT hM
end Go.Proofs.YthdfccdkomfikaaDoor
