import Derived.Test.YtaploloedocgbaaDoorTx
namespace Go.Proofs.YtaploloedocgbaaDoor
open Go.ChangeShapes Go.WideShapes Go.ChangeAt Go.RowKit
set_option linter.unusedVariables false

/-- what a node says -/
def tex (s : ByteArray) (ts : List Tk) (ns : List Nd) (n : Int) : List UInt8 :=
  if 0 ≤ n then (match ns[n.toNat]? with | none => [] | some x => txt s ts (spB x ts.length) (spE x ts.length - spB x ts.length)) else []
theorem tex_no {s : ByteArray} {ts : List Tk} {ns : List Nd} {n : Int} (h : ¬ (0 ≤ n ∧ n < (ns.length : Int))) : tex s ts ns n = [] := by
  unfold tex
  by_cases h0 : 0 ≤ n
  · rw [if_pos h0, List.getElem?_eq_none (by omega)]
  · rw [if_neg h0]
theorem tex_at {s : ByteArray} {ts : List Tk} {ns : List Nd} {n : Nat} {x : Nd} (hx : ns[n]? = some x) : tex s ts ns n = txt s ts (spB x ts.length) (spE x ts.length - spB x ts.length) := by
  unfold tex; rw [if_pos (by omega), Int.toNat_natCast, hx]

set_option maxRecDepth 1000000 in
set_option maxHeartbeats 4000000 in
theorem text_any (s : ByteArray) (a1 a2 : Option Addr) (c1 c2 : Nat) (ts : List Tk) (ns : List Nd) (n : Int) (w : World) (h1 : LiesA w a1 ts) (h2 : LiesA w a2 ns) (hl1 : ts.length ≤ 4194304) (hl2 : ns.length * 32 ≤ 140737488351232) (hs : s.size ≤ 1048576)
    (hf1 : ∀ e ∈ ts, TkFit e) (hf2 : ∀ e ∈ ns, NdFit e) (hn0 : -9223372036854775808 ≤ n) (hn1 : n ≤ 9223372036854775807) (hc1 : ts.length ≤ c1) :
    Calls Tryd.prog 19 #[.string s, .slice a1 ts.length c1, .agg #[.slice a2 ns.length c2], .int .i64 n] w fun e w' => e = .returned (.string ⟨(tex s ts ns n).toArray⟩) ∧ Below w.heap.size w w' := by
  have H1 : Hid (LiesA w a1 ts) := h1
  have H2 : Hid (LiesA w a2 ns) := h2
  have HF1 : Hid (∀ e ∈ ts, TkFit e) := hf1
  have HF2 : Hid (∀ e ∈ ns, NdFit e) := hf2
  obtain ⟨w2, e2, hw, hs2, B0⟩ := bx1 w #[.slice a2 ns.length c2] 25
  have HB0 : Hid (Below w.heap.size w w2) := hw
  have HX0 : Hid (Bx w2 w.heap.size #[.slice a2 ns.length c2] 25) := B0
  have HS2 : Hid (w2.heap.size = w.heap.size + 1) := hs2
  have HE2 : Hid (w.alloc (.cells #[.slice a2 ns.length c2] 25) = w2) := e2
  have x0 := B0.one
  clear h1 h2 hf1 hf2 hw hs2 B0 e2
  by_cases g0 : 0 ≤ n ∧ n < (ns.length : Int)
  · obtain ⟨m, rfl⟩ : ∃ m : Nat, n = m := ⟨n.toNat, by omega⟩
    have g1 : m < ns.length := by omega
    obtain ⟨x, hx⟩ : ∃ e, ns[m]? = some e := ⟨_, List.getElem?_eq_getElem g1⟩
    have HX : Hid (ns[m]? = some x) := hx
    have HFX : Hid (NdFit x) := HF2.out x (List.mem_of_getElem? hx)
    have HR0 := tex_at (s := s) (ts := ts) hx
    rcases H2.out with rfl | ⟨b2, o2, rfl, hL2⟩
    · simp at g1
    have HL2 : Hid (Lies w b2 o2 ns) := hL2
    have g1' : (m : Int) < (ns.length : Int) := by omega
    have HD : Hid ((decide (0 ≤ (m : Int)) && decide ((m : Int) < (ns.length : Int))) = true) := by unfold Hid; simp; omega
    have hsb := spB_le x ts.length
    have hse := spE_le x ts.length
    obtain ⟨B, hB⟩ : ∃ B, spB x ts.length = B := ⟨_, rfl⟩
    obtain ⟨D, hE⟩ : ∃ D, spE x ts.length = B + D := ⟨spE x ts.length - B, by rw [hB] at hsb; omega⟩
    have HSP : Hid (∀ v, Calls Tryd.prog 28 #[.agg #[.int .u8 x.k, .int .i64 x.f, .int .i64 x.e, .int .i64 x.s], .int .i64 ts.length] v fun e w' => e = .returned (.tuple #[.int .i64 B, .int .i64 ((B + D : Nat) : Int)]) ∧ Below v.heap.size v w') := by
      intro v; have := span_any x ts.length v HFX.out (by omega); rw [hB, hE] at this; exact this
    rw [hB, hE, Nat.add_sub_cancel_left] at HR0
    have HR : Hid (tex s ts ns m = txt s ts B D) := HR0
    rw [hE] at hse
    clear hx hL2 g0 hB hE hsb HR0
    go_enter Tryd.func19, Tryd.ntmps19
    go_upto_region 1 with fail
    rw [HE2.out]
    go_upto_region 3 with (first
      | (go_at_call 27; refine (isNode_any _ ns.length c2 m _).mono ?_; rintro e w3 ⟨rfl, hb3⟩; rw [HD.out]; have HB3 : Hid (Below w2.heap.size w2 w3) := hb3; clear hb3)
      | fail)
    obtain ⟨w4, e4, hb4, hs4, B4⟩ := bx1 w3 #[.pointer none, .slice none 0 0] 74
    have HE4 : Hid (w3.alloc (.cells #[.pointer none, .slice none 0 0] 74) = w4) := e4
    have HI4 : Hid (Lib.IsBuilder 74 5 w3.heap.size w3.heap.size (Lib.byteCells []) w4) := by unfold Hid; rw [← e4]; exact Lib.fresh_isBuilder _ _ w3
    have HW3 : Hid (Below w.heap.size w w3) := HB0.out.trans (HB3.out.mono HB0.out.size)
    have HW4 : Hid (Below w3.heap.size w3 w4) := hb4
    have HX3 : Hid (Bx w3 w.heap.size #[.slice (some ⟨b2, o2, none⟩) ns.length c2] 25) := HX0.out.below HB3.out (by have := HS2.out; omega)
    have hlt3 : w.heap.size < w3.heap.size := HX3.out.lt
    have z4 := (HX3.out.below HW4.out hlt3).one
    obtain ⟨d0, d1, d2, d3⟩ := HL2.out.nd (HW3.out.trans (HW4.out.mono HW3.out.size)) HX.out
    have hs4' : w3.heap.size < w4.heap.size := by omega
    clear e4 hb4 hs4 B4 x0
    go_upto_region 4 with fail
    rw [HE4.out]
    go_upto_region 5 with (first
      | (go_at_call 28; refine (HSP.out _).mono ?_; rintro e w5 ⟨rfl, hb5⟩; have HB5 : Hid (Below w4.heap.size w4 w5) := hb5; clear hb5)
      | fail)
    have HI5 : Hid (Lib.IsBuilder 74 5 w3.heap.size w3.heap.size (Lib.byteCells []) w5) := isB_below HI4.out HB5.out (Nat.le_refl _)
    have HW5 : Hid (Below w3.heap.size w3 w5) := HW4.out.trans (HB5.out.mono (by omega))
    have hs5 : w3.heap.size < w5.heap.size := by have := HB5.out.size; omega
    clear z4 d0 d1 d2 d3
    have hBl : (B : Int) ≤ (c1 : Int) := by omega
    have hEl : (B : Int) + (D : Int) ≤ (c1 : Int) := by omega
    by_cases hD : D = 0
    · subst hD
      have HS : Hid (tex s ts ns m = []) := by unfold Hid; rw [HR.out]; rfl
      go_wp2
      all_goals
        refine wp_loop_rounds 1 ?_
        rw [rounds_succ]
        go_wp2_with (first
          | (go_at_call 38; refine (Tryd.Builder_String_any w3.heap.size w3.heap.size [] _ HI5.out (by omega)).mono ?_; rintro e w9 ⟨rfl, hb9⟩; have HB9 : Hid (Below w3.heap.size w5 w9) := hb9; clear hb9)
          | fail)
        go_ret
        exact ⟨ret_s (by rw [HS.out]), HW3.out.trans ((HW5.out.trans HB9.out).mono HW3.out.size)⟩
    · rcases H1.out with h0 | ⟨b1, o1, rfl, hL1⟩
      · rw [h0] at hse; simp at hse; omega
      have hBc : (B : Int) < (c1 : Int) := by omega
      have hBc' : ¬ c1 = B := by omega
      have HL1 : Hid (Lies w b1 o1 ts) := hL1
      have hb1w : b1 < w.heap.size := hL1.1
      clear hL1
      go_wp2
      rw [Nat.add_sub_cancel_left]
      go_loopw [35] (fun i wr => ∃ k : Nat, k ≤ D ∧ i = .int .i64 k ∧ Below w3.heap.size w3 wr ∧ Lib.IsBuilder 74 5 w3.heap.size w3.heap.size (Lib.byteCells (txt s ts B k)) wr) (fun i _ => D - (intOf i).toNat)
      case atStart => exact ⟨0, Nat.zero_le _, rfl, HW5.out, HI5.out⟩
      case round =>
        obtain ⟨k, hk, rfl, hbel, hib⟩ := hrel
        have HBR : Hid (Below w3.heap.size w3 wr) := hbel
        have HIB : Hid (Lib.IsBuilder 74 5 w3.heap.size w3.heap.size (Lib.byteCells (txt s ts B k)) wr) := hib
        have HWR : Hid (Below w.heap.size w wr) := HW3.out.trans (hbel.mono HW3.out.size)
        have hsr : w3.heap.size < wr.heap.size := isB_lt hib
        have htl := txt_le s ts B hs k (by omega)
        clear hbel hib
        by_cases hkD : k < D
        · obtain ⟨p, hp⟩ : ∃ e, ts[B + k]? = some e := ⟨_, List.getElem?_eq_getElem (by omega)⟩
          obtain ⟨t0, t1, t2⟩ := HL1.out.tk HWR.out hp
          rw [show o1 + (B + k) * 3 = o1 + B * 3 + k * 3 by omega] at t0 t1 t2
          have HP : Hid (ts[B + k]? = some p) := hp
          have HPF : Hid (TkFit p) := HF1.out p (List.mem_of_getElem? hp)
          have hkD' : (k : Int) < (D : Int) := by omega
          have hb1r : b1 < wr.heap.size := by have := HWR.out.size; omega
          obtain ⟨w6, e6, hb6, hs6, B6⟩ := bx1 wr #[.int .u8 p.k, .int .i64 p.f, .int .i64 p.t] 60
          have HE6 : Hid (wr.alloc (.cells #[.int .u8 p.k, .int .i64 p.f, .int .i64 p.t] 60) = w6) := e6
          have HB6 : Hid (Bx w6 wr.heap.size #[.int .u8 p.k, .int .i64 p.f, .int .i64 p.t] 60) := B6
          have HI6 : Hid (Lib.IsBuilder 74 5 w3.heap.size w3.heap.size (Lib.byteCells (txt s ts B k)) w6) := isB_below HIB.out hb6 (Nat.le_refl _)
          have HW6 : Hid (Below w3.heap.size w3 w6) := HBR.out.trans (hb6.mono (by omega))
          have hs6' : wr.heap.size < w6.heap.size := by omega
          have q0 := B6.t0
          have q1 := B6.t1
          have q2 := B6.t2
          clear hp e6 hb6 hs6 B6
          go_upto_region 8 with fail
          rw [HE6.out]
          clear t0 t1 t2
          go_upto_region 9 with (first
            | (go_at_call 30; refine (word_any s p _ (by omega) HPF.out).mono ?_; rintro e w7 ⟨rfl, hb7⟩; have HB7 : Hid (Below w6.heap.size w6 w7) := hb7; clear hb7)
            | fail)
          have HI7 : Hid (Lib.IsBuilder 74 5 w3.heap.size w3.heap.size (Lib.byteCells (txt s ts B k)) w7) := isB_below HI6.out HB7.out (Nat.le_refl _)
          have HW7 : Hid (Below w3.heap.size w3 w7) := HW6.out.trans (HB7.out.mono (by omega))
          have r0 := (HB6.out.below HB7.out hs6').t0
          have hs7 : w3.heap.size < w7.heap.size := isB_lt HI7.out
          clear q0 q1 q2
          have hwl := wrd_le s p
          have hwz : (wrd s p).size ≤ s.size := by rw [Lib.size_eq]; exact hwl
          cases htk : tokB p with
          | false =>
            have HT : Hid ((p.k != 0 && p.k != 1) = false) := htk
            have HS : Hid (txt s ts B (k + 1) = txt s ts B k) := txt_not HP.out htk
            clear htk
            go_upto_region 13 with (first
              | (go_at_call 29; refine (isToken_any p.k _).mono ?_; rintro e wz ⟨rfl, rfl⟩; rw [HT.out])
              | fail)
            go_wp2
            go_roundw
            case rel => exact ⟨k + 1, by omega, by go_num, HW7.out, by rw [HS.out]; exact HI7.out⟩
            case measure => simp [intOf]; omega
          | true =>
            have HT : Hid ((p.k != 0 && p.k != 1) = true) := htk
            have HSX : Hid (txt s ts B (k + 1) = stp s p (txt s ts B k)) := txt_tok HP.out htk
            clear htk
            cases hem : (wrd s p).toList.isEmpty with
            | true =>
              have HS : Hid (txt s ts B (k + 1) = txt s ts B k) := by unfold Hid; rw [HSX.out, stp_none hem]
              go_upto_region 13 with (first
                | (go_at_call 29; refine (isToken_any p.k _).mono ?_; rintro e wz ⟨rfl, rfl⟩; rw [HT.out])
                | fail)
              go_wp2
              go_roundw
              case rel => exact ⟨k + 1, by omega, by go_num, HW7.out, by rw [HS.out]; exact HI7.out⟩
              case measure => simp [intOf]; omega
            | false =>
              by_cases hac : txt s ts B k = []
              · have HS : Hid (Lib.byteCells (txt s ts B (k + 1)) = Lib.byteCells (txt s ts B k) ++ Lib.strCells (wrd s p)) := by
                  unfold Hid; rw [HSX.out, stp_first hem hac, hac]; rfl
                have hlz : ((Lib.byteCells (txt s ts B k)).length : Int) = 0 := by rw [hac]; rfl
                have HLZ : Hid ((Lib.byteCells (txt s ts B k)).length = 0) := by unfold Hid; rw [hac]; rfl
                clear hac
                generalize wrd s p = v at *
                go_upto_region 13 with (first
                  | (go_at_call 29; refine (isToken_any p.k _).mono ?_; rintro e wz ⟨rfl, rfl⟩; rw [HT.out])
                  | (go_at_call 45; refine (Tryd.Builder_Len w3.heap.size w3.heap.size _ _ HI7.out).mono ?_; rintro e wz ⟨rfl, hwz'⟩; obtain rfl := hwz'.symm; rw [HLZ.out])
                  | (go_at_call 37; refine (writeString_any w3.heap.size w3.heap.size _ v _ HI7.out (by rw [HLZ.out]; omega) (by omega)).mono ?_; rintro e w8 ⟨rfl, hi8, hb8⟩; have HI8 : Hid (Lib.IsBuilder 74 5 w3.heap.size w3.heap.size (Lib.byteCells (txt s ts B k) ++ Lib.strCells v) w8) := .inr hi8; have HB8 : Hid (Below w3.heap.size w7 w8) := hb8; clear hi8 hb8)
                  | fail)
                go_wp2
                go_roundw
                case rel => exact ⟨k + 1, by omega, by go_num, HW7.out.trans HB8.out, by rw [HS.out]; exact HI8.out⟩
                case measure => simp [intOf]; omega
              · have HS : Hid (Lib.byteCells (txt s ts B (k + 1)) = (Lib.byteCells (txt s ts B k) ++ [.int .u8 32]) ++ Lib.strCells (wrd s p)) := by
                  unfold Hid; rw [HSX.out, stp_next hem hac, Lib.strCells_eq, Lib.byteCells_append, List.append_assoc]; rfl
                have hln : 0 < (Lib.byteCells (txt s ts B k)).length := by rw [Lib.byteCells_length]; exact List.length_pos_iff.2 hac
                have hlb : (Lib.byteCells (txt s ts B k)).length ≤ 4398050705408 := by rw [Lib.byteCells_length]; exact htl
                clear hac
                generalize wrd s p = v at *
                generalize Lib.byteCells (txt s ts B k) = bs at *
                go_upto_region 13 with (first
                  | (go_at_call 29; refine (isToken_any p.k _).mono ?_; rintro e wz ⟨rfl, rfl⟩; rw [HT.out])
                  | (go_at_call 45; refine (Tryd.Builder_Len w3.heap.size w3.heap.size _ _ HI7.out).mono ?_; rintro e wz ⟨rfl, hwz'⟩; obtain rfl := hwz'.symm)
                  | (go_at_call 36; refine (writeByte_any w3.heap.size w3.heap.size bs 32 _ HI7.out (by omega) (by omega)).mono ?_; rintro e wb ⟨rfl, hib, hbb⟩; have HIBb : Hid (Lib.IsBuilder 74 5 w3.heap.size w3.heap.size (bs ++ [.int .u8 32]) wb) := .inr hib; have HBb : Hid (Below w3.heap.size w7 wb) := hbb; clear hib hbb)
                  | (go_at_call 37; refine (writeString_any w3.heap.size w3.heap.size _ v _ HIBb.out (by rw [List.length_append, List.length_singleton]; omega) (by have := isB_lt HIBb.out; omega)).mono ?_; rintro e w8 ⟨rfl, hi8, hb8⟩; have HI8 : Hid (Lib.IsBuilder 74 5 w3.heap.size w3.heap.size ((bs ++ [.int .u8 32]) ++ Lib.strCells v) w8) := .inr hi8; have HB8 : Hid (Below w3.heap.size wb w8) := hb8; clear hi8 hb8)
                  | fail)
                go_wp2
                go_roundw
                case rel => exact ⟨k + 1, by omega, by go_num, (HW7.out.trans HBb.out).trans HB8.out, by rw [HS.out]; exact HI8.out⟩
                case measure => simp [intOf]; omega
        · have hkk : k = D := by omega
          have HS : Hid (txt s ts B k = tex s ts ns m) := by unfold Hid; rw [HR.out, hkk]
          clear hkk
          go_wp2_with (first
            | (go_at_call 38; refine (Tryd.Builder_String_any w3.heap.size w3.heap.size _ _ HIB.out (by omega)).mono ?_; rintro e w9 ⟨rfl, hb9⟩; have HB9 : Hid (Below w3.heap.size wr w9) := hb9; clear hb9)
            | fail)
          go_ret
          exact ⟨ret_s (by rw [HS.out]), HW3.out.trans ((HBR.out.trans HB9.out).mono HW3.out.size)⟩
  · have HR : Hid (tex s ts ns n = []) := tex_no g0
    have HD : Hid ((decide (0 ≤ n) && decide (n < (ns.length : Int))) = false) := by
      unfold Hid
      simp only [Bool.and_eq_false_iff, decide_eq_false_iff_not]; omega
    clear g0
    go_enter Tryd.func19, Tryd.ntmps19
    go_upto_region 1 with fail
    rw [HE2.out]
    go_wp2_with (first
      | (go_at_call 27; refine (isNode_any _ ns.length c2 n _).mono ?_; rintro e w3 ⟨rfl, hb3⟩; rw [HD.out]; have HB3 : Hid (Below w2.heap.size w2 w3) := hb3; clear hb3)
      | fail)
    go_ret
    exact ⟨ret_s (by rw [HR.out]), HB0.out.trans (HB3.out.mono HB0.out.size)⟩
end Go.Proofs.YtaploloedocgbaaDoor
