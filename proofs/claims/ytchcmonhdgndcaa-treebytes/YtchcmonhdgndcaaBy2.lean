import Derived.Test.YtchcmonhdgndcaaBy1
import Derived.Test.YtchcmonhdgndcaaUpsW
import Derived.Test.YtchcmonhdgndcaaVl5
namespace Go.Proofs.Ytchcmonhdgndcaa
open Go.ChangeShapes Go.WideShapes Go.ChangeAt Go.RowKit
set_option linter.unusedVariables false

theorem atF_none {ts : List Tk} {ns : List Nd} {off : Int} (h : ∀ x, atB ts off x = false) (k : Nat) : atF ts ns off k = -1 := by
  rcases atF_spec ts ns off k with ⟨h1, -⟩ | ⟨m, x, -, -, -, h4, -⟩
  · exact h1
  · rw [h x] at h4; cases h4
theorem shB_pos {ns : List Nd} (h : shB ns = true) : ∃ x, ns[0]? = some x := by
  cases hx : ns[0]? with
  | none => unfold shB at h; rw [hx] at h; simp at h
  | some x => exact ⟨x, rfl⟩

set_option maxRecDepth 1000000 in
set_option maxHeartbeats 4000000 in
theorem treeBytes_walk (s : ByteArray) (a1 a2 : Option Addr) (c1 c2 : Nat) (ts : List Tk) (ns : List Nd) (w : World) (h1 : LiesA w a1 ts) (h2 : LiesA w a2 ns) (hn1 : a1 = none → ts.length = 0 ∧ c1 = 0) (hn2 : a2 = none → ns.length = 0 ∧ c2 = 0)
    (hl1 : ts.length * 24 ≤ 140737488351232) (hl2 : ns.length * 32 ≤ 140737488351232) (hs : s.size ≤ 140737488351232) (hf1 : ∀ e ∈ ts, TkFit e) (hf2 : ∀ e ∈ ns, NdFit e) :
    Calls Try.prog 3 #[.agg #[.string s, .slice a1 ts.length c1, .slice a2 ns.length c2]] w fun e w' => e = .returned (.bool true) ∧ Below w.heap.size w w' := by
  have H1 : Hid (LiesA w a1 ts) := h1
  have H2 : Hid (LiesA w a2 ns) := h2
  have HF2 : Hid (∀ e ∈ ns, NdFit e) := hf2
  obtain ⟨w2, e2, hw, hs2, B0, B1⟩ := bx2 w #[.string s, .slice a1 ts.length c1, .slice a2 ns.length c2] #[.slice a2 ns.length c2] 27 25
  have HE2 : Hid ((w.alloc (.cells #[.string s, .slice a1 ts.length c1, .slice a2 ns.length c2] 27)).alloc (.cells #[.slice a2 ns.length c2] 25) = w2) := e2
  have HW : Hid (Below w.heap.size w w2) := hw
  have HS2 : Hid (w2.heap.size = w.heap.size + 2) := hs2
  have HC : Hid (∀ v, Below w2.heap.size w2 v → v.cell? ⟨w.heap.size, 1, none⟩ = some (.slice a1 ts.length c1) ∧ v.cell? ⟨w.heap.size + 1, 0, none⟩ = some (.slice a2 ns.length c2) ∧ w.heap.size + 2 ≤ v.heap.size ∧ Below w.heap.size w v) := fun v hv =>
    ⟨(B0.below hv (by omega)).cell 1, (B1.below hv (by omega)).one, by have := hv.size; omega, hw.trans (hv.mono hw.size)⟩
  have q0 : w2.cell? ⟨w.heap.size, 0, none⟩ = some (.string s) := B0.cell 0
  obtain ⟨q1, q3, -, -⟩ := HC.out w2 (Below.refl _ _)
  clear h1 h2 hn1 hn2 hf1 hf2 e2 hw hs2 B0 B1
  cases hfo : fol s.size 0 ts with
  | false =>
    have HFO : Hid (fol s.size 0 ts = false) := hfo
    clear hfo
    go_enter Try.func3, Try.ntmps3
    go_upto_region 2 with fail
    rw [HE2.out]
    go_wp2_with (go_at_call 7; refine (following_any s _ c1 ts _ (H1.out.below HW.out) hl1 hs).mono ?_; rintro e w3 ⟨rfl, hb3⟩; rw [HFO.out]; have HB3 : Hid (Below w2.heap.size w2 w3) := hb3; clear hb3)
    go_ret
    exact ⟨rfl, (HC.out _ HB3.out).2.2.2⟩
  | true =>
    have HFO : Hid (fol s.size 0 ts = true) := hfo
    clear hfo
    cases hvl : vlB ns (ts.length : Int) with
    | false =>
      have HVL : Hid (vlB ns (ts.length : Int) = false) := hvl
      clear hvl
      go_enter Try.func3, Try.ntmps3
      go_upto_region 2 with fail
      rw [HE2.out]
      go_wp2_with (first
        | (go_at_call 7; refine (following_any s _ c1 ts _ (H1.out.below HW.out) hl1 hs).mono ?_; rintro e w3 ⟨rfl, hb3⟩; rw [HFO.out]; have HB3 : Hid (Below w2.heap.size w2 w3) := hb3; obtain ⟨z1, z3, -, -⟩ := HC.out w3 hb3; clear hb3)
        | (go_at_call 8; refine (rvalid_any a2 c2 ns (ts.length : Int) _ (H2.out.below (HC.out _ HB3.out).2.2.2) hl2 HF2.out).mono ?_; rintro e w4 ⟨rfl, hb4⟩; rw [HVL.out]; have HB4 : Hid (Below w2.heap.size w2 w4) := HB3.out.trans (hb4.mono HB3.out.size); clear hb4))
      go_ret
      exact ⟨rfl, (HC.out _ HB4.out).2.2.2⟩
    | true =>
      have HVL : Hid (vlB ns (ts.length : Int) = true) := hvl
      obtain ⟨hsh, hvn⟩ := vlB_parts hvl
      obtain ⟨x0, hx0⟩ := shB_pos hsh
      have HX0 : Hid (ns[0]? = some x0) := hx0
      have HH : Hid (∀ (m : Nat) (x : Nd) (off : Int) (v : World), ns[m]? = some x → Below w2.heap.size w2 v → Calls Try.prog 9 #[.int .i64 (m : Int), .int .i64 off, .pointer (some ⟨w.heap.size + 1, 0, none⟩), .pointer (some ⟨w.heap.size, 0, none⟩)] v fun e w' => e = .returned (.bool (atB ts off x)) ∧ Below v.heap.size v w') := fun m x off v hx hv => by
        obtain ⟨z1, z3, zs, zb⟩ := HC.out v hv
        obtain ⟨g0, g1, g2, -⟩ := vlN_parts hx (hvn m (List.getElem?_eq_some_iff.1 hx).1)
        exact holds_any a1 a2 c1 c2 ts ns off m x _ _ v hx (H1.out.below zb) (H2.out.below zb) hl1 hl2 z3 z1 (by omega) (by omega) g0 g2
      have HM1 : Hid (atF ts ns (-1) ns.length = -1) := atF_none (fun x => atB_low HFO.out (.inl (by decide)) x) _
      have HMS : Hid (atF ts ns (endT 0 ts) ns.length = -1) := atF_none (fun x => atB_low HFO.out (.inr (Int.le_refl _)) x) _
      have HSZ0 : Hid (0 ≤ endT 0 ts) := (fol_ge ts 0 HFO.out).1
      have HSZ1 : Hid (endT 0 ts ≤ (s.size : Int)) := endT_le ts 0 HFO.out (by omega)
      clear hvl hsh hvn hx0
      by_cases hz : ts.length = 0
      · have hz1 : ¬ (0 : Int) < (ts.length : Int) := by omega
        have HE0 : Hid (endT 0 ts = 0) := by unfold Hid; rw [List.length_eq_zero_iff.1 hz]; rfl
        have HMZ : Hid (atF ts ns 0 ns.length = -1) := by have := HMS.out; rw [HE0.out] at this; exact this
        clear hz
        go_enter Try.func3, Try.ntmps3
        go_upto_region 2 with fail
        rw [HE2.out]
        go_wp2_with (first
          | (go_at_call 7; refine (following_any s _ c1 ts _ (H1.out.below HW.out) hl1 hs).mono ?_; rintro e w3 ⟨rfl, hb3⟩; rw [HFO.out]; have HB3 : Hid (Below w2.heap.size w2 w3) := hb3; obtain ⟨z1, z3, -, -⟩ := HC.out w3 hb3; clear hb3)
          | (go_at_call 8; refine (rvalid_any a2 c2 ns (ts.length : Int) _ (H2.out.below (HC.out _ HB3.out).2.2.2) hl2 HF2.out).mono ?_; rintro e w4 ⟨rfl, hb4⟩; rw [HVL.out]; have HB4 : Hid (Below w2.heap.size w2 w4) := HB3.out.trans (hb4.mono HB3.out.size); obtain ⟨z5, z7, -, -⟩ := HC.out w4 HB4.out; clear hb4)
          | (go_at_call 10; (with_reducible refine (at_any a1 a2 c1 c2 ts ns (-1) _ (H1.out.below (HC.out _ HB4.out).2.2.2) (H2.out.below (HC.out _ HB4.out).2.2.2) hl1 hl2).mono ?_); rintro e w5 ⟨rfl, hb5⟩; rw [HM1.out]; have HB5 : Hid (Below w2.heap.size w2 w5) := HB4.out.trans (hb5.mono HB4.out.size); obtain ⟨y5, y7, -, -⟩ := HC.out w5 HB5.out; clear hb5)
          | (go_at_call 10; (with_reducible refine (at_any a1 a2 c1 c2 ts ns 0 _ (H1.out.below (HC.out _ HB5.out).2.2.2) (H2.out.below (HC.out _ HB5.out).2.2.2) hl1 hl2).mono ?_); rintro e w6 ⟨rfl, hb6⟩; rw [HMZ.out]; have HB6 : Hid (Below w2.heap.size w2 w6) := HB5.out.trans (hb6.mono HB5.out.size); clear hb6))
        go_loopw [6] (fun i wr => i = .int .i64 0 ∧ Below w2.heap.size w2 wr) (fun _ _ => 0)
        case atStart => exact ⟨rfl, HB6.out⟩
        case round =>
          obtain ⟨rfl, hbel⟩ := hrel
          have HBR : Hid (Below w2.heap.size w2 wr) := hbel
          clear hbel
          go_wp2
          go_ret
          exact ⟨rfl, (HC.out _ HBR.out).2.2.2⟩
      · obtain ⟨kz, hkz⟩ : ∃ kz : Nat, ts.length = kz + 1 := ⟨ts.length - 1, by omega⟩
        obtain ⟨pz, hpz⟩ : ∃ p, ts[kz]? = some p := ⟨_, List.getElem?_eq_getElem (by omega)⟩
        have HEZ : Hid (endT 0 ts = pz.t) := endT_last ts 0 kz pz hkz hpz
        have HPZ : Hid (ts[kz]? = some pz) := hpz
        have HMZ : Hid (atF ts ns pz.t ns.length = -1) := by have := HMS.out; rw [HEZ.out] at this; exact this
        have HZ0 : Hid (0 ≤ pz.t) := by have := HSZ0.out; rw [HEZ.out] at this; exact this
        have HZ1 : Hid (pz.t ≤ (s.size : Int)) := by have := HSZ1.out; rw [HEZ.out] at this; exact this
        have hz1 : (0 : Int) < (ts.length : Int) := by omega
        have hz2 : (ts.length : Int) - 1 = (kz : Int) := by omega
        have hz3 : (kz : Int) < (ts.length : Int) := by omega
        rcases H1.out with h0 | ⟨b1, o1, rfl, hL1⟩
        · rw [h0] at hz1; simp at hz1
        have HL1 : Hid (Lies w b1 o1 ts) := hL1
        clear hz hkz hpz hL1
        go_enter Try.func3, Try.ntmps3
        go_upto_region 2 with fail
        rw [HE2.out]
        go_wp2_with (first
          | (go_at_call 7; refine (following_any s _ c1 ts _ (H1.out.below HW.out) hl1 hs).mono ?_; rintro e w3 ⟨rfl, hb3⟩; rw [HFO.out]; have HB3 : Hid (Below w2.heap.size w2 w3) := hb3; obtain ⟨z1, z3, -, -⟩ := HC.out w3 hb3; clear hb3)
          | (go_at_call 8; refine (rvalid_any a2 c2 ns (ts.length : Int) _ (H2.out.below (HC.out _ HB3.out).2.2.2) hl2 HF2.out).mono ?_; rintro e w4 ⟨rfl, hb4⟩; rw [HVL.out]; have HB4 : Hid (Below w2.heap.size w2 w4) := HB3.out.trans (hb4.mono HB3.out.size); obtain ⟨z5, z7, -, zb⟩ := HC.out w4 HB4.out; have z9 := (HL1.out.tk zb HPZ.out).2.2; clear hb4 zb)
          | (go_at_call 10; (with_reducible refine (at_any _ a2 c1 c2 ts ns (-1) _ (H1.out.below (HC.out _ HB4.out).2.2.2) (H2.out.below (HC.out _ HB4.out).2.2.2) hl1 hl2).mono ?_); rintro e w5 ⟨rfl, hb5⟩; rw [HM1.out]; have HB5 : Hid (Below w2.heap.size w2 w5) := HB4.out.trans (hb5.mono HB4.out.size); obtain ⟨y5, y7, -, -⟩ := HC.out w5 HB5.out; clear hb5)
          | (go_at_call 10; (with_reducible refine (at_any _ a2 c1 c2 ts ns pz.t _ (H1.out.below (HC.out _ HB5.out).2.2.2) (H2.out.below (HC.out _ HB5.out).2.2.2) hl1 hl2).mono ?_); rintro e w6 ⟨rfl, hb6⟩; rw [HMZ.out]; have HB6 : Hid (Below w2.heap.size w2 w6) := HB5.out.trans (hb6.mono HB5.out.size); clear hb6))
        clear z1 z3 z5 z7 z9 y5 y7 q0 q1 q3
        go_loopw [6] (fun i wr => ∃ k : Nat, i = .int .i64 (k : Int) ∧ (k : Int) ≤ pz.t ∧ Below w2.heap.size w2 wr) (fun i _ => pz.t.toNat - (intOf i).toNat)
        case atStart => exact ⟨0, rfl, HZ0.out, HB6.out⟩
        case round =>
          obtain ⟨wo, rfl⟩ : ∃ wo, wo = wr := ⟨_, rfl⟩
          obtain ⟨k, rfl, hk, hbel⟩ := hrel
          have HBR : Hid (Below w2.heap.size w2 wo) := hbel
          obtain ⟨y1, y3, -, -⟩ := HC.out wo hbel
          have hkb : (k : Int) ≤ 140737488351232 := by have := HZ1.out; omega
          clear hbel
          by_cases hkl : (k : Int) < pz.t
          · rcases atF_spec ts ns (k : Int) ns.length with ⟨hN, hno⟩ | ⟨m, x, hm, hN, hx, hyes, hno⟩
            · have HN : Hid (atF ts ns (k : Int) ns.length = -1) := hN
              have HA0 : Hid (atB ts (k : Int) x0 = false) := hno 0 x0 (List.getElem?_eq_some_iff.1 HX0.out).1 HX0.out
              clear hN hno
              go_wp2_with (first
                | (go_at_call 10; refine (at_any _ a2 c1 c2 ts ns (k : Int) _ (H1.out.below (HC.out _ HBR.out).2.2.2) (H2.out.below (HC.out _ HBR.out).2.2.2) hl1 hl2).mono ?_; rintro e w7 ⟨rfl, hb7⟩; rw [HN.out]; have HB7 : Hid (Below w2.heap.size w2 w7) := HBR.out.trans (hb7.mono HBR.out.size); clear hb7)
                | (go_at_call 9; refine (HH.out 0 x0 (k : Int) _ HX0.out HB7.out).mono ?_; rintro e w8 ⟨rfl, hb8⟩; rw [HA0.out]; have HB8 : Hid (Below w2.heap.size w2 w8) := HB7.out.trans (hb8.mono HB7.out.size); clear hb8))
              go_roundw
              case rel => exact ⟨k + 1, by simp, by omega, HB8.out⟩
              case measure => simp [intOf]; omega
            · have HN : Hid (atF ts ns (k : Int) ns.length = (m : Int)) := hN
              have HX : Hid (ns[m]? = some x) := hx
              have HYES : Hid (atB ts (k : Int) x = true) := hyes
              have HNO : Hid (∀ (j : Nat) (y : Nd), m < j → j < ns.length → ns[j]? = some y → atB ts (k : Int) y = false) := hno
              have HKM : Hid (∀ y ∈ (kid ns m).getD [], ∃ q : Nat, y = q ∧ q < ns.length) := kid_mem ns m
              have HKG : Hid (∀ y ∈ (kid ns m).getD [], (m : Int) < y) := kid_gt ns m
              have HKL : Hid (((kid ns m).getD []).length ≤ ns.length) := kid_len ns m
              clear hN hx hyes hno
              go_wp2_with (first
                | (go_at_call 10; refine (at_any _ a2 c1 c2 ts ns (k : Int) _ (H1.out.below (HC.out _ HBR.out).2.2.2) (H2.out.below (HC.out _ HBR.out).2.2.2) hl1 hl2).mono ?_; rintro e w7 ⟨rfl, hb7⟩; rw [HN.out]; have HB7 : Hid (Below w2.heap.size w2 w7) := HBR.out.trans (hb7.mono HBR.out.size); obtain ⟨x1, x3, -, -⟩ := HC.out w7 HB7.out; clear hb7)
                | (go_at_call 11; refine (Kids_any _ c2 ns (m : Int) _ (H2.out.below (HC.out _ HB7.out).2.2.2) hl2 (by omega) (by omega)).mono ?_; rintro e w8 ⟨v8, rfl, o8, hb8⟩; have HB8 : Hid (Below w2.heap.size w2 w8) := HB7.out.trans (hb8.mono HB7.out.size); obtain ⟨a8, c8, rfl, q8, -, -⟩ := own_form o8; have HQ8 : Hid (LiesA w8 a8 ((kid ns m).getD [])) := q8; clear hb8 o8 q8))
              generalize hkl2 : (kid ns m).getD [] = kl at *
              have hklb : kl.length ≤ ns.length := HKL.out
              clear x1 x3 y1 y3 hkl2
              go_loopw [73] (fun i wr => ∃ j : Nat, j ≤ kl.length ∧ i = .int .i64 (j : Int) ∧ Below w8.heap.size w8 wr) (fun i _ => kl.length - (intOf i).toNat)
              case atStart => exact ⟨0, by omega, rfl, Below.refl _ _⟩
              case round =>
                obtain ⟨wp, rfl⟩ : ∃ wp, wp = wr := ⟨_, rfl⟩
                obtain ⟨j, hj, rfl, hbel⟩ := hrel
                have HBJ : Hid (Below w8.heap.size w8 wp) := hbel
                have HBJ2 : Hid (Below w2.heap.size w2 wp) := HB8.out.trans (hbel.mono HB8.out.size)
                clear hbel
                by_cases hjl : j < kl.length
                · obtain ⟨y, hy⟩ : ∃ y, kl[j]? = some y := ⟨_, List.getElem?_eq_getElem hjl⟩
                  obtain ⟨z, rfl, hzl⟩ := HKM.out y (List.mem_of_getElem? hy)
                  obtain ⟨xz, hxz⟩ : ∃ x, ns[z]? = some x := ⟨_, List.getElem?_eq_getElem hzl⟩
                  have HXZ : Hid (ns[z]? = some xz) := hxz
                  have HAZ : Hid (atB ts (k : Int) xz = false) := HNO.out z xz (by have := HKG.out z (List.mem_of_getElem? hy); omega) hzl hxz
                  rcases HQ8.out with h0 | ⟨b8, o8, rfl, hL8⟩
                  · rw [h0] at hjl; simp at hjl
                  have t0 := hL8.int HBJ.out hy
                  have hj1 : (j : Int) < (kl.length : Int) := by omega
                  clear hy hxz hL8
                  go_wp2_with (go_at_call 9; refine (HH.out z xz (k : Int) _ HXZ.out HBJ2.out).mono ?_; rintro e w9 ⟨rfl, hb9⟩; rw [HAZ.out]; have HB9 : Hid (Below w8.heap.size w8 w9) := HBJ.out.trans (hb9.mono HBJ.out.size); clear hb9)
                  go_roundw
                  case rel => exact ⟨j + 1, by omega, by simp, HB9.out⟩
                  case measure => simp [intOf]; omega
                · have hje : ¬ (j : Int) < (kl.length : Int) := by omega
                  go_wp2
                  go_loopw [10] (fun i wr => ∃ v : Int, i = .int .i64 v ∧ (v = -1 ∨ ∃ (q : Nat) (xq : Nd), v = q ∧ ns[q]? = some xq ∧ atB ts (k : Int) xq = true) ∧ Below w2.heap.size w2 wr) (fun i _ => (intOf i + 1).toNat)
                  case atStart => exact ⟨m, rfl, .inr ⟨m, x, rfl, HX.out, HYES.out⟩, HBJ2.out⟩
                  case round =>
                    obtain ⟨v, rfl, hv, hbel⟩ := hrel
                    have HBQ : Hid (Below w2.heap.size w2 wr) := hbel
                    obtain ⟨y1, y3, -, -⟩ := HC.out wr hbel
                    clear hbel
                    rcases hv with rfl | ⟨q, xq, rfl, hxq, haq⟩
                    · go_wp2
                      go_roundw
                      case rel => exact ⟨k + 1, by simp, by omega, HBQ.out⟩
                      case measure => simp [intOf]; omega
                    · have HXQ : Hid (ns[q]? = some xq) := hxq
                      have HAQ : Hid (atB ts (k : Int) xq = true) := haq
                      have hql : q < ns.length := (List.getElem?_eq_some_iff.1 hxq).1
                      have HUP : Hid (upN ns (q : Int) = upF ns q q) := by unfold Hid upN; rw [if_pos (by omega), Int.toNat_natCast]
                      have HSP : Hid (upF ns q q = -1 ∨ ∃ (m : Nat) (x : Nd), m < q ∧ upF ns q q = (m : Int) ∧ ns[m]? = some x ∧ (q : Int) ∈ kdl ns m) := upF_spec ns q q
                      have hq0 : (0 : Int) ≤ (q : Int) := by omega
                      clear hxq haq
                      go_wp2_with (first
                        | (go_at_call 9; refine (HH.out q xq (k : Int) _ HXQ.out HBQ.out).mono ?_; rintro e w9 ⟨rfl, hb9⟩; rw [HAQ.out]; have HB9 : Hid (Below w2.heap.size w2 w9) := HBQ.out.trans (hb9.mono HBQ.out.size); obtain ⟨u1, u3, -, -⟩ := HC.out w9 HB9.out; clear hb9)
                        | (go_at_call 12; refine (up_any _ c2 ns (q : Int) _ (H2.out.below (HC.out _ HB9.out).2.2.2) hl2 (by omega) (by omega)).mono ?_; rintro e w10 ⟨rfl, hb10⟩; rw [HUP.out]; have HB10 : Hid (Below w2.heap.size w2 w10) := HB9.out.trans (hb10.mono HB9.out.size); clear hb10))
                      go_roundw
                      case rel =>
                        refine ⟨upF ns q q, rfl, ?_, HB10.out⟩
                        rcases HSP.out with h | ⟨m', x', h1, h2, h3, h4⟩
                        · exact .inl h
                        · exact .inr ⟨m', x', h2, h3, atB_kid HFO.out HVL.out HXQ.out h3 h4 HAQ.out⟩
                      case measure =>
                        rcases HSP.out with h | ⟨m', x', h1, h2, h3, h4⟩
                        · rw [h]; simp [intOf]
                        · rw [h2]; simp [intOf]; omega
          · have hke : (k : Int) = pz.t := by omega
            go_wp2
            go_ret
            exact ⟨rfl, (HC.out _ HBR.out).2.2.2⟩
end Go.Proofs.Ytchcmonhdgndcaa
