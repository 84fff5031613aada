import Derived.Test.YtchcmonhdgndcaaBy
namespace Go.Proofs.Ytchcmonhdgndcaa
open Go.ChangeShapes Go.WideShapes Go.ChangeAt Go.RowKit
set_option linter.unusedVariables false

theorem fol_step {L at_ : Int} {p : Tk} {ps : List Tk} (h1 : p.f = at_) (h2 : p.f ≤ p.t) (h3 : p.t ≤ L) : fol L at_ (p :: ps) = fol L p.t ps := by
  rw [fol, decide_eq_true h1, decide_eq_true h2, decide_eq_true h3]; rfl
theorem fol_bad {L at_ : Int} {p : Tk} {ps : List Tk} (h : ¬ (p.f = at_ ∧ p.f ≤ p.t ∧ p.t ≤ L)) : fol L at_ (p :: ps) = false := by
  rw [Bool.eq_false_iff]; intro hh
  obtain ⟨a, b, c, -⟩ := fol_cons hh
  exact h ⟨a, b, c⟩
theorem endT_le {L : Int} : ∀ (ps : List Tk) (at_ : Int), fol L at_ ps = true → at_ ≤ L → endT at_ ps ≤ L := by
  intro ps
  induction ps with
  | nil => intro at_ _ h; exact h
  | cons q qs ih =>
    intro at_ h _
    obtain ⟨-, -, h3, h4⟩ := fol_cons h
    exact ih q.t h4 h3

set_option maxRecDepth 1000000 in
set_option maxHeartbeats 1000000 in
theorem following_any (s : ByteArray) (a : Option Addr) (cap : Nat) (ts : List Tk) (w : World) (h : LiesA w a ts) (hl : ts.length * 24 ≤ 140737488351232) (hs : s.size ≤ 140737488351232) :
    Calls Try.prog 7 #[.string s, .slice a ts.length cap] w fun e w' => e = .returned (.bool (fol s.size 0 ts)) ∧ Below w.heap.size w w' := by
  have H : Hid (LiesA w a ts) := h
  clear h
  go_enter Try.func7, Try.ntmps7
  go_wp2
  go_loopw [5, 10] (fun v i wr => ∃ (k : Nat) (q : Int), k ≤ ts.length ∧ i = .int .i64 (k : Int) ∧ v = .int .i64 q ∧ Below w.heap.size w wr ∧ fol s.size 0 ts = fol s.size q (ts.drop k)) (fun _ i _ => ts.length - (intOf i).toNat)
  case atStart => exact ⟨0, 0, by omega, rfl, rfl, Below.refl _ _, by simp⟩
  case round =>
    obtain ⟨k, q, hk, rfl, rfl, hbel, heq⟩ := hrel
    have HB : Hid (Below w.heap.size w wr) := hbel
    have HEQ : Hid (fol s.size 0 ts = fol s.size q (ts.drop k)) := heq
    clear hbel heq
    by_cases hkl : k < ts.length
    · obtain ⟨p, hp⟩ : ∃ p, ts[k]? = some p := ⟨_, List.getElem?_eq_getElem hkl⟩
      have HDR : Hid (ts.drop k = p :: ts.drop (k + 1)) := by
        unfold Hid; rw [List.drop_eq_getElem_cons hkl, (List.getElem?_eq_some_iff.1 hp).2]
      rcases H.out with h0 | ⟨b, o, rfl, hL⟩
      · rw [h0] at hkl; simp at hkl
      obtain ⟨d0, d1, d2⟩ := hL.tk HB.out hp
      have hk1 : (k : Int) < (ts.length : Int) := by omega
      have hbr : b < wr.heap.size := by have := hL.1; have := HB.out.size; omega
      obtain ⟨w6, e6, hb6, hs6, B6⟩ := bx1 wr #[.int .u8 p.k, .int .i64 p.f, .int .i64 p.t] 35
      have HE6 : Hid (wr.alloc (.cells #[.int .u8 p.k, .int .i64 p.f, .int .i64 p.t] 35) = w6) := e6
      have HV6 : Hid (Below w.heap.size w w6) := HB.out.trans (hb6.mono HB.out.size)
      have q1 : w6.cell? ⟨wr.heap.size, 1, none⟩ = some (.int .i64 p.f) := B6.cell 1
      have q2 : w6.cell? ⟨wr.heap.size, 2, none⟩ = some (.int .i64 p.t) := B6.cell 2
      clear hp hL e6 hb6 hs6 B6
      by_cases g1 : p.f = q
      · have g1' : (p.f != q) = false := by simp [g1]
        by_cases g2 : p.f ≤ p.t
        · by_cases g3 : p.t ≤ (s.size : Int)
          · have HA : Hid (fol s.size q (ts.drop k) = fol s.size p.t (ts.drop (k + 1))) := by unfold Hid; rw [HDR.out, fol_step g1 g2 g3]
            clear g1
            go_upto_region 5 with fail
            rw [HE6.out]
            clear d0 d1 d2
            go_wp2
            go_roundw
            case rel => exact ⟨k + 1, p.t, by omega, by simp, rfl, HV6.out, by rw [HEQ.out, HA.out]⟩
            case measure => simp [intOf]; omega
          · have HA : Hid (fol s.size q (ts.drop k) = false) := by unfold Hid; rw [HDR.out]; exact fol_bad (by omega)
            clear g1
            go_upto_region 5 with fail
            rw [HE6.out]
            clear d0 d1 d2
            go_wp2
            go_ret
            exact ⟨retV (by rw [HEQ.out, HA.out]), HV6.out⟩
        · have HA : Hid (fol s.size q (ts.drop k) = false) := by unfold Hid; rw [HDR.out]; exact fol_bad (by omega)
          clear g1
          go_upto_region 5 with fail
          rw [HE6.out]
          clear d0 d1 d2
          go_wp2
          go_ret
          exact ⟨retV (by rw [HEQ.out, HA.out]), HV6.out⟩
      · have g1' : (p.f != q) = true := by simp [g1]
        have HA : Hid (fol s.size q (ts.drop k) = false) := by unfold Hid; rw [HDR.out]; exact fol_bad (fun h => g1 h.1)
        clear g1
        go_upto_region 5 with fail
        rw [HE6.out]
        clear d0 d1 d2
        go_wp2
        go_ret
        exact ⟨retV (by rw [HEQ.out, HA.out]), HV6.out⟩
    · have hke : k = ts.length := by omega
      have HA : Hid (fol s.size q (ts.drop k) = true) := by unfold Hid; rw [hke, List.drop_length]; rfl
      go_wp2
      go_ret
      exact ⟨retV (by rw [HEQ.out, HA.out]), HB.out⟩

set_option maxRecDepth 1000000 in
set_option maxHeartbeats 1000000 in
theorem holds_any (a1 a2 : Option Addr) (c1 c2 : Nat) (ts : List Tk) (ns : List Nd) (off : Int) (m : Nat) (x : Nd) (bt bf : Nat) (w : World) (hx : ns[m]? = some x) (h1 : LiesA w a1 ts) (h2 : LiesA w a2 ns) (hl1 : ts.length * 24 ≤ 140737488351232) (hl2 : ns.length * 32 ≤ 140737488351232)
    (y1 : w.cell? ⟨bt, 0, none⟩ = some (.slice a2 ns.length c2)) (y2 : w.cell? ⟨bf, 1, none⟩ = some (.slice a1 ts.length c1)) (t1 : bt < w.heap.size) (t2 : bf < w.heap.size) (v1 : 0 ≤ x.f) (v2 : x.e ≤ (ts.length : Int)) :
    Calls Try.prog 9 #[.int .i64 (m : Int), .int .i64 off, .pointer (some ⟨bt, 0, none⟩), .pointer (some ⟨bf, 0, none⟩)] w fun e w' => e = .returned (.bool (atB ts off x)) ∧ Below w.heap.size w w' := by
  have hm : m < ns.length := (List.getElem?_eq_some_iff.1 hx).1
  have H1 : Hid (LiesA w a1 ts) := h1
  rcases h2 with h0 | ⟨b2, o2, rfl, hL2⟩
  · rw [h0] at hm; simp at hm
  obtain ⟨d0, d1, d2, d3⟩ := hL2.nd (Below.refl _ w) hx
  have hm0 : (0 : Int) ≤ (m : Int) := by omega
  have hm1 : (m : Int) < (ns.length : Int) := by omega
  have hb2r : b2 < w.heap.size := hL2.1
  obtain ⟨w6, e6, hb6, hs6, B6⟩ := bx1 w #[.int .u8 x.k, .int .i64 x.f, .int .i64 x.e, .int .i64 x.s] 32
  have HE6 : Hid (w.alloc (.cells #[.int .u8 x.k, .int .i64 x.f, .int .i64 x.e, .int .i64 x.s] 32) = w6) := e6
  have HV6 : Hid (Below w.heap.size w w6) := hb6
  have q1 : w6.cell? ⟨w.heap.size, 1, none⟩ = some (.int .i64 x.f) := B6.cell 1
  have q2 : w6.cell? ⟨w.heap.size, 2, none⟩ = some (.int .i64 x.e) := B6.cell 2
  have r2 : w6.cell? ⟨bf, 1, none⟩ = some (.slice a1 ts.length c1) := (hb6.cell (p := ⟨bf, 1, none⟩) t2).trans y2
  clear hx hL2 e6 hb6 hs6 B6 y2 h1
  by_cases g2 : x.f < x.e
  · obtain ⟨a, ha⟩ : ∃ a : Nat, x.f = a := ⟨x.f.toNat, by omega⟩
    obtain ⟨b, hb⟩ : ∃ b : Nat, x.e = (b : Int) + 1 := ⟨(x.e - 1).toNat, by omega⟩
    obtain ⟨p, hp⟩ : ∃ e, ts[a]? = some e := ⟨_, List.getElem?_eq_getElem (by omega)⟩
    obtain ⟨q, hq⟩ : ∃ e, ts[b]? = some e := ⟨_, List.getElem?_eq_getElem (by omega)⟩
    have HAT : Hid (atB ts off x = (decide (p.f ≤ off) && decide (off < q.t))) := atB_in ha hb (by omega) (by omega) hp hq
    rcases H1.out with h0 | ⟨b1, o1, rfl, hL1⟩
    · rw [h0] at hp; simp at hp
    have r5 := (hL1.tk HV6.out hp).2.1
    have r6 := (hL1.tk HV6.out hq).2.2
    rw [ha] at q1
    rw [hb] at q2
    have k1 : (a : Int) < (b : Int) + 1 := by omega
    have k3 : (a : Int) < (ts.length : Int) := by omega
    have k4 : (b : Int) < (ts.length : Int) := by omega
    clear hp hq hL1 ha hb g2 v1 v2
    by_cases g4 : p.f ≤ off
    · have HG4 : Hid (p.f ≤ off) := g4
      go_enter Try.func9, Try.ntmps9
      go_upto_region 2 with fail
      rw [HE6.out]
      clear d0 d1 d2 d3 y1
      go_wp2
      go_ret
      exact ⟨retV (by rw [HAT.out, decide_eq_true HG4.out]; simp), HV6.out⟩
    · have HG4 : Hid (decide (p.f ≤ off) = false) := decide_eq_false g4
      go_enter Try.func9, Try.ntmps9
      go_upto_region 2 with fail
      rw [HE6.out]
      clear d0 d1 d2 d3 y1
      go_wp2
      go_ret
      exact ⟨retV (by rw [HAT.out, HG4.out]; simp), HV6.out⟩
  · have HNO : Hid (atB ts off x = false) := atB_out (by omega)
    go_enter Try.func9, Try.ntmps9
    go_upto_region 2 with fail
    rw [HE6.out]
    clear d0 d1 d2 d3 y1
    go_wp2
    go_ret
    exact ⟨retV HNO.out.symm, HV6.out⟩
end Go.Proofs.Ytchcmonhdgndcaa
