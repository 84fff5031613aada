import Derived.Test.YteanhljabjoabaaAtP
import Derived.Test.YteanhljabjoabaaRf2
namespace Go.Proofs.Yteanhljabjoabaa
open Go.ChangeShapes Go.WideShapes Go.ChangeAt Go.RowKit
set_option linter.unusedVariables false

theorem retB {a b : Bool} (h : a = b) : Ending.returned (.bool a) = .returned (.bool b) := by rw [h]

set_option maxRecDepth 1000000 in
set_option maxHeartbeats 1000000 in
theorem at1_any (a1 a2 : Option Addr) (c1 c2 : Nat) (ts : List Tk) (ns : List Nd) (off : Int) (m : Nat) (x : Nd) (bt bl bo : Nat) (w : World) (hx : ns[m]? = some x) (h1 : LiesA w a1 ts) (h2 : LiesA w a2 ns) (hl1 : ts.length * 24 ≤ 140737488351232) (hl2 : ns.length * 32 ≤ 140737488351232)
    (y1 : w.cell? ⟨bt, 0, none⟩ = some (.slice a2 ns.length c2)) (y2 : w.cell? ⟨bl, 0, none⟩ = some (.slice a1 ts.length c1)) (y3 : w.cell? ⟨bo, 0, none⟩ = some (.int .i64 off)) (t1 : bt < w.heap.size) (t2 : bl < w.heap.size) (t3 : bo < w.heap.size) :
    Calls Try.prog 26 #[.int .i64 m, .pointer (some ⟨bt, 0, none⟩), .pointer (some ⟨bl, 0, none⟩), .pointer (some ⟨bo, 0, none⟩)] w fun e w' => e = .returned (.bool (atB ts off x)) ∧ Below w.heap.size w w' := by
  have hm : m < ns.length := (List.getElem?_eq_some_iff.1 hx).1
  have H1 : Hid (LiesA w a1 ts) := h1
  rcases h2 with h0 | ⟨b2, o2, rfl, hL2⟩
  · rw [h0] at hm; simp at hm
  obtain ⟨d0, d1, d2, d3⟩ := hL2.nd (Below.refl _ w) hx
  have hm0 : (0 : Int) ≤ (m : Int) := by omega
  have hm1 : (m : Int) < (ns.length : Int) := by omega
  have hb2r : b2 < w.heap.size := hL2.1
  obtain ⟨w6, e6, hb6, hs6, B6⟩ := bx1 w #[.int .u8 x.k, .int .i64 x.f, .int .i64 x.e, .int .i64 x.s] 32
  have HE6 : Hid (w.alloc (.cells #[.int .u8 x.k, .int .i64 x.f, .int .i64 x.e, .int .i64 x.s] 32) = w6) := e6
  have HV6 : Hid (Below w.heap.size w w6) := hb6
  have HB6 : Hid (Bx w6 w.heap.size #[.int .u8 x.k, .int .i64 x.f, .int .i64 x.e, .int .i64 x.s] 32) := B6
  have q1 : w6.cell? ⟨w.heap.size, 1, none⟩ = some (.int .i64 x.f) := B6.cell 1
  have q2 : w6.cell? ⟨w.heap.size, 2, none⟩ = some (.int .i64 x.e) := B6.cell 2
  have r2 : w6.cell? ⟨bl, 0, none⟩ = some (.slice a1 ts.length c1) := (hb6.cell (p := ⟨bl, 0, none⟩) t2).trans y2
  have r3 : w6.cell? ⟨bo, 0, none⟩ = some (.int .i64 off) := (hb6.cell (p := ⟨bo, 0, none⟩) t3).trans y3
  have HR2 : Hid (w6.cell? ⟨bl, 0, none⟩ = some (.slice a1 ts.length c1)) := r2
  have HR3 : Hid (w6.cell? ⟨bo, 0, none⟩ = some (.int .i64 off)) := r3
  have HX : Hid (ns[m]? = some x) := hx
  have HS6 : Hid (w6.heap.size = w.heap.size + 1) := hs6
  clear hx hL2 e6 hb6 hs6 B6 y2 y3 h1
  by_cases g1 : 0 ≤ x.f
  · by_cases g2 : x.f < x.e
    · by_cases g3 : x.e ≤ (ts.length : Int)
      · obtain ⟨a, ha⟩ : ∃ a : Nat, x.f = a := ⟨x.f.toNat, by omega⟩
        obtain ⟨b, hb⟩ : ∃ b : Nat, x.e = (b : Int) + 1 := ⟨(x.e - 1).toNat, by omega⟩
        obtain ⟨p, hp⟩ : ∃ e, ts[a]? = some e := ⟨_, List.getElem?_eq_getElem (by omega)⟩
        obtain ⟨q, hq⟩ : ∃ e, ts[b]? = some e := ⟨_, List.getElem?_eq_getElem (by omega)⟩
        have HAT : Hid (atB ts off x = (decide (p.f ≤ off) && decide (off < q.t))) := atB_in ha hb (by omega) (by omega) hp hq
        rcases H1.out with h0 | ⟨b1, o1, rfl, hL1⟩
        · rw [h0] at hp; simp at hp
        have HL1 : Hid (Lies w b1 o1 ts) := hL1
        have HP : Hid (ts[a]? = some p) := hp
        have HQ : Hid (ts[b]? = some q) := hq
        rw [ha] at q1
        rw [hb] at q2
        have k1 : (a : Int) < (b : Int) + 1 := by omega
        have k2 : (b : Int) + 1 ≤ (ts.length : Int) := by omega
        have k3 : (a : Int) < (ts.length : Int) := by omega
        have k4 : (b : Int) < (ts.length : Int) := by omega
        have HXF : Hid (x.f = (a : Int)) := ha
        have HXE : Hid (x.e = (b : Int) + 1) := hb
        clear hp hq hL1 ha hb g1 g2 g3
        go_enter Try.func26, Try.ntmps26
        go_upto_region 2 with fail
        rw [HE6.out]
        clear d0 d1 d2 d3 y1
        go_upto_region 4 with fail
        obtain ⟨X, F, hX, hF, onto⟩ := class_of (fun v => Below w6.heap.size w6 v) (Below.refl _ w6)
        have HF : Hid (∀ y, Below w6.heap.size w6 (F y)) := hF
        have HO : Hid (∀ v, Below w6.heap.size w6 v → ∃ x, v = F x) := fun v h => by obtain ⟨x, hx⟩ := onto v h; exact ⟨x, hx.symm⟩
        have f1 : ∀ y, (F y).cell? ⟨w.heap.size, 1, none⟩ = some (.int .i64 (a : Int)) := fun y => ((hF y).cell (p := ⟨w.heap.size, 1, none⟩) (by have := HS6.out; simp; omega)).trans q1
        have f2 : ∀ y, (F y).cell? ⟨w.heap.size, 2, none⟩ = some (.int .i64 ((b : Int) + 1)) := fun y => ((hF y).cell (p := ⟨w.heap.size, 2, none⟩) (by have := HS6.out; simp; omega)).trans q2
        have f3 : ∀ y, (F y).cell? ⟨bl, 0, none⟩ = some (.slice (some ⟨b1, o1, none⟩) ts.length c1) := fun y => ((hF y).cell (p := ⟨bl, 0, none⟩) (by have := HS6.out; simp; omega)).trans r2
        have f4 : ∀ y, (F y).cell? ⟨bo, 0, none⟩ = some (.int .i64 off) := fun y => ((hF y).cell (p := ⟨bo, 0, none⟩) (by have := HS6.out; simp; omega)).trans r3
        have hV : ∀ y, Below w.heap.size w (F y) := fun y => HV6.out.trans ((hF y).mono HV6.out.size)
        have f5 := fun y => (HL1.out.tk (hV y) HP.out).2.1
        have f6 := fun y => (HL1.out.tk (hV y) HQ.out).2.2
        have HV : Hid (∀ y, Below w.heap.size w (F y)) := hV
        clear hF onto q1 q2 r2 r3 hV
        by_cases g4 : p.f ≤ off
        · have HG4 : Hid (p.f ≤ off) := g4
          refine region_class F (by kernel_rfl) (by kernel_rfl) (by obtain ⟨x, hx⟩ := HO.out _ (Below.refl _ _).drew; exact ⟨x, hx.symm⟩) ?_
          repeat (go_big_quiet_step (fail))
          refine wpQuiet_nil ?_
          rintro _ ⟨nq, rfl⟩
          go_wp2
          go_ret
          exact ⟨retB (by rw [HAT.out]; simp [HG4.out]), HV.out nq⟩
        · have HG4 : Hid (¬ p.f ≤ off) := g4
          refine region_class F (by kernel_rfl) (by kernel_rfl) (by obtain ⟨x, hx⟩ := HO.out _ (Below.refl _ _).drew; exact ⟨x, hx.symm⟩) ?_
          repeat (go_big_quiet_step (fail))
          refine wpQuiet_nil ?_
          rintro _ ⟨nq, rfl⟩
          go_wp2
          go_ret
          exact ⟨retB (by rw [HAT.out]; rw [decide_eq_false (by have := HG4.out; omega)]; rfl), HV.out nq⟩
      · have HNO : Hid (atB ts off x = false) := atB_out (by omega)
        go_enter Try.func26, Try.ntmps26
        go_upto_region 2 with fail
        rw [HE6.out]
        clear d0 d1 d2 d3 y1
        go_wp2
        go_ret
        exact ⟨retB HNO.out.symm, HV6.out⟩
    · have HNO : Hid (atB ts off x = false) := atB_out (by omega)
      go_enter Try.func26, Try.ntmps26
      go_upto_region 2 with fail
      rw [HE6.out]
      clear d0 d1 d2 d3 y1
      go_wp2
      go_ret
      exact ⟨retB HNO.out.symm, HV6.out⟩
  · have HNO : Hid (atB ts off x = false) := atB_out (by omega)
    go_enter Try.func26, Try.ntmps26
    go_upto_region 2 with fail
    rw [HE6.out]
    clear d0 d1 d2 d3 y1
    go_wp2
    go_ret
    exact ⟨retB HNO.out.symm, HV6.out⟩
end Go.Proofs.Yteanhljabjoabaa
