import Derived.Test.YtdalnofiiomgoaaLaterR
namespace Go.Proofs.Ytdalnofiiomgoaa
open Go.ChangeShapes Go.WideShapes Go.ChangeAt Go.RowKit
attribute [local go_sem] Oper.semAt_some
set_option linter.unusedVariables false

theorem own_free {w : World} {base e k n g cap : Nat} {cs : List Value} (h : w.ownsRow base e k (.slice (some ⟨g, 0, none⟩) n cap) n cs) (i : Nat) : w.frozen? ⟨g, i, none⟩ = false := by
  rcases h.2 with ⟨h1, h2⟩ | ⟨g', cap', cur, hv, hg, hh, r⟩
  · cases h1
  · cases hv; simp [World.frozen?, hh]
theorem frozen_block {w v : World} {g : Nat} (h : v.heap[g]? = w.heap[g]?) (i : Nat) : v.frozen? ⟨g, i, none⟩ = w.frozen? ⟨g, i, none⟩ := by simp only [World.frozen?, h]
/-- lent, and that nobody has frozen the row of nodes -/
theorem lent_free (s : ByteArray) (a1 a2 : Option Addr) (c1 c2 : Nat) (ts : List Tk) (ns : List Nd) (w v : World) (fb : Nat) (hv : Below w.heap.size w v) (hf : Bx v fb #[.string s, .slice a1 ts.length c1, .slice a2 ns.length c2] 27)
    (h1 : LiesA v a1 ts) (h2 : LiesA v a2 ns) (hn1 : a1 = none → ts.length = 0 ∧ c1 = 0) (hn2 : a2 = none → ns.length = 0 ∧ c2 = 0)
    (hl1 : ts.length * 24 ≤ 140737488351232) (hl2 : ns.length * 32 ≤ 140737488351232) :
    Calls Try.prog 13 #[.agg #[.string s, .slice a1 ts.length c1, .slice a2 ns.length c2]] v fun e w' => ∃ g1 g2, e = .returned (.agg #[.string s, .slice (some ⟨g1, 0, none⟩) ts.length (ts.length + 2), .slice (some ⟨g2, 0, none⟩) ns.length (ns.length + 2)]) ∧
      v.heap.size ≤ g1 ∧ v.heap.size ≤ g2 ∧ g2 < w'.heap.size ∧ (∀ i, w'.frozen? ⟨g2, i, none⟩ = false) ∧ Below v.heap.size v w' ∧
      ∃ w'', w'.alloc (.cells #[.string s, .slice (some ⟨g1, 0, none⟩) ts.length (ts.length + 2), .slice (some ⟨g2, 0, none⟩) ns.length (ns.length + 2)] 27) = w'' ∧ w''.heap.size = w'.heap.size + 1 ∧ Below w'.heap.size w' w'' ∧ Lt w w'' s a1 c1 ts a2 c2 ns g1 g2 fb w'.heap.size := by
  refine (lent_any s a1 a2 c1 c2 ts ns v h1 h2 hn1 hn2 hl1 hl2).mono ?_
  rintro e w1 ⟨g1, g2, rfl, hb1, hg1, hg2, hne, o1, o2⟩
  obtain ⟨w2, e2, hb2, hs2, B2⟩ := bx1 w1 #[.string s, .slice (some ⟨g1, 0, none⟩) ts.length (ts.length + 2), .slice (some ⟨g2, 0, none⟩) ns.length (ns.length + 2)] 27
  have hb : Below v.heap.size v w2 := hb1.trans (hb2.mono hb1.size)
  have L1 : Lies w1 g1 0 (ts ++ tmarks) := Lies.own o1
  have L2 : Lies w1 g2 0 (ns ++ nmarks) := Lies.own o2
  exact ⟨g1, g2, rfl, hg1, hg2, L2.1, own_free o2, hb1, w2, e2, hs2, hb2, hv.trans (hb.mono hv.size), hf.below hb hf.lt, B2, h1.below hb, h2.below hb, L1.below hb2 L1.1, L2.below hb2 L2.1⟩
theorem lt_al {a : Nat} {w : World} (o : Obj) (h : a < w.heap.size) : a < (w.alloc o).heap.size := by simp; omega
theorem chosen_bx (u : Int) (w : World) : Calls Try.prog 10 #[.int .u64 u] w fun e w' => e = .returned (.func (.func 22) #[] #[.pointer (some ⟨w.heap.size, 0, none⟩)]) ∧ Below w.heap.size w w' ∧ w'.heap.size = w.heap.size + 1 ∧ Bx w' w.heap.size #[.int .u64 u] 28 := by
  refine (chosen_any u w).mono ?_
  rintro e w' ⟨rfl, rfl⟩
  obtain ⟨w2, e2, h1, h2, h3⟩ := bx1 w #[.int .u64 u] 28
  rw [e2]
  exact ⟨rfl, h1, h2, h3⟩
theorem walk_bx (a : Option Addr) (l c : Nat) (n : Int) (g : Fn) (cc ll : Array Value) (w : World) : Calls Try.prog 11 #[.agg #[.slice a l c], .int .i64 n, .func g cc ll] w fun e w' =>
    e = .returned (.func (.func 23) #[] #[.pointer (some ⟨w.heap.size, 0, none⟩), .pointer (some ⟨w.heap.size + 1, 0, none⟩), .pointer (some ⟨w.heap.size + 2, 0, none⟩)]) ∧ Below w.heap.size w w' ∧ w'.heap.size = w.heap.size + 3 ∧ Bx w' w.heap.size #[.slice a l c] 25 ∧ Bx w' (w.heap.size + 1) #[.int .i64 n] 3 ∧ Bx w' (w.heap.size + 2) #[.func g cc ll] 30 := by
  refine (walk_any _ n _ ⟨a, l, c, rfl⟩ (.inr ⟨g, cc, ll, rfl⟩) w).mono ?_
  rintro e w' ⟨rfl, aa, l2, c2, hvv, rfl⟩
  cases hvv
  obtain ⟨w3, e3, h1, h2, h3, h4, h5⟩ := bx3 w #[.slice a l c] #[.int .i64 n] #[.func g cc ll] 25 3 30
  rw [e3]
  exact ⟨rfl, h1, h2, h3, h4, h5⟩

set_option maxRecDepth 1000000 in
set_option maxHeartbeats 4000000 in
theorem treeLater_walk (s : ByteArray) (a1 a2 : Option Addr) (c1 c2 : Nat) (ts : List Tk) (ns : List Nd) (n u : Int) (w : World) (h1 : LiesA w a1 ts) (h2 : LiesA w a2 ns) (hn1 : a1 = none → ts.length = 0 ∧ c1 = 0) (hn2 : a2 = none → ns.length = 0 ∧ c2 = 0)
    (hl1 : ts.length * 24 ≤ 140737488351232) (hl2 : ns.length * 32 ≤ 140737488351232) (hs : s.size ≤ 140737488351232) (hf1 : ∀ e ∈ ts, TkFit e) (hf2 : ∀ e ∈ ns, NdFit e) (bn0 : -9223372036854775808 ≤ n) (bn1 : n ≤ 9223372036854775807) (bu0 : 0 ≤ u) (bu1 : u ≤ 18446744073709551615) :
    Calls Try.prog 4 #[.agg #[.string s, .slice a1 ts.length c1, .slice a2 ns.length c2], .int .i64 n, .int .u64 u] w fun e w' => e = .returned (.bool true) ∧ Below w.heap.size w w' := by
  have H1 : Hid (LiesA w a1 ts) := h1
  have H2 : Hid (LiesA w a2 ns) := h2
  have HN1 : Hid (a1 = none → ts.length = 0 ∧ c1 = 0) := hn1
  have HN2 : Hid (a2 = none → ns.length = 0 ∧ c2 = 0) := hn2
  clear h1 h2 hn1 hn2 hf1 hf2
  refine callsIn_wide.1 (callsIn_of_wp_marks (n := 9) Try.func4 rfl trivial (wpIn_wide.2 ?_) rfl)
  simp only [Try.ntmps4, List.size_toArray, List.length_cons, List.length_nil, Nat.reduceAdd, Nat.reduceSub, Array.replicate_succ, Array.replicate_zero, List.push_toArray, List.append_toArray, List.nil_append, List.cons_append]
  go_wp2_with fail
  obtain ⟨w0, e0, hw0, hs0, B0, B1⟩ := bx2 w #[.string s, .slice a1 ts.length c1, .slice a2 ns.length c2] #[.bool false] 27 4
  rw [e0]
  have HB1 : Hid (Bx w0 (w.heap.size + 1) #[.bool false] 4) := B1
  have HS0 : Hid (w0.heap.size = w.heap.size + 2) := hs0
  refine (lent_free s a1 a2 c1 c2 ts ns w w0 w.heap.size hw0 B0 (H1.out.below hw0) (H2.out.below hw0) HN1.out HN2.out hl1 hl2).mono ?_
  rintro e w1 ⟨g1, g2, rfl, hg1, hg2, hgl, hgz, hb1, w4, e2, hs4, hb4, hlt⟩
  have HB01 : Hid (Below w0.heap.size w0 w1) := hb1
  have HG2 : Hid (w0.heap.size ≤ g2) := hg2
  have HL4 : Hid (Lt w w4 s a1 c1 ts a2 c2 ns g1 g2 w.heap.size w1.heap.size) := hlt
  have HE2 : Hid (w1.alloc (.cells #[.string s, .slice (some ⟨g1, 0, none⟩) ts.length (ts.length + 2), .slice (some ⟨g2, 0, none⟩) ns.length (ns.length + 2)] 27) = w4) := e2
  have F1 : Hid (∀ v, Below w4.heap.size w4 v → Below w.heap.size w v ∧ Boxed v (w.heap.size + 1) 4 (.bool false) ∧ v.cell? ⟨w1.heap.size, 2, none⟩ = some (.slice (some ⟨g2, 0, none⟩) ns.length (ns.length + 2)) ∧ Lies v g2 0 ns ∧ ∀ i, v.frozen? ⟨g2, i, none⟩ = false) := by
    intro v hv
    have hlv := hlt.below hv
    have h1z := hb1.size
    refine ⟨hlv.bel, ?_, hlv.bc.cell 2, hlv.m2.pre, fun i => ?_⟩
    · exact (hv.block _ (by omega)).trans ((hb4.block _ (by omega)).trans ((hb1.block _ (by omega)).trans B1))
    · exact (frozen_block ((hv.block _ (by omega)).trans (hb4.block _ hgl)) i).trans (hgz i)
  have HS4 : Hid (w4.heap.size = w1.heap.size + 1) := hs4
  have HGL : Hid (g2 < w1.heap.size) := hgl
  clear hw0 B0 e0 hs0 hb1 hg1 hg2 e2 hlt B1 hgl hgz hs4 hb4
  go_upto_region 2 with fail
  rw [HE2.out]
  have hbu : u < 18446744073709551616 := by omega
  obtain ⟨-, -, -, y2⟩ := HL4.out.cells
  have hcl : w1.heap.size < w4.heap.size := HL4.out.bc.lt
  have new1 := World.new_ne w4 ⟨w1.heap.size, 2, none⟩ y2
  go_region_held3 (fun v => v.cell? ⟨w1.heap.size, 2, none⟩ = some (.slice (some ⟨g2, 0, none⟩) ns.length (ns.length + 2)))
    (first | go_keep | assumption | exact (World.cell?_setCell_other _ _ _ _ (by intro e; simp only [Addr.mk.injEq] at e; omega)).trans (by assumption))
    ((first
      | (go_at_call 10; refine (chosen_bx u _).mono ?_; rintro e we ⟨rfl, hbe, hse, Be⟩; have HSE : Hid (_ = _) := hse; have HBE : Hid (Bx we _ #[.int .u64 u] 28) := Be; clear hse Be; have hwl : w1.heap.size < we.heap.size := Nat.lt_of_lt_of_le (by first | exact hcl | exact lt_al _ hcl) hbe.size; have y5 : we.cell? ⟨w1.heap.size, 2, none⟩ = some (.slice (some ⟨g2, 0, none⟩) ns.length (ns.length + 2)) := (hbe.cell (p := ⟨w1.heap.size, 2, none⟩) (by first | exact hcl | exact lt_al _ hcl)).trans (by assumption); (first | (have k8 : Bx we w4.heap.size #[.nilFunc] 33 := (Bx.new w4.drew _ _).below hbe (by simp); have k8c := k8.one; have k8f := k8.free 0) | skip))
      | (go_at_call 11; refine (walk_bx _ _ _ _ _ _ _ _).mono ?_; rintro e wf ⟨rfl, hbf, hsf, Bf1, Bf2, Bf3⟩; have HSF : Hid (_ = _) := hsf; have HBF : Hid (Bx wf _ _ _ ∧ Bx wf _ _ _ ∧ Bx wf _ _ _) := ⟨Bf1, Bf2, Bf3⟩; clear hsf Bf1 Bf2 Bf3; have y6 : wf.cell? ⟨w1.heap.size, 2, none⟩ = some (.slice (some ⟨g2, 0, none⟩) ns.length (ns.length + 2)) := (hbf.cell (p := ⟨w1.heap.size, 2, none⟩) (by first | exact hwl | exact lt_al _ hwl)).trans (by assumption); (first | (have j8 : Bx wf w4.heap.size #[.nilFunc] 33 := k8.below hbf k8.lt; have j8c := j8.one; have j8f := j8.free 0) | (have j8 : Bx wf we.heap.size #[.nilFunc] 33 := (Bx.new we _ _).below hbf (by simp); have j8c := j8.one; have j8f := j8.free 0) | skip))))
  · rename_i QQ KK hKK hHH
    have s1 := HSE.out
    have s2 := HSF.out
    have s3 := HS4.out
    have s4 := HGL.out
    have s5 := HG2.out
    have s6 := HS0.out
    obtain ⟨z1, z2, z3⟩ := HBF.out
    have z4 := HBE.out
    have hw4 : w4.drew.heap.size = w4.heap.size := rfl
    try simp only [World.size_alloc] at s1 z4
    try simp only [World.size_alloc] at s2 z1 z2 z3
    have b1 : Below w4.heap.size w4 we := (Below.refl _ w4).drew.trans hbe
    have b2 : Below w4.heap.size w4 wf := b1.trans (hbf.mono (by omega))
    have hbv := b2.alloc (by omega) (.cells #[(.func (.func 23) #[] #[.pointer (some ⟨we.heap.size, 0, none⟩), .pointer (some ⟨we.heap.size + 1, 0, none⟩), .pointer (some ⟨we.heap.size + 2, 0, none⟩)])] 33)
    obtain ⟨f1, f2, f3, f4, f5⟩ := F1.out _ hbv
    have s7 : (wf.alloc (.cells #[(.func (.func 23) #[] #[.pointer (some ⟨we.heap.size, 0, none⟩), .pointer (some ⟨we.heap.size + 1, 0, none⟩), .pointer (some ⟨we.heap.size + 2, 0, none⟩)])] 33)).heap.size = wf.heap.size + 1 := by simp
    refine hKK _ _ ?_
    exact later_rest s a1 a2 c1 c2 g1 g2 w1.heap.size wf.heap.size we.heap.size w4.heap.size ts ns n u w _ hl2 bn0 bn1 bu0 hbu f1 f2 (by omega) (by omega) (by omega) (by omega) (by omega) (by omega) (by omega) (by omega) f3 f4 f5 (Bx.new wf _ _) (z1.alloc _) (z2.alloc _) (z3.alloc _) ((z4.below hbf (by omega)).alloc _)
  · rename_i QQ KK hKK hHH
    have s1 := HSE.out
    have s2 := HSF.out
    have s3 := HS4.out
    have s4 := HGL.out
    have s5 := HG2.out
    have s6 := HS0.out
    obtain ⟨z1, z2, z3⟩ := HBF.out
    have z4 := HBE.out
    have hw4 : w4.drew.heap.size = w4.heap.size := rfl
    try simp only [World.size_alloc] at s1 z4
    try simp only [World.size_alloc] at s2 z1 z2 z3
    have b1 : Below w4.heap.size w4 we := (Below.refl _ w4).drew.trans hbe
    have b2 : Below w4.heap.size w4 wf := (b1.alloc (by omega) _).trans (hbf.mono (by simp; omega))
    have hbv := b2.setCell (p := ⟨we.heap.size, 0, none⟩) (by show w4.heap.size ≤ we.heap.size; omega) (.func (.func 23) #[] #[.pointer (some ⟨(we.heap.size + 1), 0, none⟩), .pointer (some ⟨(we.heap.size + 1) + 1, 0, none⟩), .pointer (some ⟨(we.heap.size + 1) + 2, 0, none⟩)])
    obtain ⟨f1, f2, f3, f4, f5⟩ := F1.out _ hbv
    have s7 : (wf.setCell ⟨we.heap.size, 0, none⟩ (.func (.func 23) #[] #[.pointer (some ⟨(we.heap.size + 1), 0, none⟩), .pointer (some ⟨(we.heap.size + 1) + 1, 0, none⟩), .pointer (some ⟨(we.heap.size + 1) + 2, 0, none⟩)])).heap.size = wf.heap.size := by simp
    refine hKK _ _ ?_
    exact later_rest s a1 a2 c1 c2 g1 g2 w1.heap.size we.heap.size (we.heap.size + 1) w4.heap.size ts ns n u w _ hl2 bn0 bn1 bu0 hbu f1 f2 (by omega) (by omega) (by omega) (by omega) (by omega) (by omega) (by omega) (by omega) f3 f4 f5 (j8.set 0 _) (z1.other _ (by show we.heap.size + 1 ≠ we.heap.size; omega) _) (z2.other _ (by show we.heap.size + 1 + 1 ≠ we.heap.size; omega) _) (z3.other _ (by show we.heap.size + 1 + 2 ≠ we.heap.size; omega) _) (((z4.alloc _).below hbf (by simp; omega)).other _ (by show w4.heap.size ≠ we.heap.size; omega) _)
  · rename_i QQ KK hKK hHH
    have s1 := HSE.out
    have s2 := HSF.out
    have s3 := HS4.out
    have s4 := HGL.out
    have s5 := HG2.out
    have s6 := HS0.out
    obtain ⟨z1, z2, z3⟩ := HBF.out
    have z4 := HBE.out
    have hw4 : w4.drew.heap.size = w4.heap.size := rfl
    try simp only [World.size_alloc] at s1 z4
    try simp only [World.size_alloc] at s2 z1 z2 z3
    have hw5 : (w4.alloc (.cells #[.nilFunc] 33)).drew.heap.size = w4.heap.size + 1 := by show (w4.alloc (.cells #[.nilFunc] 33)).heap.size = _; simp
    rw [hw5] at s1 z4
    have b1 : Below w4.heap.size w4 we := ((Below.refl _ w4).alloc (Nat.le_refl _) _).drew.trans (hbe.mono (by omega))
    have b2 : Below w4.heap.size w4 wf := b1.trans (hbf.mono (by omega))
    have hbv := b2.setCell (p := ⟨w4.heap.size, 0, none⟩) (Nat.le_refl _) (.func (.func 23) #[] #[.pointer (some ⟨we.heap.size, 0, none⟩), .pointer (some ⟨we.heap.size + 1, 0, none⟩), .pointer (some ⟨we.heap.size + 2, 0, none⟩)])
    obtain ⟨f1, f2, f3, f4, f5⟩ := F1.out _ hbv
    have s7 : (wf.setCell ⟨w4.heap.size, 0, none⟩ (.func (.func 23) #[] #[.pointer (some ⟨we.heap.size, 0, none⟩), .pointer (some ⟨we.heap.size + 1, 0, none⟩), .pointer (some ⟨we.heap.size + 2, 0, none⟩)])).heap.size = wf.heap.size := by simp
    refine hKK _ _ ?_
    exact later_rest s a1 a2 c1 c2 g1 g2 w1.heap.size w4.heap.size we.heap.size (w4.heap.size + 1) ts ns n u w _ hl2 bn0 bn1 bu0 hbu f1 f2 (by omega) (by omega) (by omega) (by omega) (by omega) (by omega) (by omega) (by omega) f3 f4 f5 (j8.set 0 _) (z1.other _ (by show we.heap.size ≠ w4.heap.size; omega) _) (z2.other _ (by show we.heap.size + 1 ≠ w4.heap.size; omega) _) (z3.other _ (by show we.heap.size + 2 ≠ w4.heap.size; omega) _) ((z4.below hbf (by show w4.heap.size + 1 < we.heap.size; omega)).other _ (by show w4.heap.size + 1 ≠ w4.heap.size; omega) _)
end Go.Proofs.Ytdalnofiiomgoaa
