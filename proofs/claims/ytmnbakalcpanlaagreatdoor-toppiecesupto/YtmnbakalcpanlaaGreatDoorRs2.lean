import Derived.Test.YtmnbakalcpanlaaGreatDoorLmz
import Derived.Test.YtmnbakalcpanlaaGreatDoorTm8
import Derived.Test.YtmnbakalcpanlaaGreatDoorLms
import Derived.Test.YtmnbakalcpanlaaGreatDoorLmk
namespace Go.Proofs.YtmnbakalcpanlaaGreatDoor
open Go.ChangeShapes Go.WideShapes Go.ChangeAt Go.RowKit Go.Maps Go.WideMaps
set_option linter.unusedVariables false
set_option linter.unusedSimpArgs false

theorem hid_of {p : Prop} (h : p) : Hid p := h
def MaxL (w : World) : Prop := ∃ m, w.cell? ⟨1, 0, none⟩ = some (.int .i64 m)
theorem MaxL.below {w w' : World} (h : MaxL w) (hb : Below w.heap.size w w') : MaxL w' := by
  obtain ⟨m, hm⟩ := h
  exact ⟨m, (hb.cell (p := ⟨1, 0, none⟩) (World.block_lt_of_cell? _ _ hm)).trans hm⟩
/-- Scan of a text with a fault -/
theorem scan_no {s : ByteArray} (hs : s.size ≤ 4294967280) {y z : Nat} (hc : (cut s 0).2 = some (y, z)) (w : World) (hS : Spl w) (hT : Lt w) (hM : MaxL w) :
    Calls Tryz.prog 4 #[.string s] w fun e w' => e = .returned (.tuple #[.slice none 0 0, .agg #[.int .i64 (y : Int), .int .i64 0, .int .i64 (z : Int)]]) ∧ Below w.heap.size w w' := by
  refine (Scan_any s hs w hS hT hM).mono fun e w' h => ?_
  unfold SnE at h
  rw [hc] at h
  exact ⟨h.2, h.1⟩
/-- .. and of one without -/
theorem scan_ok {s : ByteArray} (hs : s.size ≤ 4294967280) (hc : (cut s 0).2 = none) (w : World) (hS : Spl w) (hT : Lt w) (hM : MaxL w) :
    Calls Tryz.prog 4 #[.string s] w fun e w' => ∃ a c, e = .returned (.tuple #[.slice a (wau s (cut s 0).1).length c, .agg #[.int .i64 0, .int .i64 0, .int .i64 0]]) ∧ LiesA w' a (wau s (cut s 0).1) ∧ (wau s (cut s 0).1).length ≤ c ∧ (a = none → c = 0) ∧ Below w.heap.size w w' := by
  refine (Scan_any s hs w hS hT hM).mono fun e w' h => ?_
  unfold SnE at h
  rw [hc] at h
  obtain ⟨hb, v, he, ho⟩ := h
  obtain ⟨a, c, rfl, hl, -, hn⟩ := own_form ho
  refine ⟨a, c, he, hl, ?_, fun h => (hn h).2, hb⟩
  rcases ho.2 with ⟨h1, h2⟩ | ⟨g, cap, cur, hv, hg, hh, hcap, -⟩
  · omega
  · cases hv; exact hcap
theorem wau_pos {s : ByteArray} (hc : (cut s 0).2 = none) (h : 0 < s.size) : 0 < (wau s (cut s 0).1).length := by
  cases hp : pce s 0 with
  | no y z => rw [cut_no h hp] at hc; cases hc
  | ok k t => rw [cut_ok h hp]; simp [wau]

theorem wau_len (s : ByteArray) : ∀ l, (wau s l).length ≤ 2 * l.length
  | [] => by simp [wau]
  | q :: r => by
    have := wau_len s r
    rw [wau]
    split <;> simp <;> omega
theorem wau_max {s : ByteArray} (hs : s.size ≤ 4294967280) : (wau s (cut s 0).1).length ≤ 8589934560 := by
  have h1 := wau_len s (cut s 0).1
  have h2 := (cut_all s s.size 0 (by omega)).2
  omega
end Go.Proofs.YtmnbakalcpanlaaGreatDoor

namespace Go.Proofs.YtmnbakalcpanlaaGreatDoor
open Go.ChangeShapes Go.WideShapes Go.ChangeAt Go.RowKit Go.Maps Go.WideMaps
set_option linter.unusedVariables false
set_option linter.unusedSimpArgs false

/-- what is left of the old pieces, in its box -/
def Rst (w0 : World) (R : Nat) (rs : List Tk) (v : World) : Prop := ∃ a c, Bx v R #[.slice a rs.length c] 23 ∧ LiesA w0 a rs ∧ rs.length ≤ c
def hdI : List Tk → Int → Bool
  | [], _ => false
  | q :: _, x => decide (q.f = x)
def drp (x : Int) (l : List Tk) : List Tk := l.dropWhile (fun q => decide (q.f < x))
theorem drp_nil (x : Int) : drp x [] = [] := rfl
theorem drp_go {x : Int} {q : Tk} (r : List Tk) (h : q.f < x) : drp x (q :: r) = drp x r := by unfold drp; rw [List.dropWhile_cons_of_pos (by simpa using h)]
theorem drp_stay {x : Int} {q : Tk} (r : List Tk) (h : ¬ q.f < x) : drp x (q :: r) = q :: r := by unfold drp; rw [List.dropWhile_cons_of_neg (by simpa using h)]
theorem drp_app {x : Int} {a : List Tk} (r : List Tk) (h : ∀ q ∈ a, q.f < x) : drp x (a ++ r) = drp x r := by
  induction a with
  | nil => rfl
  | cons q a ih => rw [List.cons_append, drp_go _ (h q (List.mem_cons_self ..))]; exact ih (fun y hy => h y (List.mem_cons_of_mem _ hy))
theorem drp_pre (x : Int) : ∀ l : List Tk, ∃ a, l = a ++ drp x l ∧ ∀ q ∈ a, q.f < x
  | [] => ⟨[], rfl, fun q h => by cases h⟩
  | q :: r => by
    by_cases h : q.f < x
    · obtain ⟨a, h1, h2⟩ := drp_pre x r
      refine ⟨q :: a, by rw [drp_go r h, List.cons_append, ← h1], fun y hy => ?_⟩
      rcases List.mem_cons.1 hy with rfl | hy
      · exact h
      · exact h2 y hy
    · exact ⟨[], by rw [drp_stay r h]; rfl, fun q h => by cases h⟩
theorem hdI_any (x : Int) : ∀ l : List Tk, l.Pairwise (fun a b => a.f < b.f) → hdI (drp x l) x = l.any (fun q => decide (q.f = x))
  | [], _ => rfl
  | q :: r, h => by
    rw [List.pairwise_cons] at h
    by_cases hq : q.f < x
    · rw [drp_go r hq, hdI_any x r h.2, List.any_cons, show decide (q.f = x) = false by rw [decide_eq_false_iff_not]; omega, Bool.false_or]
    · rw [drp_stay r hq, List.any_cons]
      have : r.any (fun q => decide (q.f = x)) = false := by
        rw [List.any_eq_false]
        intro y hy
        have := h.1 y hy
        simp; omega
      rw [this, Bool.or_false]
      rfl
theorem LiesA.tail {w : World} {a : Option Addr} {q : Tk} {r : List Tk} (h : LiesA w a (q :: r)) : ∃ b o, a = some ⟨b, o, none⟩ ∧ b < w.heap.size ∧ Lies w b o (q :: r) ∧ LiesA w (some ⟨b, o + 3, none⟩) r := by
  rcases h with h | ⟨b, o, rfl, h⟩
  · cases h
  · refine ⟨b, o, rfl, h.1, h, .inr ⟨b, o + 3, rfl, h.1, fun j u hj => ?_⟩⟩
    have := h.2 (3 + j) u (by rw [flat_cons, List.getElem?_append_right (by simp [Rw.cs])]; simpa [Rw.cs] using hj)
    rw [show o + 3 + j = o + (3 + j) by omega]
    exact this

theorem one_grown {w wr : World} {R : Nat} (h : w.grownBy wr (some R)) (u : Value) : w.grownBy (wr.setCell ⟨R, 0, none⟩ u) (some R) :=
  grownBy_trans h ⟨rfl, rfl, rfl, by simp [World.setCell], fun k _ hne => Below.heap_setCell _ _ _ _ (fun e => hne (by simp [e]))⟩

set_option maxRecDepth 1000000 in
set_option maxHeartbeats 8000000 in
theorem known_any (w0 : World) (Mv E R : Nat) (mv ef et : Int) (es : ByteArray) (p : Nat) (rs : List Tk) (w : World) (hb : Below w0.heap.size w0 w) (hr : w0.heap.size ≤ R) (hp : p ≤ 4294967280) (hm1 : -4294967296 ≤ mv) (hm2 : mv ≤ 4294967296) (hMR : Mv ≠ R) (hER : E ≠ R)
    (XM : Bx w Mv #[.int .i64 mv] 3) (XE : Bx w E #[.int .i64 ef, .int .i64 et, .string es] 38) (XR : Rst w0 R rs w) :
    Calls Tryz.prog 46 #[.int .i64 (p : Int), .pointer (some ⟨Mv, 0, none⟩), .pointer (some ⟨E, 0, none⟩), .pointer (some ⟨R, 0, none⟩)] w fun e w' =>
      e = .returned (.bool (decide (et ≤ (p : Int) - mv) && hdI (drp ((p : Int) - mv) rs) ((p : Int) - mv))) ∧ w.grownBy w' (some R) ∧ Rst w0 R (if et ≤ (p : Int) - mv then drp ((p : Int) - mv) rs else rs) w' := by
  obtain ⟨x, hx⟩ : ∃ x, (p : Int) - mv = x := ⟨_, rfl⟩
  have HK : Hid (∀ v, w.grownBy v (some R) → v.cell? ⟨Mv, 0, none⟩ = some (.int .i64 mv) ∧ v.cell? ⟨E, 1, none⟩ = some (.int .i64 et) ∧ Mv < v.heap.size ∧ E < v.heap.size ∧ Below w0.heap.size w0 v) := fun v hv => by
    have Y1 : Bx v Mv #[.int .i64 mv] 3 := (hv.block Mv XM.lt (by simp; omega)).trans XM
    have Y2 : Bx v E #[.int .i64 ef, .int .i64 et, .string es] 38 := (hv.block E XE.lt (by simp; omega)).trans XE
    exact ⟨Y1.cell 0, Y2.cell 1, Y1.lt, Y2.lt, hb.grown hv hb.size (fun j hj => by cases hj; exact hr)⟩
  have HXR : Hid (Rst w0 R rs w) := XR
  obtain ⟨a9, c9, X9, -, -⟩ := XR
  have r9 := X9.lt
  have m0 := XM.cell 0
  have m9 := XM.lt
  simp at m0
  have g0 : Hid (w.grownBy w (some R)) := ⟨rfl, rfl, rfl, Nat.le_refl _, fun _ _ _ => rfl⟩
  rw [hx]
  clear XM XE X9 hb
  go_enter Tryz.func46, Tryz.ntmps46
  go_wp2
  go_loopg [10] rs.length (fun gk s10 wr => ∃ (r : List Tk), gk = r.length ∧ w.grownBy wr (some R) ∧ Rst w0 R r wr ∧ (r = rs ∨ (et ≤ x ∧ drp x rs = drp x r)))
  case atStart => exact ⟨rs, rfl, g0.out, HXR.out, .inl rfl⟩
  case round =>
    obtain ⟨r, rfl, hg, hR, ho⟩ := hrel
    have HG : Hid (w.grownBy wr (some R)) := hg
    have HR : Hid (Rst w0 R r wr) := hR
    clear hR
    have HO : Hid (r = rs ∨ (et ≤ x ∧ drp x rs = drp x r)) := ho
    obtain ⟨k0, k1, k2, k3, hb⟩ := HK.out wr hg
    obtain ⟨a, c, X, hl, hc⟩ := HR.out
    have x0 := X.cell 0
    have xf := X.free 0
    have xl := X.lt
    simp at x0
    have HX : Hid (Bx wr R #[.slice a r.length c] 23) := X
    have HB : Hid (Below w0.heap.size w0 wr) := hb
    clear hg ho X hb
    by_cases het : et ≤ x
    · have het' : x ≥ et := het
      have hdp : drp x rs = drp x r := by rcases HO.out with h | h; rw [h]; exact h.2
      have HDP : Hid (drp x rs = drp x r) := hdp
      clear hdp
      cases r with
      | nil =>
        clear HO
        go_wp2
        go_ret
        refine ⟨?_, HG.out, ?_⟩
        · rw [HDP.out]; simp [drp_nil, hdI]
        · first | rw [if_pos het, HDP.out] | rw [HDP.out]
          exact HR.out
      | cons q r =>
        obtain ⟨b, o, rfl, hbl, hlq, hlt⟩ := hl.tail
        obtain ⟨-, c1, -⟩ := hlq.tk (Below.refl _ _) (i := 0) (e := q) rfl
        simp only [Nat.zero_mul, Nat.add_zero] at c1
        have d1 : wr.cell? ⟨b, o + 1, none⟩ = some (.int .i64 q.f) := (HB.out.cell (p := ⟨b, o + 1, none⟩) hbl).trans c1
        have hbw : b < wr.heap.size := Nat.lt_of_lt_of_le hbl HB.out.size
        have HLT : Hid (LiesA w0 (some ⟨b, o + 3, none⟩) r) := hlt
        have hlen : (q :: r).length = r.length + 1 := rfl
        have hpos : (0 : Int) < ((q :: r).length : Int) := by rw [hlen]; omega
        have hcc : ((q :: r).length : Int) ≤ (c : Int) := by omega
        clear hl hlq hlt c1
        by_cases hq : q.f < x
        · clear HO
          have HQ : Hid (drp x (q :: r) = drp x r) := drp_go r hq
          by_cases hc1 : c = 1
          · have hr0 : r = [] := by
              cases r with
              | nil => rfl
              | cons y r => simp at hc; omega
            subst hr0
            subst hc1
            go_wp2
            go_roundg 0
            case measure => simp
            case rel => exact ⟨[], rfl, one_grown HG.out _, ⟨some ⟨b, o, none⟩, 0, one_setCell HX.out, .inl rfl, by simp⟩, .inr ⟨het, by rw [HDP.out, HQ.out]⟩⟩
          · have hc2 : (1 : Int) < (c : Int) := by simp at hc; omega
            have hc3 : r.length ≤ c - 1 := by simp at hc; omega
            have HC3 : Hid (r.length ≤ c - 1) := hc3
            clear hc3
            go_wp2
            go_roundg r.length
            case measure => simp
            case rel => exact ⟨r, rfl, one_grown HG.out _, ⟨some ⟨b, o + 3, none⟩, c - 1, one_setCell HX.out, HLT.out, HC3.out⟩, .inr ⟨het, by rw [HDP.out, HQ.out]⟩⟩
        · clear HO
          have HQ : Hid (drp x (q :: r) = q :: r) := drp_stay r hq
          go_wp2
          go_ret
          refine ⟨?_, HG.out, ?_⟩
          · rw [HDP.out, HQ.out]; by_cases h9 : q.f = x <;> simp [hdI, het, h9]
          · first | rw [if_pos het, HDP.out, HQ.out] | rw [HDP.out, HQ.out]
            exact HR.out
    · have het' : ¬ x ≥ et := het
      have hrr : r = rs := by rcases HO.out with h | h; exact h; exact absurd h.1 het
      have HRR : Hid (r = rs) := hrr
      have HET : Hid (¬ et ≤ x) := het
      clear HO hrr
      go_wp2
      go_ret
      refine ⟨?_, HG.out, ?_⟩
      · simp [HET.out]
      · first | rw [if_neg HET.out, ← HRR.out] | rw [← HRR.out]
        exact HR.out
end Go.Proofs.YtmnbakalcpanlaaGreatDoor

namespace Go.Proofs.YtmnbakalcpanlaaGreatDoor
open Go.ChangeShapes Go.WideShapes Go.ChangeAt Go.RowKit Go.Maps Go.WideMaps
set_option linter.unusedVariables false
set_option linter.unusedSimpArgs false

/-- the old pieces as they are kept while the new text is cut -/
def Jk (w0 w : World) (b R : Nat) (old : List Tk) (mv : Int) (p : Nat) (v : World) : Prop := w.heap.size ≤ v.heap.size ∧ (∀ k, k < w.heap.size → k ≠ b → k ≠ R → v.heap[k]? = w.heap[k]?) ∧ ∃ pre rs, old = pre ++ rs ∧ (∀ q ∈ pre, q.f < (p : Int) - mv) ∧ Rst w0 R rs v
def Tkn (w0 : World) (R : Nat) (old : List Tk) (mv : Int) (p : Nat) (v : World) : Prop := R < v.heap.size ∧ Rst w0 R (drp ((p : Int) - mv) old) v
theorem Rst.frm {w0 w v v' : World} {b R : Nat} {rs : List Tk} (h : Rst w0 R rs v) (hR : R < w.heap.size) (hb : R ≠ b) (hf : Frm w b v v') : Rst w0 R rs v' := by
  obtain ⟨a, c, X, r⟩ := h
  exact ⟨a, c, (hf.2 R hR X.lt hb).trans X, r⟩
theorem kn_any {w0 w : World} {b M R Mv E : Nat} {s : ByteArray} {old : List Tk} {mv ef : Int} {t : Nat} {es : ByteArray} (hs : s.size ≤ 4294967280) (hm1 : -4294967296 ≤ mv) (hm2 : mv ≤ 4294967296)
    (r0 : w0.heap.size ≤ R) (rw' : R < w.heap.size) (rb : R ≠ b) (rm : R ≠ M) (hMR : Mv ≠ R) (hER : E ≠ R) (hMb : Mv ≠ b) (hEb : E ≠ b)
    (XM : Bx w Mv #[.int .i64 mv] 3) (XE : Bx w E #[.int .i64 ef, .int .i64 (t : Int), .string es] 38) (hso : old.Pairwise (fun a b => a.f < b.f)) :
    Kn w0 w b M R s (kno old t mv) (Jk w0 w b R old mv) (Tkn w0 R old mv) Mv E := by
  refine ⟨r0, rw', rb, rm, fun p v h => ?_, fun p v v' h hf => ?_, fun p v v' h hf => ?_, fun p q v h hpq => ?_, fun p v h hb hp => ?_⟩
  · obtain ⟨-, -, pre, rs, -, -, a, c, X, -⟩ := h
    exact ⟨_, X⟩
  · obtain ⟨h1, h2, pre, rs, h3, h4, h5⟩ := h
    exact ⟨Nat.le_trans h1 hf.1, fun k k1 k2 k3 => (hf.2 k k1 (Nat.lt_of_lt_of_le k1 h1) k2).trans (h2 k k1 k2 k3), pre, rs, h3, h4, h5.frm rw' rb hf⟩
  · exact ⟨Nat.lt_of_lt_of_le h.1 hf.1, h.2.frm rw' rb hf⟩
  · obtain ⟨h1, h2, pre, rs, h3, h4, h5⟩ := h
    exact ⟨h1, h2, pre, rs, h3, fun q hq => by have := h4 q hq; omega, h5⟩
  · obtain ⟨h1, h2, pre, rs, h3, h4, h5⟩ := h
    have YM : Bx v Mv #[.int .i64 mv] 3 := (h2 Mv XM.lt hMb hMR).trans XM
    have YE : Bx v E #[.int .i64 ef, .int .i64 (t : Int), .string es] 38 := (h2 E XE.lt hEb hER).trans XE
    refine (known_any w0 Mv E R mv ef t es p rs v hb r0 (by omega) hm1 hm2 hMR hER YM YE h5).mono ?_
    rintro e v' ⟨rfl, hg, hr⟩
    have hd : drp ((p : Int) - mv) old = drp ((p : Int) - mv) rs := by rw [h3, drp_app rs h4]
    have hk : (decide ((t : Int) ≤ (p : Int) - mv) && hdI (drp ((p : Int) - mv) rs) ((p : Int) - mv)) = kno old t mv p := by
      unfold kno; rw [← hd, hdI_any _ _ hso]
    have hfr : Frm w b v v' ∨ True := .inr trivial
    refine ⟨by rw [hk], hg, ⟨Nat.le_trans h1 hg.size, fun k k1 k2 k3 => (hg.block k (Nat.lt_of_lt_of_le k1 h1) (by simp; omega)).trans (h2 k k1 k2 k3), ?_⟩, fun h => ?_⟩
    · by_cases ht : (t : Int) ≤ (p : Int) - mv
      · rw [if_pos ht] at hr
        obtain ⟨a, e1, e2⟩ := drp_pre ((p : Int) - mv) rs
        refine ⟨pre ++ a, drp ((p : Int) - mv) rs, by rw [h3, List.append_assoc, ← e1], fun q hq => ?_, hr⟩
        rcases List.mem_append.1 hq with h | h
        · exact h4 q h
        · exact e2 q h
      · rw [if_neg ht] at hr
        exact ⟨pre, rs, h3, h4, hr⟩
    · rw [← hk] at h
      simp only [Bool.and_eq_true, decide_eq_true_eq] at h
      rw [if_pos h.1, ← hd] at hr
      exact ⟨by have := hg.size; omega, hr⟩
end Go.Proofs.YtmnbakalcpanlaaGreatDoor
