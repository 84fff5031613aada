import Derived.Test.YtmnbakalcpanlaaGreatDoorTma
import Derived.Test.YtmnbakalcpanlaaGreatDoorLmy
import Derived.Test.YtmnbakalcpanlaaGreatDoorTm8
namespace Go.Proofs.YtmnbakalcpanlaaGreatDoor
open Go.ChangeShapes Go.WideShapes Go.ChangeAt Go.RowKit Go.Maps Go.WideMaps
set_option linter.unusedVariables false
set_option linter.unusedSimpArgs false

theorem longest_root (P p : Nat) (s : ByteArray) (hs : s.size ≤ 4294967280) (hp : p ≤ s.size) (w : World) (h : Tat w P) :
    Calls Tryz.prog 60 #[.pointer (some ⟨P, 0, none⟩), .string s, .int .i64 (p : Int)] w fun e w' => e = .returned (.tuple #[.int .u8 ((lng TT s 0 p (0, 0)).1 : Nat), .int .i64 ((lng TT s 0 p (0, 0)).2 : Nat)]) ∧ w' = w := by
  obtain ⟨B, A, V, hA, hT⟩ := h
  have := longest_any B TT A V s p hs hp (by rw [tt_len.1]; omega) (by rw [tt_len.1]; omega) w hT
  rw [hA] at this
  exact this
theorem bel_grown {w w2 w' : World} {b : Nat} (h : Below w.heap.size w w2) (hg : w2.grownBy w' (some b)) : w.grownBy w' (some b) := grownBy_trans (grownBy_of_below h _) hg
theorem grown_two {w w' : World} {b g : Nat} {u0 u1 u2 v0 v1 v2 : Value} (h : w.grownBy w' (some b)) (hg : w.heap.size ≤ g) : w.grownBy ((((((w'.setCell ⟨g, 0, none⟩ u0).setCell ⟨g, 1, none⟩ u1).setCell ⟨g, 2, none⟩ u2).setCell ⟨g + 1, 0, none⟩ v0).setCell ⟨g + 1, 1, none⟩ v1).setCell ⟨g + 1, 2, none⟩ v2) (some b) := by
  have hb : Below w.heap.size w' ((((((w'.setCell ⟨g, 0, none⟩ u0).setCell ⟨g, 1, none⟩ u1).setCell ⟨g, 2, none⟩ u2).setCell ⟨g + 1, 0, none⟩ v0).setCell ⟨g + 1, 1, none⟩ v1).setCell ⟨g + 1, 2, none⟩ v2) := bel_two (Below.refl _ _) hg
  exact ⟨hb.os.trans h.os, hb.tape.trans h.tape, hb.output.trans h.output, Nat.le_trans h.size hb.size, fun k hk hne => (hb.block k hk).trans (h.block k hk hne)⟩
theorem Bx.apart {w : World} {g k : Nat} {vs us : Array Value} {t t' : TypeId} (X : Bx w g vs t) (Y : Bx w k us t') (hne : t ≠ t') : k ≠ g := by
  intro e
  subst e
  have h : some (Obj.cells vs t (0, 0)) = some (Obj.cells us t' (0, 0)) := (show w.heap[k]? = some (Obj.cells vs t (0, 0)) from X).symm.trans Y
  cases h
  exact hne rfl
/-- a scanner stands while boxes of tokens and faults are written -/
theorem Sg.setTok {w : World} {b M g i : Nat} {s : ByteArray} {t : TypeId} {vs : Array Value} (h : Sg w b M s) (X : Bx w g vs t) (ht : t ≠ 77 ∧ t ≠ 80 ∧ t ≠ 114 ∧ t ≠ 75) (v : Value) : Sg (w.setCell ⟨g, i, none⟩ v) b M s := by
  have ne : ∀ {k : Nat} {us : Array Value} {t' : TypeId}, Bx w k us t' → t ≠ t' → k ≠ g := fun Y hne => X.apart Y hne
  obtain ⟨d, mk, h1, h2, h3⟩ := h
  refine ⟨d, mk, h1.other ⟨g, i, none⟩ (ne h1 ht.1) v, h2.other ⟨g, i, none⟩ (ne h2 ht.2.1) v, ?_⟩
  rcases h3 with h3 | ⟨e1, B, A, V, e2, e3, e4⟩
  · exact .inl h3
  · refine .inr ⟨e1, B, A, V, e2, ⟨fun i t hi => ⟨(e3.box i t hi).1, (e3.box i t hi).2.other ⟨g, _, none⟩ (ne (e3.box i t hi).2 ht.2.2.1) v⟩, fun j t hj => ?_, e3.one, e3.apart, e3.kid, e3.lim⟩, e4⟩
    refine ownsRow_setCell_other (e3.row j t hj) (a := ⟨g, i, none⟩) (fun e => ?_) v
    obtain ⟨c, fz, hh⟩ := row_kindR (e3.row j t hj) _ e
    have := (show w.heap[g]? = some (.cells _ _ (0, 0)) from X).symm.trans hh
    cases this
    exact ht.2.2.2 rfl
theorem Sg.two {w : World} {b M g : Nat} {s : ByteArray} {u0 u1 u2 v0 v1 v2 : Value} {a0 a1 a2 b0 b1 b2 : Value} (h : Sg w b M s) (X : Bx w g #[a0, a1, a2] 50) (Y : Bx w (g + 1) #[b0, b1, b2] 26) : Sg ((((((w.setCell ⟨g, 0, none⟩ u0).setCell ⟨g, 1, none⟩ u1).setCell ⟨g, 2, none⟩ u2).setCell ⟨g + 1, 0, none⟩ v0).setCell ⟨g + 1, 1, none⟩ v1).setCell ⟨g + 1, 2, none⟩ v2) b M s := by
  have tt : 50 ≠ 77 ∧ 50 ≠ 80 ∧ 50 ≠ 114 ∧ 50 ≠ 75 := by decide
  have tf : 26 ≠ 77 ∧ 26 ≠ 80 ∧ 26 ≠ 114 ∧ 26 ≠ 75 := by decide
  have X1 := X.set 0 u0
  have X2 := X1.set 1 u1
  have Y3 := Y.put3 (h := g) (by omega) u0 u1 u2
  have Y4 := Y3.set 0 v0
  have Y5 := Y4.set 1 v1
  exact (((((h.setTok X tt u0).setTok X1 tt u1).setTok X2 tt u2).setTok Y3 tf v0).setTok Y4 tf v1).setTok Y5 tf v2

set_option maxRecDepth 1000000 in
set_option maxHeartbeats 8000000 in
theorem mark_any (b M : Nat) (s : ByteArray) (p x : Nat) (hs : s.size ≤ 4294967280) (hp : p < s.size) (hx : onT TT 0 (bt s p) = some x) (w : World) (hS : Spl w) (hgb : 0 ≠ b) (h : Sg w b M s) :
    Calls Tryz.prog 39 #[.pointer (some ⟨b, 0, none⟩), .int .i64 (p : Int)] w fun e w' => e = .returned (.tuple #[tokV p (mkP s p), fltV (mkP s p)]) ∧ Sg w' b M s ∧ w.grownBy w' (some b) := by
  have hp' : (p : Int) < (s.size : Int) := by omega
  obtain ⟨hmk, hk80, hlt, hle⟩ := mk_some s p x hp hx
  have c0 : w.cell? ⟨b, 0, none⟩ = some (.string s) := by obtain ⟨d, mk, h1, -, -⟩ := h; exact h1.cell 0
  have hbl : b < w.heap.size := World.block_lt_of_cell? _ _ c0
  obtain ⟨w2, e2, hw, hs2, hX⟩ := start2 w b s c0
  have HE2 : Hid ((w.alloc (.cells #[.int .u8 0, .int .i64 0, .int .i64 0] 50)).alloc (.cells #[.int .i64 0, .int .i64 0, .int .i64 0] 26) = w2) := e2
  obtain ⟨X0, X1, c2, b2, -⟩ := hX w2 (Below.refl _ _)
  have HT : Hid (Calls Tryz.prog 58 #[.pointer (some ⟨b, 0, none⟩)] w2.drew fun e w' => ∃ P, e = .returned (.pointer (some ⟨P, 0, none⟩)) ∧ Tat w' P ∧ Sg w' b M s ∧ w.grownBy w' (some b) ∧ Bx w' w.heap.size #[.int .u8 0, .int .i64 0, .int .i64 0] 50 ∧ Bx w' (w.heap.size + 1) #[.int .i64 0, .int .i64 0, .int .i64 0] 26) := by
    have hd : Below w.heap.size w w2.drew := hw.drew
    refine (tree_any b M s w2.drew (hS.below hd) hgb (h.below hd)).mono fun e w' h => ?_
    obtain ⟨P, h1, h2, h3, h4⟩ := h
    have k2 : w2.drew.heap.size = w2.heap.size := rfl
    exact ⟨P, h1, h2, h3, bel_grown hd h4, (h4.block _ (by omega) (by simp; omega)).trans X0, (h4.block _ (by omega) (by simp; omega)).trans X1⟩
  have HR : Hid (∀ P v, Tat v P → Calls Tryz.prog 60 #[.pointer (some ⟨P, 0, none⟩), .string s, .int .i64 (p : Int)] v fun e w' => e = .returned (.tuple #[.int .u8 ((lng TT s 0 p (0, 0)).1 : Nat), .int .i64 ((lng TT s 0 p (0, 0)).2 : Nat)]) ∧ w' = v) := fun P v hv => longest_root P p s hs (by omega) v hv
  have HC : Hid (∀ v, Sg v b M s → v.cell? ⟨b, 0, none⟩ = some (.string s) ∧ b < v.heap.size) := fun v hv => by
    obtain ⟨d, mk, h1, -, -⟩ := hv; exact ⟨h1.cell 0, h1.lt⟩
  rw [hmk]
  obtain ⟨K, hK⟩ : ∃ K, (lng TT s 0 p (0, 0)).1 = K := ⟨_, rfl⟩
  obtain ⟨E, hE⟩ : ∃ E, (lng TT s 0 p (0, 0)).2 = E := ⟨_, rfl⟩
  rw [hK, hE] at HR ⊢
  rw [hK] at hk80
  rw [hE] at hlt hle
  clear hS h hmk hx hX X0 X1 e2 hw hK hE
  go_enter Tryz.func39, Tryz.ntmps39
  go_upto_region 1 with fail
  rw [HE2.out]
  go_region_with (first
    | (go_at_call 58; (with_reducible refine HT.out.mono ?_); rintro e w1 ⟨P, rfl, ht1, hg1, hw1, Y0, Y1⟩; obtain ⟨q0, qb⟩ := HC.out w1 hg1; have H1 : Hid (Tat w1 P) := ht1; have H2 : Hid (Sg w1 b M s) := hg1; have H3 : Hid (w.grownBy w1 (some b)) := hw1; have HY0 : Hid (Bx w1 w.heap.size #[.int .u8 0, .int .i64 0, .int .i64 0] 50) := Y0; have HY1 : Hid (Bx w1 (w.heap.size + 1) #[.int .i64 0, .int .i64 0, .int .i64 0] 26) := Y1; clear ht1 hg1 hw1 Y0 Y1)
    | (go_at_call 60; (with_reducible refine (HR.out _ _ H1.out).mono ?_); rintro e w3 ⟨rfl, hw3⟩; subst hw3))
  all_goals
    obtain ⟨z0, z1, z2, z3, z4, z5, zf, zh⟩ := two_of HY0.out HY1.out
    have f0 := zf 0
    have f1 := zf 1
    have f2 := zf 2
    have h0 := zh 0
    have h1 := zh 1
    have h2 := zh 2
    clear zf zh
    go_wp2
    obtain ⟨r0, r1, r2, r3, r4, r5⟩ := two_boxes HY0.out HY1.out (.int .u8 (K : Int)) (.int .i64 (p : Int)) (.int .i64 (E : Int)) (.int .i64 0) (.int .i64 0) (.int .i64 0)
    refine bodyPost_ret (v := .tuple #[.agg #[.int .u8 (K : Int), .int .i64 (p : Int), .int .i64 (E : Int)], .agg #[.int .i64 0, .int .i64 0, .int .i64 0]]) (by simp [results, Tryz.results39, go_sem, r0, r1, r2, r3, r4, r5]) rfl ⟨rfl, H2.out.two HY0.out HY1.out, grown_two H3.out (Nat.le_refl _)⟩
end Go.Proofs.YtmnbakalcpanlaaGreatDoor

namespace Go.Proofs.YtmnbakalcpanlaaGreatDoor
open Go.ChangeShapes Go.WideShapes Go.ChangeAt Go.RowKit Go.Maps Go.WideMaps
set_option linter.unusedVariables false
set_option linter.unusedSimpArgs false

theorem infoTkR : (Tryz.prog.info? 50).map (fun i => (i.zero, i.size, i.bytes)) = some (some (.agg #[.int .u8 0, .int .i64 0, .int .i64 0]), 3, 24) := by kernel_rfl
/-- the tokens of a list, but for autos -/
def nau (xs : List Tk) : List Tk := xs.filter (fun q => decide (q.k ≠ 6))
theorem nau_step {xs : List Tk} {i : Nat} {q : Tk} (h : xs[i]? = some q) : nau (xs.drop i) = (if q.k ≠ 6 then [q] else []) ++ nau (xs.drop (i + 1)) := by
  have hi := (List.getElem?_eq_some_iff.1 h).1
  have e := (List.getElem?_eq_some_iff.1 h).2
  rw [List.drop_eq_getElem_cons hi, e]
  unfold nau
  by_cases h6 : q.k ≠ 6
  · rw [List.filter_cons_of_pos (by simpa using h6), if_pos h6]; rfl
  · rw [List.filter_cons_of_neg (by simpa using h6), if_neg h6]; rfl
set_option maxRecDepth 1000000 in
set_option maxHeartbeats 8000000 in
theorem withoutAutos_any (a : Option Addr) (c : Nat) (xs : List Tk) (w : World) (h : LiesA w a xs) (hl : xs.length ≤ 4398046510976) :
    Calls Tryz.prog 25 #[.slice a xs.length c] w fun e w' => ∃ v, e = .returned v ∧ w'.ownsRow w.heap.size 50 3 v (nau xs).length (flat (nau xs)) ∧ Below w.heap.size w w' := by
  obtain ⟨i0, hi, hz0, hz1, hz2⟩ := info_parts infoTkR
  have HL : Hid (LiesA w a xs) := h
  clear h
  go_enter Tryz.func25, Tryz.ntmps25
  go_wp2
  go_loopw [3, 8] (fun so si wr => ∃ (i : Nat) (acc : List Tk), i ≤ xs.length ∧ si = .int .i64 (i : Int) ∧ acc.length ≤ i ∧ acc ++ nau (xs.drop i) = nau xs ∧ wr.ownsRow w.heap.size 50 3 so acc.length (flat acc) ∧ Below w.heap.size w wr) (fun _ si _ => xs.length - (intOf si).toNat)
  case atStart => exact ⟨0, [], Nat.zero_le _, rfl, by simp, rfl, World.ownsRow_nil _ _ _ _, Below.refl _ _⟩
  case round =>
    obtain ⟨i, acc, hil, rfl, hal, hacc, hown, hbel⟩ := hrel
    have HA : Hid (acc ++ nau (xs.drop i) = nau xs) := hacc
    have HO : Hid (wr.ownsRow w.heap.size 50 3 u3 acc.length (flat acc)) := hown
    have HB : Hid (Below w.heap.size w wr) := hbel
    clear hacc hown hbel
    by_cases hlt : i < xs.length
    · have hlt' : (i : Int) < (xs.length : Int) := by omega
      obtain ⟨⟨k, f, t⟩, hqi⟩ : ∃ q, xs[i]? = some q := ⟨_, List.getElem?_eq_getElem hlt⟩
      obtain ⟨g, o, rfl, hlg⟩ : ∃ g o, a = some ⟨g, o, none⟩ ∧ Lies w g o xs := by
        rcases HL.out with h | ⟨g, o, h1, h2⟩
        · rw [h] at hlt; simp at hlt
        · exact ⟨g, o, h1, h2⟩
      have hgr : g < wr.heap.size := by have := HB.out.size; have := hlg.1; omega
      obtain ⟨c0, c1, c2⟩ := hlg.tk HB.out hqi
      simp only at c0 c1 c2
      have hst := nau_step hqi
      simp only at hst
      clear hlg
      by_cases h6 : k = 6
      · have HN : Hid (acc ++ nau (xs.drop (i + 1)) = nau xs) := by unfold Hid; rw [← HA.out, hst, if_neg (by simpa using h6)]; rfl
        have hk6 : (k != 6) = false := by rw [h6]; rfl
        clear hst
        go_wp2
        exact ⟨⟨i + 1, acc, by omega, by go_num, by omega, HN.out, HO.out.alloc _, HB.out.alloc HB.out.size _⟩, by simp [intOf]; omega⟩
      · have HN : Hid ((acc ++ [(⟨k, f, t⟩ : Tk)]) ++ nau (xs.drop (i + 1)) = nau xs) := by unfold Hid; rw [← HA.out, hst, if_pos (by simpa using h6)]; simp
        have hk6 : (k != 6) = true := by simpa using h6
        clear hst
        go_wp2_with (at_builtin; (refine wpList_append_at _ rfl (.tmp 15) (.tmp 17) 23 rfl w.heap.size 50 i0 (.agg #[.int .u8 0, .int .i64 0, .int .i64 0]) 3 24 Tryz.underlying23 hi hz0 hz1 hz2 rfl (by decide) _ acc.length (flat acc) rfl ((HO.out.alloc _).alloc _) (some ⟨_, 0, none⟩) 1 1 [.int .u8 k, .int .i64 f, .int .i64 t] rfl rfl (fun h => by cases h) (fun ad had => by cases had; exact cells_new2 _ _ _ _) (fun u hu => by simp at hu; rcases hu with rfl | rfl | rfl <;> rfl) (by unfold maxLen; omega) (by omega) (by have := HB.out.size; simp; omega) ?_); intro v9 w9 ho9 hg9 _; have HO9 : Hid (w9.ownsRow w.heap.size 50 3 v9 (acc ++ [(⟨k, f, t⟩ : Tk)]).length (flat (acc ++ [(⟨k, f, t⟩ : Tk)]))) := (by unfold Hid; rw [flat_one, List.length_append]; exact ho9); have HB9 : Hid (Below w.heap.size w w9) := ((HB.out.alloc HB.out.size _).alloc (by have := HB.out.size; simp; omega) _).grown hg9 (by have := HB.out.size; simp; omega) (fun j hj => (HO.out.lt j hj).1); clear ho9 hg9)
        exact ⟨⟨i + 1, acc ++ [(⟨k, f, t⟩ : Tk)], by omega, by go_num, by simp; omega, HN.out, HO9.out, HB9.out⟩, by simp [intOf]; omega⟩
    · have hge : ¬ (i : Int) < (xs.length : Int) := by omega
      have HN : Hid (acc = nau xs) := by unfold Hid; rw [← HA.out, List.drop_of_length_le (by omega)]; simp [nau]
      go_wp2
      go_ret
      exact ⟨_, rfl, by rw [← HN.out]; exact HO.out, HB.out⟩

theorem unt_step {fr : Int} {xs : List Tk} {i : Nat} {q : Tk} (h : xs[i]? = some q) : unt fr (xs.drop i) = (if q.t + 2 > fr then [] else q :: unt fr (xs.drop (i + 1))) := by
  have hi := (List.getElem?_eq_some_iff.1 h).1
  have e := (List.getElem?_eq_some_iff.1 h).2
  rw [List.drop_eq_getElem_cons hi, e]
  rfl
theorem ute_step {fr a : Int} {xs : List Tk} {i : Nat} {q : Tk} (h : xs[i]? = some q) : ute fr a (xs.drop i) = (if q.t + 2 > fr then a else ute fr q.t (xs.drop (i + 1))) := by
  have hi := (List.getElem?_eq_some_iff.1 h).1
  have e := (List.getElem?_eq_some_iff.1 h).2
  rw [List.drop_eq_getElem_cons hi, e]
  rfl
set_option maxRecDepth 1000000 in
set_option maxHeartbeats 8000000 in
theorem untouchedL_any (a : Option Addr) (c : Nat) (xs : List Tk) (fr : Int) (w : World) (h : LiesA w a xs) (hl : xs.length ≤ 4398046510976) (hq : ∀ q ∈ xs, 0 ≤ q.t ∧ q.t ≤ 4294967296) :
    Calls Tryz.prog 45 #[.slice a xs.length c, .int .i64 fr] w fun e w' => ∃ v, e = .returned (.tuple #[v, .int .i64 (ute fr 0 xs)]) ∧ w'.ownsRow w.heap.size 50 3 v (unt fr xs).length (flat (unt fr xs)) ∧ Below w.heap.size w w' := by
  obtain ⟨i0, hi, hz0, hz1, hz2⟩ := info_parts infoTkR
  have HL : Hid (LiesA w a xs) := h
  have HQ : Hid (∀ q ∈ xs, 0 ≤ q.t ∧ q.t ≤ 4294967296) := hq
  clear h hq
  go_enter Tryz.func45, Tryz.ntmps45
  go_wp2
  go_loopw [6, 7, 12] (fun so sa si wr => ∃ (i : Nat) (at' : Int) (acc : List Tk), i ≤ xs.length ∧ si = .int .i64 (i : Int) ∧ sa = .int .i64 at' ∧ acc.length ≤ i ∧ acc ++ unt fr (xs.drop i) = unt fr xs ∧ ute fr at' (xs.drop i) = ute fr 0 xs ∧ wr.ownsRow w.heap.size 50 3 so acc.length (flat acc) ∧ Below w.heap.size w wr) (fun _ _ si _ => xs.length - (intOf si).toNat)
  case atStart => exact ⟨0, 0, [], Nat.zero_le _, rfl, rfl, by simp, rfl, rfl, World.ownsRow_nil _ _ _ _, Below.refl _ _⟩
  case round =>
    obtain ⟨i, at', acc, hil, rfl, rfl, hal, hacc, hat, hown, hbel⟩ := hrel
    have HA : Hid (acc ++ unt fr (xs.drop i) = unt fr xs) := hacc
    have HT : Hid (ute fr at' (xs.drop i) = ute fr 0 xs) := hat
    have HO : Hid (wr.ownsRow w.heap.size 50 3 u6 acc.length (flat acc)) := hown
    have HB : Hid (Below w.heap.size w wr) := hbel
    clear hacc hown hbel hat
    by_cases hlt : i < xs.length
    · have hlt' : (i : Int) < (xs.length : Int) := by omega
      obtain ⟨⟨k, f, t⟩, hqi⟩ : ∃ q, xs[i]? = some q := ⟨_, List.getElem?_eq_getElem hlt⟩
      obtain ⟨g, o, rfl, hlg⟩ : ∃ g o, a = some ⟨g, o, none⟩ ∧ Lies w g o xs := by
        rcases HL.out with h | ⟨g, o, h1, h2⟩
        · rw [h] at hlt; simp at hlt
        · exact ⟨g, o, h1, h2⟩
      have hgr : g < wr.heap.size := by have := HB.out.size; have := hlg.1; omega
      obtain ⟨c0, c1, c2⟩ := hlg.tk HB.out hqi
      obtain ⟨t1, t2⟩ := HQ.out _ (List.mem_of_getElem? hqi)
      simp only at c0 c1 c2 t1 t2
      have hst := unt_step (fr := fr) hqi
      have hsu := ute_step (fr := fr) (a := at') hqi
      simp only at hst hsu
      clear hlg
      by_cases hgt : t + 2 > fr
      · rw [if_pos hgt] at hst hsu
        have HN : Hid (acc = unt fr xs) := by unfold Hid; rw [← HA.out, hst]; simp
        have HM : Hid (at' = ute fr 0 xs) := by unfold Hid; rw [← HT.out, hsu]
        clear hst hsu
        go_wp2
        go_ret2
        exact ⟨u6, by rw [← HM.out]; rfl, by rw [← HN.out]; exact HO.out.alloc _, HB.out.alloc HB.out.size _⟩
      · rw [if_neg hgt] at hst hsu
        have HN : Hid ((acc ++ [(⟨k, f, t⟩ : Tk)]) ++ unt fr (xs.drop (i + 1)) = unt fr xs) := by unfold Hid; rw [← HA.out, hst]; simp
        have HM : Hid (ute fr t (xs.drop (i + 1)) = ute fr 0 xs) := by unfold Hid; rw [← HT.out, hsu]
        clear hst hsu
        go_wp2_with (at_builtin; (refine wpList_append_at _ rfl (.tmp 21) (.tmp 23) 23 rfl w.heap.size 50 i0 (.agg #[.int .u8 0, .int .i64 0, .int .i64 0]) 3 24 Tryz.underlying23 hi hz0 hz1 hz2 rfl (by decide) _ acc.length (flat acc) rfl ((HO.out.alloc _).alloc _) (some ⟨_, 0, none⟩) 1 1 [.int .u8 k, .int .i64 f, .int .i64 t] rfl rfl (fun h => by cases h) (fun ad had => by cases had; exact cells_new2 _ _ _ _) (fun u hu => by simp at hu; rcases hu with rfl | rfl | rfl <;> rfl) (by unfold maxLen; omega) (by omega) (by have := HB.out.size; simp; omega) ?_); intro v9 w9 ho9 hg9 _; have HO9 : Hid (w9.ownsRow w.heap.size 50 3 v9 (acc ++ [(⟨k, f, t⟩ : Tk)]).length (flat (acc ++ [(⟨k, f, t⟩ : Tk)]))) := (by unfold Hid; rw [flat_one, List.length_append]; exact ho9); have HB9 : Hid (Below w.heap.size w w9) := ((HB.out.alloc HB.out.size _).alloc (by have := HB.out.size; simp; omega) _).grown hg9 (by have := HB.out.size; simp; omega) (fun j hj => (HO.out.lt j hj).1); have X5 := ((Bx.new wr #[.int .u8 k, .int .i64 f, .int .i64 t] 50).alloc (.cells #[.int .u8 k, .int .i64 f, .int .i64 t] 50)); have X9 : Bx w9 wr.heap.size #[.int .u8 k, .int .i64 f, .int .i64 t] 50 := (hg9.block wr.heap.size X5.lt (fun e => by have := (HO.out.lt _ e.symm).2; omega)).trans X5; have y2 : w9.cell? ⟨wr.heap.size, 2, none⟩ = some (.int .i64 t) := X9.cell 2; have y3 := X9.lt; clear ho9 hg9 X5 X9)
        exact ⟨⟨i + 1, t, acc ++ [(⟨k, f, t⟩ : Tk)], by omega, by go_num, rfl, by simp; omega, HN.out, HM.out, HO9.out, HB9.out⟩, by simp [intOf]; omega⟩
    · have hge : ¬ (i : Int) < (xs.length : Int) := by omega
      have HN : Hid (acc = unt fr xs) := by unfold Hid; rw [← HA.out, List.drop_of_length_le (by omega)]; simp [unt]
      have HM : Hid (at' = ute fr 0 xs) := by unfold Hid; rw [← HT.out, List.drop_of_length_le (by omega)]; rfl
      go_wp2
      go_ret2
      exact ⟨u6, by rw [← HM.out]; rfl, by rw [← HN.out]; exact HO.out, HB.out⟩
end Go.Proofs.YtmnbakalcpanlaaGreatDoor
