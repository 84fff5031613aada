import Derived.Test.YtgijcbipnjmhgabFa0
import Derived.BigQuiet
namespace Go.Proofs.Ytgijcbipnjmhgab
open Go.ChangeShapes Go.WideShapes Go.ChangeAt Go.RowKit
set_option linter.unusedVariables false
set_option linter.unusedSimpArgs false

theorem nanI_any (x : Int) (w : World) : Calls Try.prog 59 #[.int .i64 x] w fun e w' => e = .returned (.bool false) ∧ w' = w := by
  go_enter Try.func59, Try.ntmps59
  go_wp2
  go_ret
  exact ⟨rfl, rfl⟩
/-- cmp.Compare's answer -/
def cmpI (x y : Int) : Int := if x < y then -1 else if y < x then 1 else 0
theorem compare_any (x y : Int) (w : World) : Calls Try.prog 45 #[.int .i64 x, .int .i64 y] w fun e w' => e = .returned (.int .i64 (cmpI x y)) ∧ w' = w := by
  by_cases h1 : x < y
  · have hc : cmpI x y = -1 := if_pos h1
    rw [hc]
    clear hc
    go_enter Try.func45, Try.ntmps45
    go_wp2_with (go_at_call 59; (with_reducible refine (nanI_any _ _).mono ?_); rintro e w2 ⟨rfl, rfl⟩)
    go_ret
    exact ⟨rfl, rfl⟩
  · by_cases h2 : y < x
    · have hc : cmpI x y = 1 := by unfold cmpI; rw [if_neg h1, if_pos h2]
      rw [hc]
      clear hc
      go_enter Try.func45, Try.ntmps45
      go_wp2_with (go_at_call 59; (with_reducible refine (nanI_any _ _).mono ?_); rintro e w2 ⟨rfl, rfl⟩)
      go_ret
      exact ⟨rfl, rfl⟩
    · have hc : cmpI x y = 0 := by unfold cmpI; rw [if_neg h1, if_neg h2]
      rw [hc]
      clear hc
      go_enter Try.func45, Try.ntmps45
      go_wp2_with (go_at_call 59; (with_reducible refine (nanI_any _ _).mono ?_); rintro e w2 ⟨rfl, rfl⟩)
      go_ret
      exact ⟨rfl, rfl⟩
/-- the distances as they are captured: a box that holds the row -/
structure Cf2 (B bF gF n : Nat) (F : Nat → Nat) (w : World) : Prop where
  lb : bF < B
  lg : gF < B
  box : w.cell? ⟨bF, 0, none⟩ = some (.slice (some ⟨gF, 0, none⟩) n n)
  get : ∀ y, y < n → w.cell? ⟨gF, y, none⟩ = some (.int .i64 (F y : Int))
theorem Cf2.below {B bF gF n : Nat} {F : Nat → Nat} {w w' : World} (h : Cf2 B bF gF n F w) (hb : Below B w w') : Cf2 B bF gF n F w' :=
  ⟨h.lb, h.lg, (hb.cell (p := ⟨bF, 0, none⟩) h.lb).trans h.box, fun y hy => (hb.cell (p := ⟨gF, y, none⟩) h.lg).trans (h.get y hy)⟩
set_option maxRecDepth 1000000 in
theorem nearer_any (B bF gF n x y : Nat) (F : Nat → Nat) (w : World) (h : Cf2 B bF gF n F w) (hx : x < n) (hy : y < n) : Calls Try.prog 44 #[.int .i32 (x : Int), .int .i32 (y : Int), .pointer (some ⟨bF, 0, none⟩)] w fun e w' => e = .returned (.int .i64 (cmpI (F x) (F y))) ∧ Below w.heap.size w w' := by
  have cb := h.box
  have cx := h.get x hx
  have cy := h.get y hy
  have hx0 : (0 : Int) ≤ (x : Int) := by omega
  have hy0 : (0 : Int) ≤ (y : Int) := by omega
  have hx1 : (x : Int) < (n : Int) := by omega
  have hy1 : (y : Int) < (n : Int) := by omega
  clear h
  go_enter Try.func44, Try.ntmps44
  go_upto_region 1 with fail
  go_quiet (first | (go_at_call 45; with_reducible exact Calls.quiet_of_same (compare_any _ _ _)))
  go_wp2
  go_ret
  exact ⟨rfl, ⟨rfl, rfl, rfl, Nat.le_refl _, fun _ _ => rfl⟩⟩
/-- the first of the nearest among the first k -/
structure Mf (F : Nat → Nat) (l : List Int) (k m : Nat) : Prop where
  mem : (m : Int) ∈ l.take k
  min : ∀ z : Nat, (z : Int) ∈ l.take k → F m ≤ F z ∧ (F z = F m → m ≤ z)
theorem Mf.step {F : Nat → Nat} {l : List Int} {k m x : Nat} (h : Mf F l k m) (hl : l.Pairwise (· < ·)) (hx : l[k]? = some (x : Int)) : Mf F l (k + 1) (if cmpI (F x) (F m) < 0 then x else m) := by
  obtain ⟨hk, ek⟩ := List.getElem?_eq_some_iff.1 hx
  have hmem : ∀ z : Int, z ∈ l.take (k + 1) ↔ z ∈ l.take k ∨ z = (x : Int) := fun z => by rw [List.take_succ_eq_append_getElem hk, List.mem_append, List.mem_singleton, ek]
  have hlt : m < x := by
    obtain ⟨i, hi⟩ := List.getElem?_of_mem h.mem
    have hik : i < k := by
      have := (List.getElem?_eq_some_iff.1 hi).1
      rw [List.length_take] at this
      omega
    rw [List.getElem?_take, if_pos hik] at hi
    obtain ⟨l1, e1⟩ := List.getElem?_eq_some_iff.1 hi
    have := List.pairwise_iff_getElem.1 hl i k l1 hk hik
    rw [e1, ek] at this
    omega
  have hc : cmpI (F x) (F m) < 0 ↔ F x < F m := by
    unfold cmpI
    by_cases h1 : (F x : Int) < (F m : Int)
    · rw [if_pos h1]; omega
    · rw [if_neg h1]
      by_cases h2 : (F m : Int) < (F x : Int)
      · rw [if_pos h2]; omega
      · rw [if_neg h2]; omega
  by_cases hcc : F x < F m
  · rw [if_pos (hc.2 hcc)]
    refine ⟨(hmem _).2 (.inr rfl), fun z hz => ?_⟩
    rcases (hmem _).1 hz with hz | hz
    · have := (h.min z hz).1
      omega
    · have e : z = x := by omega
      subst e
      exact ⟨Nat.le_refl _, fun _ => Nat.le_refl _⟩
  · rw [if_neg (fun e => hcc (hc.1 e))]
    refine ⟨(hmem _).2 (.inl h.mem), fun z hz => ?_⟩
    rcases (hmem _).1 hz with hz | hz
    · exact h.min z hz
    · have e : z = x := by omega
      subst e
      omega
theorem Mf.first (F : Nat → Nat) {l : List Int} {x : Nat} (hx : l[0]? = some (x : Int)) : Mf F l 1 x := by
  obtain ⟨hk, ek⟩ := List.getElem?_eq_some_iff.1 hx
  have e : l.take 1 = [(x : Int)] := by rw [List.take_succ_eq_append_getElem hk, ek]; rfl
  refine ⟨by rw [e]; simp, fun z hz => ?_⟩
  rw [e, List.mem_singleton] at hz
  have e : z = x := by omega
  subst e
  exact ⟨Nat.le_refl _, fun _ => Nat.le_refl _⟩
set_option maxRecDepth 1000000 in
set_option maxHeartbeats 2000000 in
theorem minFunc_any (B bF gF n g c : Nat) (F : Nat → Nat) (l : List Int) (w : World) (hB : B ≤ w.heap.size) (h : Cf2 B bF gF n F w) (hg : g < B) (hcell : ∀ (j : Nat) y, l[j]? = some y → w.cell? ⟨g, j, none⟩ = some (.int .i32 y)) (hl : l.Pairwise (· < ·)) (hr : ∀ y ∈ l, 0 ≤ y ∧ y < (n : Int)) (h0 : l ≠ []) (hn : n ≤ 131072) :
    Calls Try.prog 43 #[.slice (some ⟨g, 0, none⟩) l.length c, .func (.func 44) #[] #[.pointer (some ⟨bF, 0, none⟩)]] w fun e w' => Below w.heap.size w w' ∧ ∃ m : Nat, e = .returned (.int .i32 (m : Int)) ∧ Mf F l l.length m := by
  have hln := nodup_le (pw_nodup hl) hr
  obtain ⟨k1, hk1⟩ : ∃ k1, l.length = k1 + 1 := ⟨l.length - 1, by have := List.length_pos_iff.2 h0; omega⟩
  obtain ⟨x0, hx0⟩ : ∃ x0, l[0]? = some x0 := ⟨_, List.getElem?_eq_getElem (by omega)⟩
  have hr0 := hr x0 (List.mem_of_getElem? hx0)
  obtain ⟨x0, rfl⟩ : ∃ x : Nat, x0 = (x : Int) := ⟨x0.toNat, by omega⟩
  have c0 := hcell 0 _ hx0
  have M1 := hidH (Mf.first F hx0)
  have HL := hidH hl
  have HR := hidH hr
  have HC := hidH hcell
  have HF := hidH h
  have HK := hidH hk1
  have hl1 : ¬ ((k1 : Int) + 1 < 1) := by omega
  rw [hk1]
  clear hl hr hcell h h0 hx0
  go_enter Try.func43, Try.ntmps43
  go_wp2
  go_loopg [5, 6] k1 (fun gk s5 s6 wr => ∃ i m : Nat, gk = k1 + 1 - i ∧ s5 = .int .i32 (m : Int) ∧ s6 = .int .i64 (i : Int) ∧ 1 ≤ i ∧ i ≤ k1 + 1 ∧ Mf F l i m ∧ Below w.heap.size w wr)
  case atStart => exact ⟨1, x0, by omega, rfl, rfl, Nat.le_refl _, by omega, M1.out, Below.refl _ _⟩
  case round =>
    clear M1 c0
    obtain ⟨i, m, hgk, rfl, rfl, hi1, hi2, hM, hE⟩ := hrel
    have MM := hidH hM
    have EE := hidH hE
    clear hM hE
    by_cases hik : i < k1 + 1
    · have hik' : (i : Int) < (k1 : Int) + 1 := by omega
      have ki : IntKind.i64.wrap ((i : Int) + 1) = ((i + 1 : Nat) : Int) := by rw [IntWalk.i64_in _ ⟨by omega, by omega⟩]; omega
      obtain ⟨x, hx⟩ : ∃ x, l[i]? = some x := ⟨_, List.getElem?_eq_getElem (by rw [HK.out]; exact hik)⟩
      have hrx := HR.out x (List.mem_of_getElem? hx)
      obtain ⟨x, rfl⟩ : ∃ y : Nat, x = (y : Int) := ⟨x.toNat, by omega⟩
      have hrm := HR.out (m : Int) (List.mem_of_mem_take MM.out.mem)
      have cx := (EE.out.cell (p := ⟨g, i, none⟩) (by show g < _; omega)).trans (HC.out i _ hx)
      have C1 := hidH (nearer_any B bF gF n x m F wr (HF.out.below (EE.out.mono hB)) (by omega) (by omega))
      have M2 := hidH (MM.out.step HL.out hx)
      obtain ⟨cc, hcc⟩ : ∃ cc, cmpI (F x) (F m) = cc := ⟨_, rfl⟩
      rw [hcc] at C1 M2
      clear hx hrx hrm hcc
      by_cases hc0 : cc < 0
      · rw [if_pos hc0] at M2
        go_wp2_with (go_at_call 44; (with_reducible refine C1.out.mono ?_); clear C1; rintro e v1 ⟨rfl, hb1⟩; have cx1 := (hb1.cell (p := ⟨g, i, none⟩) (by show g < _; have := EE.out.size; omega)).trans cx; have E1 := hidH (EE.out.trans (hb1.mono EE.out.size)); clear hb1)
        go_roundg (k1 + 1 - (i + 1))
        case measure => omega
        case rel => exact ⟨i + 1, x, rfl, rfl, rfl, by omega, by omega, M2.out, E1.out⟩
      · rw [if_neg hc0] at M2
        go_wp2_with (go_at_call 44; (with_reducible refine C1.out.mono ?_); clear C1; rintro e v1 ⟨rfl, hb1⟩; have E1 := hidH (EE.out.trans (hb1.mono EE.out.size)); clear hb1)
        go_roundg (k1 + 1 - (i + 1))
        case measure => omega
        case rel => exact ⟨i + 1, m, rfl, rfl, rfl, by omega, by omega, M2.out, E1.out⟩
    · have hik' : ¬ (i : Int) < (k1 : Int) + 1 := by omega
      have hi3 : i = k1 + 1 := by omega
      go_wp2
      go_ret
      exact ⟨EE.out, m, rfl, by have h9 := MM.out; rw [hi3] at h9; exact h9⟩
/-- the captured lists: a box that holds the row of rows -/
structure Cn2 (B bN gV n : Nat) (N : Nat → List Int) (w : World) : Prop where
  lb : bN < B
  box : w.cell? ⟨bN, 0, none⟩ = some (.slice (some ⟨gV, 0, none⟩) n n)
  rl : Rl B w gV n N
theorem Cn2.below {B bN gV n : Nat} {N : Nat → List Int} {w w' : World} (h : Cn2 B bN gV n N w) (hb : Below B w w') : Cn2 B bN gV n N w' :=
  ⟨h.lb, (hb.cell (p := ⟨bN, 0, none⟩) h.lb).trans h.box, h.rl.below hb⟩
set_option maxRecDepth 1000000 in
set_option maxHeartbeats 2000000 in
theorem nearest_any (B bN gV bF gF n x : Nat) (F : Nat → Nat) (N : Nat → List Int) (w : World) (hB : B ≤ w.heap.size) (hN : Cn2 B bN gV n N w) (hF : Cf2 B bF gF n F w) (hx : x < n) (hl : (N x).Pairwise (· < ·)) (hr : ∀ y ∈ N x, 0 ≤ y ∧ y < (n : Int)) (h0 : N x ≠ []) (hn : n ≤ 131072) :
    Calls Try.prog 42 #[.int .i64 (x : Int), .pointer (some ⟨bN, 0, none⟩), .pointer (some ⟨bF, 0, none⟩)] w fun e w' => Below w.heap.size w w' ∧ ∃ m : Nat, e = .returned (.int .i64 (m : Int)) ∧ Mf F (N x) (N x).length m := by
  have hmf : ∀ (fn : Fn) (first cap : Array Value) (w : World), (Instr.makeFunc fn first cap).run Try.prog w = .ok (.func fn first cap) w := fun _ _ _ _ => rfl
  have hx1 : (x : Int) < (n : Int) := by omega
  obtain ⟨a, c, c1, hrow⟩ := hN.rl.row x hx
  obtain ⟨g, rfl, hg, hcell⟩ := hrow (List.length_pos_iff.2 h0)
  have cb := hN.box
  have CM := hidH (minFunc_any B bF gF n g c F (N x) w hB hF hg hcell hl hr h0 hn)
  have HR := hidH hr
  obtain ⟨r, hrr⟩ : ∃ r, (N x).length = r := ⟨_, rfl⟩
  rw [hrr] at c1 CM ⊢
  clear hN hF hl hr h0 hrow hcell
  go_enter Try.func42, Try.ntmps42
  go_upto_region 1 with fail
  go_wp2_with (go_at_call 43; (with_reducible refine CM.out.mono ?_); clear CM; rintro e v1 ⟨hb1, m, rfl, hM⟩; have km : IntKind.i64.wrap (m : Int) = (m : Int) := (by rw [IntWalk.i64_in _ (by have := HR.out _ (List.mem_of_mem_take hM.mem); exact ⟨by omega, by omega⟩)]); have HB := hidH hb1; have HM := hidH hM; clear hb1 hM)
  go_ret
  exact ⟨HB.out, m, rfl, HM.out⟩
end Go.Proofs.Ytgijcbipnjmhgab

namespace Go.Proofs.Ytgijcbipnjmhgab
open Go.ChangeShapes Go.WideShapes Go.ChangeAt Go.RowKit
set_option linter.unusedVariables false
set_option linter.unusedSimpArgs false

/-- a row of numbers of 32 bits that is read -/
def R32 (w : World) (a : Option Addr) (xs : List Int) : Prop := 0 < xs.length → ∃ g, a = some ⟨g, 0, none⟩ ∧ ∀ (j : Nat) y, xs[j]? = some y → w.cell? ⟨g, j, none⟩ = some (.int .i32 y)
set_option maxRecDepth 1000000 in
set_option maxHeartbeats 1000000 in
theorem index32_any (a : Option Addr) (cap : Nat) (xs : List Int) (v : Int) (w : World) (h : R32 w a xs) (hl : xs.length ≤ 131072) :
    Calls Try.prog 64 #[.slice a xs.length cap, .int .i32 v] w fun e w' => (∃ i : Int, e = .returned (.int .i64 i) ∧ decide (0 ≤ i) = xs.contains v) ∧ w' = w := by
  have H := hidH h
  clear h
  go_enter Try.func64, Try.ntmps64
  go_wp2
  go_loopw [8] (fun i wr => ∃ k : Nat, k ≤ xs.length ∧ i = .int .i64 (k : Int) ∧ wr = w ∧ v ∉ xs.take k) (fun i _ => xs.length - (intOf i).toNat)
  case atStart => exact ⟨0, by omega, rfl, rfl, by simp⟩
  case round =>
    obtain ⟨k, hk, rfl, rfl, hno⟩ := hrel
    have HNO := hidH hno
    clear hno
    by_cases hkl : k < xs.length
    · obtain ⟨y, hy⟩ : ∃ y, xs[k]? = some y := ⟨_, List.getElem?_eq_getElem hkl⟩
      obtain ⟨g, rfl, hc⟩ := H.out (by omega)
      have d0 := hc k y hy
      have HY := hidH hy
      have hk1 : (k : Int) < (xs.length : Int) := by omega
      clear hy hc
      by_cases hv : v = y
      · subst hv
        have HC : Hid (xs.contains v = true) := List.contains_iff_mem.2 (List.mem_of_getElem? HY.out)
        go_wp2
        go_ret
        exact ⟨⟨k, rfl, by rw [HC.out]; simp⟩, rfl⟩
      · have HV := hidH hv
        go_wp2
        go_roundw
        case rel =>
          refine ⟨k + 1, by omega, by simp, by trivial, ?_⟩
          rw [List.take_add_one, HY.out]
          intro hm
          rcases List.mem_append.1 hm with hm | hm
          · exact HNO.out hm
          · simp at hm; exact HV.out hm
        case measure => simp [intOf]; omega
    · have hke : k = xs.length := by omega
      subst hke
      have HC : Hid (xs.contains v = false) := by
        unfold Hid
        rw [Bool.eq_false_iff]
        intro hm
        exact HNO.out (by rw [List.take_length]; exact List.contains_iff_mem.1 hm)
      go_wp2
      go_ret
      exact ⟨⟨-1, rfl, by rw [HC.out]; rfl⟩, rfl⟩
theorem contains32_any (a : Option Addr) (cap : Nat) (xs : List Int) (v : Int) (w : World) (h : R32 w a xs) (hl : xs.length ≤ 131072) :
    Calls Try.prog 58 #[.slice a xs.length cap, .int .i32 v] w fun e w' => e = .returned (.bool (xs.contains v)) ∧ w' = w := by
  have H := hidH h
  clear h
  go_enter Try.func58, Try.ntmps58
  go_wp2_with (go_at_call 64; refine (index32_any a cap xs v _ H.out hl).mono ?_; rintro e w' ⟨⟨i, rfl, hi⟩, rfl⟩; have HI : Hid (decide (0 ≤ i) = xs.contains v) := hi; clear hi)
  go_ret
  exact ⟨congrArg (fun b => Ending.returned (.bool b)) HI.out, rfl⟩
theorem Rl.r32 {B gV n x : Nat} {w : World} {N : Nat → List Int} (h : Rl B w gV n N) (hx : x < n) : ∃ a c, w.cell? ⟨gV, x, none⟩ = some (.slice a (N x).length c) ∧ R32 w a (N x) := by
  obtain ⟨a, c, h1, h2⟩ := h.row x hx
  exact ⟨a, c, h1, fun h0 => by obtain ⟨g, e, -, h3⟩ := h2 h0; exact ⟨g, e, h3⟩⟩
theorem cnO_set {lw : Nat → Nat} {n k l : Nat} (hl : l < n) (e : lw k = l) (hne : l ≠ k) : (fL n (cnO lw k)).set l ((cnO lw k l + 1 : Nat) : Int) = fL n (cnO lw (k + 1)) := by
  rw [fL_set _ hl]
  refine fL_congr fun z hz => ?_
  rw [cnO_succ]
  by_cases h : z = l
  · subst h; rw [if_pos rfl, if_pos ⟨e, fun e2 => hne e2.symm⟩]
  · rw [if_neg h, if_neg (fun e2 => h (e2.1.symm.trans e))]; rfl
theorem cnO_still {lw : Nat → Nat} {n k : Nat} (e : lw k = k) : fL n (cnO lw (k + 1)) = fL n (cnO lw k) :=
  fL_congr fun z hz => by rw [cnO_succ, if_neg (fun e2 => e2.2 (by rw [← e2.1, e])), Nat.add_zero]
set_option maxRecDepth 1000000 in
set_option maxHeartbeats 2000000 in
theorem onCycle_any (gV gL n cL : Nat) (N : Nat → List Int) (lw : Nat → Nat) (ps : List Pr) (w : World) (hN : Rl w.heap.size w gV n N) (hLs : LstR n ps N) (hL : Rr1 w.heap.size w gL n lw) (hW : Lws ps n lw) (hex : ∃ x, OnC ps x) (hn : n ≤ 131072) :
    Calls Try.prog 40 #[.slice (some ⟨gV, 0, none⟩) n n, .slice (some ⟨gL, 0, none⟩) n cL] w fun e w' => Below w.heap.size w w' ∧ ∃ f : Nat, e = .returned (.int .i64 (f : Int)) ∧ f < n ∧ Fst ps f := by
  obtain ⟨i0, hi0, hz0, hz1, hz2⟩ := info_parts infoIntH
  have hlen : ∀ x, x < n → (N x).length ≤ 131072 := fun x hx => Nat.le_trans (nodup_le (pw_nodup (hLs x hx).1) (fun y hy => (hW.rng _ (((hLs x hx).2 y).1 hy)).2)) hn
  obtain ⟨s0, hs0, hs1⟩ : ∃ s0, Stp ps lw n s0 ∧ s0 < n := by
    obtain ⟨x, hx⟩ := hex
    obtain ⟨z, -, hz⟩ := hx.stp hW
    obtain ⟨u, he, -⟩ := hz.onc hW
    exact ⟨z, hz, (hW.edge he).1⟩
  have HN := hidH hN
  have HLS := hidH hLs
  have HL := hidH hL
  have HW := hidH hW
  have HLEN := hidH hlen
  have HS0 := hidH hs0
  obtain ⟨B, hB⟩ : ∃ B, w.heap.size = B := ⟨_, rfl⟩
  rw [hB] at HN HL
  clear hN hLs hL hW hlen hs0 hex
  go_enter Try.func40, Try.ntmps40
  go_wp2_with (at_make; refine wpList_make_full _ rfl _ _ 24 rfl B 3 i0 (.int .i64 0) 1 Try.underlying24 hi0 hz0 hz1 _ _ _ _ n rfl rfl rfl rfl (by rw [hz2]; omega) (by unfold maxLen; omega) (by omega) ?_; intro v1 hown1 hgr1; rw [hB] at hown1 ⊢; have O1 : Hid (v1.ownsRow B 3 1 (.slice (some ⟨B, 0, none⟩) n n) n (flat (fL n (cnO lw 0)))) := (by rw [show (Value.int .i64 0).cells = #[.int .i64 0] by rfl, rep_made] at hown1; unfold Hid; rw [show fL n (cnO lw 0) = fL n (fun _ => 0) from fL_congr (fun y _ => rfl), ← fL_rep n 0]; rw [show flat (List.replicate n ((0 : Nat) : Int)) = List.replicate n (Value.int .i64 0) by rw [flat_ints, List.map_replicate]; rfl]; exact hown1); have E1 : Hid (Below B w v1) := ((Below.refl _ _).grown hgr1 (by omega) (fun k h => by cases h)); clear hown1 hgr1)
  go_loopg [14] n (fun gk si wr => ∃ k : Nat, gk = n - k ∧ si = .int .i64 (k : Int) ∧ k ≤ n ∧ wr.ownsRow B 3 1 (.slice (some ⟨B, 0, none⟩) n n) n (flat (fL n (cnO lw k))) ∧ Below B w wr)
  case atStart => exact ⟨0, rfl, rfl, Nat.zero_le _, O1.out, E1.out⟩
  case round =>
    clear O1 E1
    obtain ⟨k, hgk, rfl, hk, hO, hE⟩ := hrel
    have O1 := hidH hO
    have E1 := hidH hE
    clear hO hE
    by_cases hkn : k < n
    · have hkn' : (k : Int) < (n : Int) := by omega
      have kk : IntKind.i64.wrap ((k : Int) + 1) = ((k + 1 : Nat) : Int) := by rw [IntWalk.i64_in _ ⟨by omega, by omega⟩]; omega
      have cl := (HL.out.below E1.out).2 k hkn
      have hln := HW.out.lt hkn
      obtain ⟨l, hl⟩ : ∃ l, lw k = l := ⟨_, rfl⟩
      have HLK := hidH hl
      rw [hl] at cl hln
      have hln' : (l : Int) < (n : Int) := by omega
      clear hl
      by_cases hlk : l = k
      · subst hlk
        go_wp2
        go_roundg (n - (l + 1))
        case measure => omega
        case rel => exact ⟨l + 1, rfl, rfl, by omega, by rw [cnO_still HLK.out]; exact O1.out, E1.out⟩
      · have hlk1 : ((l : Int) == (k : Int)) = false := by rw [beq_eq_false_iff_ne]; omega
        have hlk2 : ¬ (l : Int) = (k : Int) := by omega
        obtain ⟨cO, fO⟩ := row_cell O1.out (fL_get _ hln)
        have hcl := cnO_le lw k l
        obtain ⟨v, hv⟩ : ∃ v, cnO lw k l = v := ⟨_, rfl⟩
        have HV := hidH hv
        rw [hv] at cO hcl
        have kv : IntKind.i64.wrap ((v : Int) + 1) = (v : Int) + 1 := by rw [IntWalk.i64_in _ ⟨by omega, by omega⟩]
        have O2 : Hid ((wr.setCell ⟨B, l, none⟩ (.int .i64 ((v : Int) + 1))).ownsRow B 3 1 (.slice (some ⟨B, 0, none⟩) n n) n (flat (fL n (cnO lw (k + 1))))) := by
          have h1 := (World.ownsRow.stored O1.out l (.int .i64 ((cnO lw k l + 1 : Nat) : Int))).1
          rw [flat_setI, cnO_set hln HLK.out hlk, HV.out] at h1
          exact h1
        have E2 := hidH (E1.out.setCell (p := ⟨B, l, none⟩) (Nat.le_refl _) (.int .i64 ((v : Int) + 1)))
        clear hv
        go_wp2
        go_roundg (n - (k + 1))
        case measure => omega
        case rel => exact ⟨k + 1, rfl, rfl, by omega, O2.out, E2.out⟩
    · have hkn' : ¬ (k : Int) < (n : Int) := by omega
      have hk2 : k = n := by omega
      subst hk2
      obtain ⟨wA, hwA⟩ : ∃ wA, wA = wr := ⟨wr, rfl⟩
      subst hwA
      go_wp2
      go_loopg [8] k (fun gk s8 wq => ∃ x : Nat, gk = k - x ∧ s8 = .int .i64 (x : Int) ∧ (∀ y, y < x → ¬ Stp ps lw k y) ∧ wq = wA)
      case atStart => exact ⟨0, rfl, rfl, fun y hy => by omega, rfl⟩
      case round =>
        obtain ⟨x, hgk2, rfl, hno, rfl⟩ := hrel
        have HNO := hidH hno
        have hxk : x < k := by
          by_cases h : s0 < x
          · exact absurd HS0.out (hno s0 h)
          · omega
        have hxk' : (x : Int) < (k : Int) := by omega
        have kx : IntKind.i64.wrap ((x : Int) + 1) = ((x + 1 : Nat) : Int) := by rw [IntWalk.i64_in _ ⟨by omega, by omega⟩]; omega
        have kx2 : IntKind.i32.wrap (x : Int) = (x : Int) := by simp [IntKind.wrap, IntKind.bits, IntKind.signed]; omega
        obtain ⟨cO, fO⟩ := row_cell O1.out (fL_get _ hxk)
        obtain ⟨c, hc⟩ : ∃ c, cnO lw k x = c := ⟨_, rfl⟩
        have HC := hidH hc
        rw [hc] at cO
        clear hno hc
        by_cases hc0 : c = 0
        · subst hc0
          obtain ⟨a, cp, c1, h32⟩ := (HN.out.below E1.out).r32 hxk
          have CC := hidH (contains32_any a cp (N x) (x : Int) wr h32 (HLEN.out x hxk))
          obtain ⟨t, ht⟩ : ∃ t, (N x).contains (x : Int) = t := ⟨_, rfl⟩
          have HT := hidH ht
          obtain ⟨r, hr⟩ : ∃ r, (N x).length = r := ⟨_, rfl⟩
          rw [hr] at c1 CC
          rw [ht] at CC
          clear ht hr h32
          cases t with
          | true =>
            have HF := hidH (stp_fst HW.out (.inr (((HLS.out x hxk).2 _).1 (List.contains_iff_mem.1 HT.out))) HNO.out)
            go_wp2_with (go_at_call 58; (with_reducible refine CC.out.mono ?_); clear CC; rintro e v1 ⟨rfl, hvv⟩; subst hvv)
            go_ret
            exact ⟨by rw [hB]; exact E1.out, x, rfl, hxk, HF.out⟩
          | false =>
            have NX : Hid (¬ Stp ps lw k x) := stp_iff.2 ⟨HC.out, fun he => by have h9 := HT.out; rw [Bool.eq_false_iff] at h9; exact h9 (List.contains_iff_mem.2 (((HLS.out x hxk).2 _).2 he))⟩
            go_wp2_with (go_at_call 58; (with_reducible refine CC.out.mono ?_); clear CC; rintro e v1 ⟨rfl, hvv⟩; subst hvv)
            go_roundg (k - (x + 1))
            case measure => omega
            case rel => exact ⟨x + 1, rfl, rfl, fun y hy => by by_cases e : y = x; (subst e; exact NX.out); exact HNO.out y (by omega), rfl⟩
        · have hc1 : ((c : Int) == 0) = false := by rw [beq_eq_false_iff_ne]; omega
          have hc2 : ¬ (c : Int) = 0 := by omega
          have HF : Hid (Fst ps x) := stp_fst HW.out (Classical.byContradiction fun h => hc0 (HC.out.symm.trans (stp_iff.1 h).1)) HNO.out
          go_wp2
          go_ret
          exact ⟨by rw [hB]; exact E1.out, x, rfl, hxk, HF.out⟩
end Go.Proofs.Ytgijcbipnjmhgab
