import Derived.Test.YteolfolkolpehaaDoorPr
import Derived.Deep.RegionHeld3
import Derived.Deep.AppendLies
import Derived.Deep.DrawnRows
import Derived.Deep.DeepCutAuto
import Derived.Test.YteolfolkolpehaaDoorSh
namespace Go.Proofs.YteolfolkolpehaaDoor
open Go.ChangeShapes Go.WideShapes Go.ChangeAt Go.RowKit
set_option linter.unusedVariables false

/-- a string appended to a row of bytes, at a step of a region that draws -/
theorem step_append_str {P : Program} {w : World} {ops : Array Oper} {o : Oper} {a : Act} {K : Act → World → Prop} {Q : Exit → Act → World → Prop} {E : Prop} (hgd : o.guard = none) (sl x : Operand) (t u : TypeId)
    (ho : o.op = .call { callee := .builtin .append, args := #[sl, x], argTypes := #[t, u] })
    (base : Nat) (e : TypeId) (i : TypeInfo) (ht : P.underlying t = some (.slice e)) (hu : P.underlying u = some .string) (hi : P.info? e = some i) (hz : i.zero = some (.int .u8 0))
    (hsize : i.size = 1) (hby : i.bytes = 1)
    (v : Value) (n : Nat) (xs : List Value) (hs : a.eval sl = v) (hown : w.ownsRow base e 1 v n xs) (s : ByteArray) (hx : a.eval x = .string s)
    (h63 : n + s.size ≤ maxLen) (hbytes : n + s.size ≤ 140737488355328) (hbase : base ≤ w.heap.size)
    (h : ∀ v' w', w'.ownsRow base e 1 v' (n + s.size) (xs ++ Lib.strCells s) → w.grownBy w' v.ownBlock → K (a.put o.dst v') w') :
    if Region.wanted o (yielded ops a.tmps) = true then Oper.wp P o a w K Q else E := by
  have hw : Region.wanted o (yielded ops a.tmps) = true := by simp [Region.wanted, hgd]
  rw [if_pos hw]
  obtain ⟨v', w', hr, h2, h3, h4⟩ := Lib.run_append_own_string (P := P) w base t u o.type e i ht hu hi hz hsize hby v n xs hown s h63 hbytes hbase
  unfold Oper.wp execOp
  simp only [ho, resolve, invoke, builtin, Sem.run_bind, Sem.run_pure, Result.andThen_ok, List.map_toArray, List.map_cons, List.map_nil, hs, hx, hr]
  exact h v' w' h2 h3

theorem itoa_call (n : Int) (h0 : -9223372036854775808 ≤ n) (h1 : n ≤ 9223372036854775807) (w0 v : World) (hb : Below w0.heap.size w0 v) (hT : Lib.TabBelow Tryd.prog w0.heap.size w0 "internal/strconv.uint64pow10" .u64 Lib.pow10Tab) :
    Calls Tryd.prog 30 #[.int .i64 n] v fun e w' => e = .returned (.string ⟨(Lib.itoa n).toArray⟩) ∧ Below v.heap.size v w' := by
  refine (Tryd.strconv_Itoa n h0 h1 v (hT.on hb).here).mono ?_
  rintro e w' ⟨rfl, k, os, rfl⟩
  exact ⟨rfl, Lib.below_grow _ _ (Nat.le_refl _) k os⟩

set_option maxRecDepth 1000000 in
set_option maxHeartbeats 2000000 in
theorem rPrint_any (b o cap : Nat) (xs : List Ed) (w : World) (h : Eds w b o xs) (hl : xs.length ≤ 65536) (hF : ∀ e ∈ xs, EdFit e) (hT : tots xs ≤ 1048576) (htab : Lib.TabIs Tryd.prog w "internal/strconv.uint64pow10" .u64 Lib.pow10Tab) :
    Calls Tryd.prog 12 #[.slice (some ⟨b, o, none⟩) xs.length cap] w fun e w' => e = .returned (.string ⟨(prt xs).toArray⟩) ∧ Below w.heap.size w w' := by
  obtain ⟨i0, hi, hz0, hz1, hz2⟩ := info_parts infoU8b
  have HX : Hid (Eds w b o xs) := h
  have HF : Hid (∀ e ∈ xs, EdFit e) := hF
  have HT : Hid (Lib.TabBelow Tryd.prog w.heap.size w "internal/strconv.uint64pow10" .u64 Lib.pow10Tab) := Lib.tabBelow_of_tabIs htab
  have hbw := h.1
  have hN := prt_len hF
  obtain ⟨Q, hQ⟩ : ∃ Q, prt xs = Q := ⟨_, rfl⟩
  have HQ : Hid (prt xs = Q) := hQ
  rw [hQ] at hN
  rw [hQ]
  clear h hF hQ htab
  have hl' : ¬ (65536 : Int) < (xs.length : Int) := by omega
  go_enter Tryd.func12, Tryd.ntmps12
  go_wp2
  go_loopg [3, 4] xs.length (fun gk so si wr => ∃ (k : Nat) (p : List UInt8), gk = xs.length - k ∧ k ≤ xs.length ∧ si = .int .i64 (k : Int) ∧ p ++ prt (xs.drop k) = Q ∧ wr.ownsRow w.heap.size 5 1 so p.length (bc p) ∧ Below w.heap.size w wr)
  case atStart => exact ⟨0, [], by omega, Nat.zero_le _, rfl, by simpa using HQ.out, World.ownsRow_nil _ _ _ _, Below.refl _ _⟩
  case round =>
    obtain ⟨k, p, rfl, hk, rfl, hpq, hown, hbel⟩ := hrel
    have HB : Hid (Below w.heap.size w wr) := hbel
    have HO : Hid (wr.ownsRow w.heap.size 5 1 u3 p.length (bc p)) := hown
    have HPQ : Hid (p ++ prt (xs.drop k) = Q) := hpq
    clear hbel hown hpq
    by_cases hlt : k < xs.length
    · have hlt' : (k : Int) < (xs.length : Int) := by omega
      obtain ⟨e, he⟩ : ∃ e, xs[k]? = some e := ⟨_, List.getElem?_eq_getElem hlt⟩
      obtain ⟨ef0, ef1, et0, et1, -⟩ := HF.out e (List.mem_of_getElem? he)
      have hes : e.s.size ≤ 1048576 := by
        have : ∀ {l : List Ed}, e ∈ l → e.s.size ≤ tots l := by
          intro l
          induction l with
          | nil => intro h; cases h
          | cons x r ih =>
            intro h
            rw [tots]
            rcases List.mem_cons.1 h with rfl | h
            · omega
            · have := ih h; omega
        have := this (List.mem_of_getElem? he); omega
      have HNX : Hid (p ++ ln e ++ prt (xs.drop (k + 1)) = Q) := by
        unfold Hid; rw [← HPQ.out, prt_drop he, List.append_assoc]
      have hlen := ln_len (HF.out e (List.mem_of_getElem? he))
      have hbd := congrArg List.length HNX.out
      simp only [List.length_append] at hbd
      obtain ⟨c0, c1, c2⟩ := HX.out.cells HB.out he
      have HE : Hid (xs[k]? = some e) := he
      clear he
      have hbd2 : p.length + (ln e).length ≤ 5373952 := by omega
      clear hbd hN
      obtain ⟨A, hA⟩ : ∃ A : ByteArray, A = ⟨(Lib.itoa e.f).toArray⟩ := ⟨_, rfl⟩
      obtain ⟨T, hT'⟩ : ∃ T : ByteArray, T = ⟨(Lib.itoa e.t).toArray⟩ := ⟨_, rfl⟩
      obtain ⟨Z, hZ'⟩ : ∃ Z : ByteArray, Z = ⟨(quo e.s.data.toList).toArray⟩ := ⟨_, rfl⟩
      have HCA : Hid (∀ v, Below w.heap.size w v → Calls Tryd.prog 30 #[.int .i64 e.f] v fun e w' => e = .returned (.string A) ∧ Below v.heap.size v w') := fun v hv => by rw [hA]; exact itoa_call e.f ef0 ef1 w v hv HT.out
      have HCT : Hid (∀ v, Below w.heap.size w v → Calls Tryd.prog 30 #[.int .i64 e.t] v fun e w' => e = .returned (.string T) ∧ Below v.heap.size v w') := fun v hv => by rw [hT']; exact itoa_call e.t et0 et1 w v hv HT.out
      have HCZ : Hid (∀ v, Calls Tryd.prog 31 #[.string e.s] v fun e w' => e = .returned (.string Z) ∧ Below v.heap.size v w') := fun v => by rw [hZ']; exact quoted_any e.s v hes
      have sA : A.size ≤ 5373952 := by
        rw [← bytes_len, hA]; show (Lib.itoa e.f).length ≤ _; have := Lib.itoa_length_le e.f ef0 ef1; omega
      have sT : T.size ≤ 5373952 := by
        rw [← bytes_len, hT']; show (Lib.itoa e.t).length ≤ _; have := Lib.itoa_length_le e.t et0 et1; omega
      have sZ : Z.size ≤ 5373952 := by
        rw [← bytes_len, hZ']; show (quo e.s.data.toList).length ≤ _
        have := esc_len e.s.data.toList; rw [bytes_len] at this; unfold quo; simp only [List.length_append, List.length_cons, List.length_nil]; omega
      obtain ⟨F, hFd⟩ : ∃ F : ByteArray, F = A ++ ⟨#[44]⟩ ++ T ++ ⟨#[32]⟩ ++ Z ++ ⟨#[10]⟩ := ⟨_, rfl⟩
      have hFl : F.data.toList = ln e := by
        rw [hFd, hA, hT', hZ']; unfold ln; simp
      have HFL : Hid (F.data.toList = ln e) := hFl
      have HFD : Hid (F = A ++ ⟨#[44]⟩ ++ T ++ ⟨#[32]⟩ ++ Z ++ ⟨#[10]⟩) := hFd
      have hFs : p.length + F.size ≤ 5373952 := by rw [← bytes_len, hFl]; exact hbd2
      clear hA hT' hZ' hFl hFd hes
      go_upto_region 7 with fail
      have hc1 : ¬ (9223372036854775807 < A.size + 1) := by omega
      have hc2 : ¬ (9223372036854775807 < A.size + 1 + T.size) := by omega
      have hc3 : ¬ (9223372036854775807 < A.size + 1 + T.size + 1) := by omega
      have hc4 : ¬ (9223372036854775807 < A.size + 1 + T.size + 1 + Z.size) := by omega
      have hc5 : ¬ (9223372036854775807 < A.size + 1 + T.size + 1 + Z.size + 1) := by omega
      go_region_held3 (fun y => y.cell? ⟨b, o + k * 3, none⟩ = some (.int .i64 e.f) ∧ y.cell? ⟨b, o + k * 3 + 1, none⟩ = some (.int .i64 e.t) ∧ y.cell? ⟨b, o + k * 3 + 2, none⟩ = some (.string e.s))
        (first | go_keep | (refine ⟨?_, ?_, ?_⟩ <;> assumption))
        ((first
          | (go_at_call 30; (with_reducible refine (HCA.out _ HB.out.drew).mono ?_); rintro e9 w1 ⟨rfl, hb9⟩; have HBw1 : Hid (Below w.heap.size w w1) := HB.out.drew.trans (hb9.mono HB.out.drew.size); have HOw1 : Hid (w1.ownsRow w.heap.size 5 1 u3 p.length (bc p)) := ownsRow_below HO.out.drew hb9 (Nat.le_refl _); clear hb9; obtain ⟨d0, d1, d2⟩ := HX.out.cells HBw1.out HE.out)
          | (go_at_call 30; (with_reducible refine (HCT.out _ HBw1.out).mono ?_); rintro e9 w2 ⟨rfl, hb9⟩; have HBw2 : Hid (Below w.heap.size w w2) := HBw1.out.trans (hb9.mono HBw1.out.size); have HOw2 : Hid (w2.ownsRow w.heap.size 5 1 u3 p.length (bc p)) := ownsRow_below HOw1.out hb9 (Nat.le_refl _); clear hb9; obtain ⟨d0, d1, d2⟩ := HX.out.cells HBw2.out HE.out)
          | (go_at_call 31; (with_reducible refine (HCZ.out _).mono ?_); rintro e9 w3 ⟨rfl, hb9⟩; have HBw3 : Hid (Below w.heap.size w w3) := HBw2.out.trans (hb9.mono HBw2.out.size); have HOw3 : Hid (w3.ownsRow w.heap.size 5 1 u3 p.length (bc p)) := ownsRow_below HOw2.out hb9 (Nat.le_refl _); clear hb9; obtain ⟨d0, d1, d2⟩ := HX.out.cells HBw3.out HE.out)
          | (refine step_append_str (by rfl) _ _ _ _ (by rfl) w.heap.size 5 i0 Tryd.underlying59 Tryd.underlying9 hi hz0 hz1 hz2 u3 p.length (bc p) (by rfl) HOw3.out F (by rw [HFD.out]; rfl) (by unfold maxLen; omega) (by omega) HBw3.out.size ?_; intro v4 w4 hown4 hgrow4; have HBw4 : Hid (Below w.heap.size w w4) := HBw3.out.grown hgrow4 HBw3.out.size (fun g h => (HOw3.out.lt g h).1); have HOw4 : Hid (w4.ownsRow w.heap.size 5 1 v4 (p ++ ln e).length (bc (p ++ ln e))) := (by unfold Hid; rw [bc_append, List.length_append, ← HFL.out, bytes_len]; exact hown4); clear hown4 hgrow4; obtain ⟨x0, x1, x2⟩ := HX.out.cells HBw4.out HE.out)))
      go_wp2
      go_roundg (xs.length - (k + 1))
      case measure => omega
      case rel => exact ⟨k + 1, p ++ ln e, rfl, by omega, by go_num, HNX.out, HOw4.out, HBw4.out⟩
    · have hge : ¬ (k : Int) < (xs.length : Int) := by omega
      have HZ : Hid (p = Q) := by
        unfold Hid; rw [← HPQ.out, List.drop_eq_nil_of_le (by omega)]; simp [prt]
      have hcv := own_string_any HO.out
      go_wp2
      go_ret
      have hz := HZ.out
      subst hz
      exact ⟨rfl, HB.out⟩
end Go.Proofs.YteolfolkolpehaaDoor

namespace Go.Proofs.YteolfolkolpehaaDoor
open Go.ChangeShapes Go.WideShapes Go.ChangeAt Go.RowKit
set_option linter.unusedVariables false

def prtB (xs : List Ed) : ByteArray := if 65536 < xs.length then ⟨#[]⟩ else ⟨(prt xs).toArray⟩

set_option maxRecDepth 1000000 in
set_option maxHeartbeats 800000 in
theorem Print_all (a : Option Addr) (cap : Nat) (xs : List Ed) (w : World) (h : EdsA w a xs) (hl : xs.length ≤ maxLen) (hF : ∀ e ∈ xs, EdFit e) (hT : tots xs ≤ 1048576) (htab : Lib.TabIs Tryd.prog w "internal/strconv.uint64pow10" .u64 Lib.pow10Tab) :
    Calls Tryd.prog 8 #[.slice a xs.length cap] w fun e w' => e = .returned (.string (prtB xs)) ∧ Below w.heap.size w w' := by
  unfold maxLen at hl
  by_cases hm : 65536 < xs.length
  · have hP : prtB xs = ⟨#[]⟩ := by unfold prtB; rw [if_pos hm]
    rw [hP]
    have hm' : (65536 : Int) < (xs.length : Int) := by omega
    clear h hF hP hm htab
    go_enter Tryd.func8, Tryd.ntmps8
    go_wp2
    go_ret
    exact ⟨rfl, Below.refl _ _⟩
  · have hP : prtB xs = ⟨(prt xs).toArray⟩ := by unfold prtB; rw [if_neg hm]
    rw [hP]
    rcases h with rfl | ⟨b, o, rfl, h⟩
    · rw [List.length_nil]
      clear hP hF htab
      have hcv := nil_string w
      go_enter Tryd.func8, Tryd.ntmps8
      go_wp2
      refine wp_loop_rounds 1 ?_
      rw [rounds_succ]
      go_wp2
      go_ret
      exact ⟨rfl, Below.refl _ _⟩
    · exact Print_any b o cap xs w h (by omega) hF hT htab

set_option maxRecDepth 1000000 in
set_option maxHeartbeats 800000 in
theorem rPrint_all (a : Option Addr) (cap : Nat) (xs : List Ed) (w : World) (h : EdsA w a xs) (hl : xs.length ≤ maxLen) (hF : ∀ e ∈ xs, EdFit e) (hT : tots xs ≤ 1048576) (htab : Lib.TabIs Tryd.prog w "internal/strconv.uint64pow10" .u64 Lib.pow10Tab) :
    Calls Tryd.prog 12 #[.slice a xs.length cap] w fun e w' => e = .returned (.string (prtB xs)) ∧ Below w.heap.size w w' := by
  unfold maxLen at hl
  by_cases hm : 65536 < xs.length
  · have hP : prtB xs = ⟨#[]⟩ := by unfold prtB; rw [if_pos hm]
    rw [hP]
    have hm' : (65536 : Int) < (xs.length : Int) := by omega
    clear h hF hP hm htab
    go_enter Tryd.func12, Tryd.ntmps12
    go_wp2
    go_ret
    exact ⟨rfl, Below.refl _ _⟩
  · have hP : prtB xs = ⟨(prt xs).toArray⟩ := by unfold prtB; rw [if_neg hm]
    rw [hP]
    rcases h with rfl | ⟨b, o, rfl, h⟩
    · rw [List.length_nil]
      clear hP hF htab
      have hcv := nil_string w
      go_enter Tryd.func12, Tryd.ntmps12
      go_wp2
      refine wp_loop_rounds 1 ?_
      rw [rounds_succ]
      go_wp2
      go_ret
      exact ⟨rfl, Below.refl _ _⟩
    · exact rPrint_any b o cap xs w h (by omega) hF hT htab

set_option maxRecDepth 1000000 in
set_option maxHeartbeats 800000 in
theorem editsPrints_walk (a : Option Addr) (cap : Nat) (xs : List Ed) (w : World) (h : EdsA w a xs) (hF : ∀ e ∈ xs, EdFit e) (hn : a = none → xs.length = 0 ∧ cap = 0) (hl : xs.length * 32 ≤ 140737488351232) (hB : (4 * xs.length + tot xs) ≤ 1048576) (htab : Lib.TabIs Tryd.prog w "internal/strconv.uint64pow10" .u64 Lib.pow10Tab) :
    Calls Tryd.prog 4 #[.slice a xs.length cap] w fun e w' => e = .returned (.bool true) ∧ Below w.heap.size w w' := by
  have H : Hid (EdsA w a xs) := h
  have HN : Hid (a = none → xs.length = 0 ∧ cap = 0) := hn
  have HF : Hid (∀ e ∈ xs, EdFit e) := hF
  have HT : Hid (Lib.TabBelow Tryd.prog w.heap.size w "internal/strconv.uint64pow10" .u64 Lib.pow10Tab) := Lib.tabBelow_of_tabIs htab
  have HL : Hid (xs.length ≤ maxLen) := by unfold Hid maxLen; omega
  clear h hn hF htab
  have hT : tots xs ≤ 1048576 := by rw [tots_tot]; omega
  go_enter Tryd.func4, Tryd.ntmps4
  go_wp2_with fail
  refine (lent_any a cap xs _ H.out HN.out hl).mono ?_
  rintro e w1 ⟨rfl, hb1, hown⟩
  have hc : Hid (Eds w1 w.heap.size 0 (xs ++ marks)) := Eds.own hown
  have HB1 : Hid (Below w.heap.size w w1) := hb1
  clear hown hb1
  go_wp2_with fail
  refine (Print_all _ _ xs _ (.inr ⟨_, _, rfl, hc.out.pre⟩) HL.out HF.out hT (HT.out.on HB1.out).here).mono ?_
  rintro e w2 ⟨rfl, hb2⟩
  have HB2 : Hid (Below w1.heap.size w1 w2) := hb2
  have HB12 : Hid (Below w.heap.size w w2) := HB1.out.trans (hb2.mono HB1.out.size)
  clear hb2
  go_wp2_with fail
  refine (rPrint_all a cap xs _ (H.out.below HB12.out) HL.out HF.out hT (HT.out.on HB12.out).here).mono ?_
  rintro e w3 ⟨rfl, hb3⟩
  have HB3 : Hid (Below w2.heap.size w2 w3) := hb3
  have HB13 : Hid (Below w.heap.size w w3) := HB12.out.trans (hb3.mono HB12.out.size)
  clear hb3
  generalize prtB xs = R at *
  go_wp2_with fail
  refine (kept_any w.heap.size a cap xs _ ((hc.out.below HB2.out hc.out.1).below HB3.out (Nat.lt_of_lt_of_le hc.out.1 HB2.out.size)) (H.out.below HB13.out) hl).mono ?_
  rintro e w4 ⟨rfl, hb4⟩
  go_wp2
  go_ret
  exact ⟨rfl, HB13.out.trans (hb4.mono HB13.out.size)⟩
end Go.Proofs.YteolfolkolpehaaDoor
