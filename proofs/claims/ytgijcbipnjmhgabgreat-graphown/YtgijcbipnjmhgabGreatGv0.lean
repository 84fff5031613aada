import Derived.Test.YtgijcbipnjmhgabGreatQp0
import Derived.Test.YtgijcbipnjmhgabGreatQf0
import Derived.Test.YtgijcbipnjmhgabGreatGr3c
import Derived.Test.YtgijcbipnjmhgabGreatInfT
import Derived.Test.YtgijcbipnjmhgabGreatQp1
import Derived.Test.YtgijcbipnjmhgabGreatSp6
import Derived.Test.YtgijcbipnjmhgabGreatGc6
import Derived.Test.YtgijcbipnjmhgabGreatReachesW
namespace Go.Proofs.YtgijcbipnjmhgabGreat
open Go.ChangeShapes Go.WideShapes Go.ChangeAt Go.RowKit
set_option linter.unusedVariables false
set_option linter.unusedSimpArgs false

/-- the nearest that is known among the first i -/
def Mi6 (F : Nat → Nat) (q : List Nat) (l : List Int) (i : Nat) (best : Int) : Prop := (best = -1 ∧ ∀ y : Nat, (y : Int) ∈ l.take i → y ∉ q) ∨ ∃ y : Nat, best = (F y : Int) ∧ (y : Int) ∈ l.take i ∧ y ∈ q ∧ ∀ z : Nat, (z : Int) ∈ l.take i → z ∈ q → F y ≤ F z
theorem Mi6.skip {F : Nat → Nat} {q : List Nat} {i x : Nat} {l : List Int} {best : Int} (h : Mi6 F q l i best) (hx : l[i]? = some (x : Int)) (hs : x ∉ q ∨ (0 ≤ best ∧ best ≤ (F x : Int))) : Mi6 F q l (i + 1) best := by
  obtain ⟨hk, ek⟩ := List.getElem?_eq_some_iff.1 hx
  have hmem : ∀ z : Int, z ∈ l.take (i + 1) ↔ z ∈ l.take i ∨ z = (x : Int) := fun z => by rw [List.take_succ_eq_append_getElem hk, List.mem_append, List.mem_singleton, ek]
  rcases h with ⟨rfl, h2⟩ | ⟨y, rfl, h2, h3, h4⟩
  · refine .inl ⟨rfl, fun y hy => ?_⟩
    rcases (hmem _).1 hy with hy | hy
    · exact h2 y hy
    · have : y = x := by omega
      subst this
      rcases hs with hs | hs
      · exact hs
      · omega
  · refine .inr ⟨y, rfl, (hmem _).2 (.inl h2), h3, fun z hz hzk => ?_⟩
    rcases (hmem _).1 hz with hz | hz
    · exact h4 z hz hzk
    · have : z = x := by omega
      subst this
      rcases hs with hs | hs
      · exact absurd hzk hs
      · omega
theorem Mi6.take {F : Nat → Nat} {q : List Nat} {i x : Nat} {l : List Int} {best : Int} (h : Mi6 F q l i best) (hx : l[i]? = some (x : Int)) (hF : x ∈ q) (hs : best < 0 ∨ (F x : Int) < best) : Mi6 F q l (i + 1) (F x : Int) := by
  obtain ⟨hk, ek⟩ := List.getElem?_eq_some_iff.1 hx
  have hmem : ∀ z : Int, z ∈ l.take (i + 1) ↔ z ∈ l.take i ∨ z = (x : Int) := fun z => by rw [List.take_succ_eq_append_getElem hk, List.mem_append, List.mem_singleton, ek]
  refine .inr ⟨x, rfl, (hmem _).2 (.inr rfl), hF, fun z hz hzk => ?_⟩
  rcases (hmem _).1 hz with hz | hz
  · rcases h with ⟨rfl, h2⟩ | ⟨y, rfl, h2, h3, h4⟩
    · exact absurd hzk (h2 z hz)
    · have := h4 z hz hzk
      omega
  · have : z = x := by omega
    subst this
    exact Nat.le_refl _
/-- what the search tells of x -/
theorem Mi6.done {ps : List Pr} {n x : Nat} {F : Nat → Nat} {q : List Nat} {i : Nat} {best : Int} (hps : ∀ p ∈ ps, (0 ≤ p.a ∧ p.a < (n : Int)) ∧ (0 ≤ p.b ∧ p.b < (n : Int))) (hQ : Bq ps n x F q q.length (fun _ => False)) (hi : (nd ps x).length ≤ i) (h : Mi6 F q (nd ps x) i best) : (best = -1 ∧ ¬ OnC ps x) ∨ ∃ b : Nat, best = (b : Int) ∧ b < n ∧ Mnd ps x x b ∧ OnC ps x := by
  have hF := hQ.done
  unfold Mi6 at h
  rw [List.take_of_length_le hi] at h
  have hwq : ∀ z k, Wy ps x k z → z < n ∧ z ∈ q := fun z k hk => by
    have h1 := hF.wy z k hk
    exact ⟨h1.1, (hQ.mkd z h1.1).2 (by omega)⟩
  rcases h with ⟨h1, h2⟩ | ⟨y, h1, h2, h3, h4⟩
  · refine .inl ⟨h1, fun ⟨z, he, hr⟩ => ?_⟩
    obtain ⟨k, hk⟩ := hr.wy
    exact h2 z (mem_nd.2 he) (hwq z k hk).2
  · have hyn := hQ.rng y h3
    have hne := (hQ.mkd y hyn).1 h3
    have hle := hF.le y hyn
    have hd := hF.ds y hyn hne
    refine .inr ⟨F y, h1, by omega, ⟨⟨y, mem_nd.1 h2, hd⟩, fun z e hz hdz => ?_⟩, ⟨y, mem_nd.1 h2, hd.1.rch⟩⟩
    have h5 := hwq z e hdz.1
    have h6 := hF.ds z h5.1 ((hQ.mkd z h5.1).1 h5.2)
    have h7 := h4 z (mem_nd.2 hz) h5.2
    have h8 := h6.uniq hdz
    omega
set_option maxRecDepth 1000000 in
set_option maxHeartbeats 4000000 in
theorem rcycle_any (n cap gm B0 : Nat) (a : Option Addr) (ps : List Pr) (ms : List Int) (w : World) (hL : LiesA w a ps) (hn : n ≤ 131072) (hm : ps.length ≤ 8796093022208) (hps : ∀ p ∈ ps, (0 ≤ p.a ∧ p.a < (n : Int)) ∧ (0 ≤ p.b ∧ p.b < (n : Int))) (hO : w.ownsRow B0 3 1 (.slice (some ⟨gm, 0, none⟩) n n) n (flat ms)) (hleft : ∀ x, x < n → OnC ps x → ms[x]! ≠ 0) (hex : ∃ x, OnC ps x) :
    Calls Tryz.prog 34 #[.int .i64 (n : Int), .slice a ps.length cap, .slice (some ⟨gm, 0, none⟩) n n] w fun e w' => ∃ v, e = .returned v ∧ Below w.heap.size w w' ∧ ∃ (f : Nat) (l : List Int), w'.ownsRow w.heap.size 3 1 v ((f : Int) :: l).length (flat ((f : Int) :: l)) ∧ Fst ps f ∧ Cyc ps f f l := by
  obtain ⟨i0, hi0, hz0, hz1, hz2⟩ := info_parts infoIntH
  have hml : ms.length = n := by have h9 := hO.1; rw [flat_ints, List.length_map] at h9; omega
  have HML := hidH hml
  have HL := hidH hL
  have HPS := hidH hps
  have HO := hidH hO
  have HLE := hidH hleft
  have HEX := hidH hex
  have QR1 := hidH (rows1R n cap a ps w hL hn hm hps)
  obtain ⟨B, hB⟩ : ∃ B, w.heap.size = B := ⟨_, rfl⟩
  have HBE := hidH hB
  clear hL hps hO hleft hex hml
  go_enter Tryz.func34, Tryz.ntmps34
  go_upto_region 2 with (go_at_call 30; (with_reducible refine QR1.out.mono ?_); clear QR1; rintro e w1 ⟨rfl, hb1, hrx1⟩; have HB1 := hidH hb1; have RX1 := hidH hrx1; clear hb1 hrx1)
  have QR0 := hidH (rows0R n cap a ps w1 (HL.out.below HB1.out) hn hm HPS.out)
  rw [hB] at HB1 RX1
  go_upto_region 4 with (go_at_call 30; (with_reducible refine QR0.out.mono ?_); clear QR0; rintro e w2 ⟨rfl, hb2, hrx2⟩; have HB2 := hidH hb2; have RX2 := hidH hrx2; clear hb2 hrx2)
  obtain ⟨C, hC⟩ : ∃ C, w1.heap.size = C := ⟨_, rfl⟩
  obtain ⟨D, hD⟩ : ∃ D, w2.heap.size = D := ⟨_, rfl⟩
  have hBC : B ≤ C := by have := HB1.out.size; omega
  have hCD : C ≤ D := by have := HB2.out.size; omega
  have NX : Hid (Rx6 D w2 B n (nd ps)) := by rw [← hD]; exact (RX1.out.below HB2.out).up (by omega)
  have UX : Hid (Rx6 D w2 C n (fun x => usr ps (x : Int))) := by have h9 := RX2.out; rw [hD, hC] at h9; exact h9
  have E2 : Hid (Below B w w2) := HB1.out.trans (HB2.out.mono (by omega))
  have HDE := hidH hD
  rw [hC]
  clear RX1 RX2 HB1 HB2 hC hD
  go_loopg [9] n (fun gk s9 wr => ∃ (x : Nat), gk = n - x ∧ s9 = .int .i64 (x : Int) ∧ x ≤ n ∧ (∀ y, y < x → ¬ OnC ps y) ∧ Below D w2 wr)
  case atStart => exact ⟨0, rfl, rfl, Nat.zero_le _, fun y hy => by omega, Below.refl _ _⟩
  case round =>
    obtain ⟨x, hgk, rfl, hxn, hno, hE⟩ := hrel
    have NO := hidH hno
    have EE := hidH hE
    clear hno hE
    by_cases hx : x < n
    · have hx' : (x : Int) < (n : Int) := by omega
      have kx : IntKind.i64.wrap ((x : Int) + 1) = ((x + 1 : Nat) : Int) := by rw [IntWalk.i64_in _ ⟨by omega, by omega⟩]; omega
      have EW : Hid (Below B w wr) := E2.out.trans (EE.out.mono (by omega))
      obtain ⟨mv, hmv⟩ : ∃ mv, ms[x]? = some mv := ⟨_, List.getElem?_eq_getElem (by rw [HML.out]; exact hx)⟩
      have hmv2 : ms[x]! = mv := by simp [hmv]
      have cM := (row_cell (own_belowR HO.out EW.out (by have := HBE.out; omega)) hmv).1
      clear hmv
      by_cases hm0 : mv = 0
      · subst hm0
        have NO2 : Hid (∀ y, y < x + 1 → ¬ OnC ps y) := fun y hy hc => by
          by_cases e : y = x
          · subst e
            exact HLE.out y hx hc hmv2
          · exact NO.out y (by omega) hc
        clear hmv2
        go_wp2
        go_roundg (n - (x + 1))
        case measure => omega
        case rel => exact ⟨x + 1, rfl, rfl, by omega, NO2.out, EE.out⟩
      · have hm1 : (mv == 0) = false := by rw [beq_eq_false_iff_ne]; exact hm0
        have hDr : D ≤ wr.heap.size := by have := EE.out.size; have := HDE.out; omega
        have QF := hidH (rfar_any x n C (fun x => usr ps (x : Int)) ps wr ((UX.out.below EE.out).up hDr) (fun z hz => ⟨Nat.le_trans (usr_len ps (z : Int)) hm, fun y => mem_usr⟩) HPS.out hx hn)
        clear hmv2
        go_upto_region 10 with (go_at_call 60; (with_reducible refine QF.out.mono ?_); clear QF; rintro e w3 ⟨hb3, rfl, F, q, hMq, hBq⟩; have HB3 := hidH hb3; have MP := hidH hMq; have BQ := hidH hBq; clear hb3 hMq hBq)
        obtain ⟨b, hb⟩ : ∃ b, wr.heap.size = b := ⟨_, rfl⟩
        have E3 : Hid (Below D w2 w3) := EE.out.trans (HB3.out.mono hDr)
        rw [hb] at hDr MP ⊢
        obtain ⟨aD, cD, cD1, hrow⟩ := NX.out.row x hx
        obtain ⟨r, hr⟩ : ∃ r, (nd ps x).length = r := ⟨_, rfl⟩
        have hrp : r ≤ ps.length := by rw [← hr]; exact nd_len ps x
        rw [hr] at cD1
        have HR := hidH hr
        have HROW := hidH hrow
        have cN := (E3.out.cell (p := ⟨B, x, none⟩) NX.out.lt).trans cD1
        clear hrow hr cD1 cM HB3 hb
        go_loopg [11, 12] r (fun g3 s11 s12 wq => ∃ (i : Nat) (best : Int), g3 = r - i ∧ s11 = .int .i64 best ∧ s12 = .int .i64 (i : Int) ∧ i ≤ r ∧ (-1 ≤ best ∧ best < (n : Int)) ∧ Mi6 F q (nd ps x) i best ∧ wq = w3)
        case atStart => exact ⟨0, -1, rfl, rfl, rfl, Nat.zero_le _, ⟨by omega, by omega⟩, .inl ⟨rfl, fun y hy => by simp at hy⟩, rfl⟩
        case round =>
          obtain ⟨i, best, hg3, rfl, rfl, hir, hlw, hLo, hw⟩ := hrel
          have hw2 := hw.symm
          subst hw2
          have LO := hidH hLo
          clear hLo hw
          by_cases hi : i < r
          · have hi' : (i : Int) < (r : Int) := by omega
            have ki : IntKind.i64.wrap ((i : Int) + 1) = ((i + 1 : Nat) : Int) := by rw [IntWalk.i64_in _ ⟨by omega, by omega⟩]; omega
            obtain ⟨y0, hy0⟩ : ∃ y, (nd ps x)[i]? = some y := ⟨_, List.getElem?_eq_getElem (by rw [HR.out]; exact hi)⟩
            have hyr := (HPS.out _ (mem_nd.1 (List.mem_of_getElem? hy0))).2
            simp only at hyr
            obtain ⟨y, rfl⟩ : ∃ y : Nat, y0 = (y : Int) := ⟨y0.toNat, by omega⟩
            have hyn : y < n := by omega
            obtain ⟨g, rfl, hg, hcl⟩ := HROW.out (by rw [HR.out]; omega)
            have cY := (E3.out.cell (p := ⟨g, i, none⟩) hg).trans (hcl i _ hy0)
            have HY0 := hidH hy0
            clear hcl hy0
            by_cases hyq : y ∈ q
            · have lk := MP.out.look_yes hyq (by omega)
              obtain ⟨v, hv⟩ : ∃ v, F y = v := ⟨_, rfl⟩
              have hvn : v < n := by have h1 := BQ.out.done.le y hyn; have h2 := (BQ.out.mkd y hyn).1 hyq; omega
              rw [hv] at lk
              have HV := hidH hv
              clear hv
              by_cases hl0 : best < 0
              · have LO2 : Hid (Mi6 F q (nd ps x) (i + 1) (v : Int)) := by have h9 := LO.out.take HY0.out hyq (.inl hl0); rw [HV.out] at h9; exact h9
                go_wp2
                go_roundg (r - (i + 1))
                case measure => omega
                case rel => exact ⟨i + 1, _, rfl, rfl, rfl, by omega, ⟨by omega, by omega⟩, LO2.out, rfl⟩
              · by_cases hl1 : (v : Int) < best
                · have LO2 : Hid (Mi6 F q (nd ps x) (i + 1) (v : Int)) := by have h9 := LO.out.take HY0.out hyq (.inr (by rw [HV.out]; exact hl1)); rw [HV.out] at h9; exact h9
                  go_wp2
                  go_roundg (r - (i + 1))
                  case measure => omega
                  case rel => exact ⟨i + 1, _, rfl, rfl, rfl, by omega, ⟨by omega, by omega⟩, LO2.out, rfl⟩
                · have LO2 := hidH (LO.out.skip HY0.out (.inr ⟨by omega, by rw [HV.out]; omega⟩))
                  go_wp2
                  go_roundg (r - (i + 1))
                  case measure => omega
                  case rel => exact ⟨i + 1, _, rfl, rfl, rfl, by omega, hlw, LO2.out, rfl⟩
            · obtain ⟨c, lk⟩ := MP.out.look_no hyq (by omega)
              have LO2 := hidH (LO.out.skip HY0.out (.inl hyq))
              go_wp2
              go_roundg (r - (i + 1))
              case measure => omega
              case rel => exact ⟨i + 1, _, rfl, rfl, rfl, by omega, hlw, LO2.out, rfl⟩
          · have hi' : ¬ (i : Int) < (r : Int) := by omega
            rcases LO.out.done HPS.out BQ.out (by rw [HR.out]; omega) with ⟨rfl, hnc⟩ | ⟨k, rfl, hkn, hMn, hOn⟩
            · have NO2 : Hid (∀ y, y < x + 1 → ¬ OnC ps y) := fun y hy hc => by
                by_cases e : y = x
                · subst e
                  exact hnc hc
                · exact NO.out y (by omega) hc
              clear hnc
              go_wp2
              go_roundg (n - (x + 1))
              case measure => omega
              case rel => exact ⟨x + 1, rfl, rfl, by omega, NO2.out, E3.out⟩
            · have hk0 : (0 : Int) ≤ (k : Int) := by omega
              have HF : Hid (Fst ps x) := ⟨hOn, fun y hy => Nat.le_of_not_lt fun h => NO.out y h hy⟩
              have hDw : D ≤ w3.heap.size := by have := E3.out.size; have := HDE.out; omega
              have QB := hidH (rback_any x n B b k F q ps w3 ((NX.out.below E3.out).up hDw) MP.out BQ.out HPS.out hx hn hm hMn hkn)
              have EB : Hid (Below B w w3) := E2.out.trans (E3.out.mono (by omega))
              have hBw : B ≤ w3.heap.size := by omega
              clear hMn hOn LO
              go_wp2_with (go_at_call 61; (with_reducible refine QB.out.mono ?_); clear QB; rintro e w5 ⟨v, rfl, hb6, l, ho6, hC⟩; have HB6 := hidH (EB.out.trans (hb6.mono hBw)); have O6 := hidH (own_lower ho6 hBw); have HC := hidH hC; clear hb6 ho6 hC)
              go_ret
              exact ⟨_, rfl, by first | exact HB6.out | (rw [hB]; exact HB6.out), x, l, by first | exact O6.out | (rw [hB]; exact O6.out), HF.out, HC.out⟩
    · exfalso
      obtain ⟨z, hz⟩ := HEX.out
      have h1 := (HPS.out _ hz.choose_spec.1).1
      simp only at h1
      exact NO.out z (by omega) hz
theorem rorder (n cap : Nat) (a : Option Addr) (ps : List Pr) (w : World) (hL : LiesA w a ps) (hm : ps.length ≤ 8796093022208) (ht : things (n : Int) ps = true) :
    Calls Tryz.prog 9 #[.int .i64 (n : Int), .slice a ps.length cap] w fun e w' => ∃ v u E, e = .returned (.tuple #[v, u, .int .i64 E]) ∧ Below w.heap.size w w' ∧ OrG w.heap.size n ps w' v u E :=
  rorder_any n cap a ps w hL hm ht fun wq gm ms hb ho hl hx => rcycle_any n cap gm _ a ps ms wq (hL.below hb) (things_spec ht).1 hm (things_spec ht).2 ho hl hx
end Go.Proofs.YtgijcbipnjmhgabGreat

namespace Go.Proofs.YtgijcbipnjmhgabGreat
open Go.ChangeShapes Go.WideShapes Go.ChangeAt Go.RowKit
set_option linter.unusedVariables false
set_option linter.unusedSimpArgs false

theorem Gn.mem {S : Int → Prop} {R : Int → Int → Prop} {os : List Int} (h : Gn S R os) : ∀ y ∈ os, S y := fun y hy => by
  obtain ⟨a, b, e⟩ := List.append_of_mem hy
  exact (h.gd a y b e).1.1
theorem own_lies6 {w : World} {B : Nat} {v : Value} {zs : List Int} (h : w.ownsRow B 3 1 v zs.length (flat zs)) : (∃ a c, v = .slice a zs.length c ∧ LiesA w a zs) ∧ zs.length ≤ maxLen := by
  obtain ⟨a, c, hv, hl, -⟩ := own_form (α := Int) h
  refine ⟨⟨a, c, hv, hl⟩, ?_⟩
  rcases h.2 with ⟨-, h0⟩ | ⟨g, cap2, cur, -, -, -, h1, h2, -⟩
  · rw [h0]; exact Nat.zero_le _
  · omega
theorem rorder_bad (n : Int) (a : Option Addr) (cap : Nat) (ps : List Pr) (w : World) (hL : LiesA w a ps) (hm : ps.length ≤ 8796093022208) (h : things n ps = false) :
    Calls Tryz.prog 9 #[.int .i64 n, .slice a ps.length cap] w fun e w' => e = .returned (.tuple #[.slice none 0 0, .slice none 0 0, .int .i64 1]) ∧ w' = w := by
  have BD : Hid (Calls Tryz.prog 29 #[.int .i64 n, .slice a ps.length cap] w fun e w' => e = .returned (.bool true) ∧ w' = w) := by have h9 := rbad_any n a cap ps w hL (by omega); rw [h] at h9; exact h9
  go_enter Tryz.func9, Tryz.ntmps9
  go_wp2_with (go_at_call 29; (with_reducible refine BD.out.mono ?_); rintro e v1 ⟨rfl, rfl⟩)
  go_ret3
  exact ⟨rfl, rfl⟩
end Go.Proofs.YtgijcbipnjmhgabGreat

namespace Go.Proofs.YtgijcbipnjmhgabGreat
open Go.ChangeShapes Go.WideShapes Go.ChangeAt Go.RowKit
set_option linter.unusedVariables false
set_option linter.unusedSimpArgs false

theorem Rq6.below {w w' : World} {a : Option Addr} {pss : List (List Int)} (h : Rq6 w.heap.size w a pss) (hb : Below w.heap.size w w') : Rq6 w'.heap.size w' a pss := fun i p hp => by
  obtain ⟨g, u, c, h1, h2, h3, h4, h5⟩ := h i p hp
  exact ⟨g, u, c, h1, Nat.lt_of_lt_of_le h2 hb.size, (hb.cell (p := ⟨g, i, none⟩) h2).trans h3, h4.below hb, h5⟩
set_option maxRecDepth 1000000 in
set_option maxHeartbeats 1000000 in
theorem rparts_bad (n : Int) (a : Option Addr) (cap : Nat) (ps : List Pr) (w : World) (hL : LiesA w a ps) (hm : ps.length ≤ 8796093022208) (h : things n ps = false) :
    Calls Tryz.prog 10 #[.int .i64 n, .slice a ps.length cap] w fun e w' => e = .returned (.tuple #[.slice none 0 0, .int .i64 1]) ∧ w' = w := by
  have BD : Hid (Calls Tryz.prog 29 #[.int .i64 n, .slice a ps.length cap] w fun e w' => e = .returned (.bool true) ∧ w' = w) := by have h9 := rbad_any n a cap ps w hL (by omega); rw [h] at h9; exact h9
  go_enter Tryz.func10, Tryz.ntmps10
  go_wp2_with (go_at_call 29; (with_reducible refine BD.out.mono ?_); rintro e v1 ⟨rfl, rfl⟩)
  go_ret2
  exact ⟨rfl, rfl⟩
end Go.Proofs.YtgijcbipnjmhgabGreat

namespace Go.Proofs.YtgijcbipnjmhgabGreat
open Go.ChangeShapes Go.WideShapes Go.ChangeAt Go.RowKit Go.Sort
set_option linter.unusedVariables false
set_option linter.unusedSimpArgs false

/-- on the way back to f each is nearer -/
theorem Cyc.dist {ps : List Pr} {f x : Nat} {l : List Int} (h : Cyc ps f x l) : ∀ D, Ds ps f x D → x ≠ f → ∀ z ∈ l, ∃ k e : Nat, z = (k : Int) ∧ Ds ps f k e ∧ e < D := by
  induction h with
  | fin _ => intro D _ _ z hz; cases hz
  | more h1 h2 _ ih =>
    intro D hD hx z hz
    obtain ⟨he, d, hd, hmin⟩ := h1
    have hdD : d < D := by
      cases D with
      | zero => exact absurd hD.zero hx
      | succ D' =>
        obtain ⟨z', hz1, hz2⟩ := hD.next
        have := (hmin z' D' hz1 hz2).1
        omega
    rcases List.mem_cons.1 hz with rfl | hz
    · exact ⟨_, d, rfl, hd, hdD⟩
    · obtain ⟨k, e, k1, k2, k3⟩ := ih d hd h2 z hz
      exact ⟨k, e, k1, k2, by omega⟩
theorem Cyc.nodup {ps : List Pr} {f x : Nat} {l : List Int} (h : Cyc ps f x l) : l.Nodup := by
  induction h with
  | fin _ => exact List.nodup_nil
  | more h1 h2 h3 ih =>
    obtain ⟨he, d, hd, hmin⟩ := h1
    refine List.nodup_cons.2 ⟨fun hy => ?_, ih⟩
    obtain ⟨k, e, k1, k2, k3⟩ := h3.dist d hd h2 _ hy
    have hk := Int.ofNat.inj k1
    subst hk
    have := hd.uniq k2
    omega
theorem Cyc.rng {ps : List Pr} {n f x : Nat} {l : List Int} (hps : ∀ p ∈ ps, (0 ≤ p.a ∧ p.a < (n : Int)) ∧ (0 ≤ p.b ∧ p.b < (n : Int))) (h : Cyc ps f x l) : ∀ z ∈ l, 0 ≤ z ∧ z < (n : Int) := by
  induction h with
  | fin _ => intro z hz; cases hz
  | more h1 h2 h3 ih =>
    intro z hz
    rcases List.mem_cons.1 hz with rfl | hz
    · exact (hps _ h1.1).2
    · exact ih z hz
theorem Cyc.len {ps : List Pr} {n f x : Nat} {l : List Int} (hps : ∀ p ∈ ps, (0 ≤ p.a ∧ p.a < (n : Int)) ∧ (0 ≤ p.b ∧ p.b < (n : Int))) (h : Cyc ps f x l) : l.length ≤ n := nodup_le h.nodup (h.rng hps)

/-- a list that is read -/
def Rd6 (w : World) (v : Value) (zs : List Int) : Prop := ∃ a c, v = .slice a zs.length c ∧ LiesA w a zs
/-- a list of the call's own, of not too many things -/
def Ow6 (B : Nat) (w : World) (v : Value) (zs : List Int) : Prop := w.ownsRow B 3 1 v zs.length (flat zs) ∧ zs.length ≤ 4194304
theorem Ow6.rd {B : Nat} {w : World} {v : Value} {zs : List Int} (h : Ow6 B w v zs) : Rd6 w v zs := by
  obtain ⟨⟨a, c, e, l⟩, -⟩ := own_lies6 h.1
  exact ⟨a, c, e, l⟩
theorem Ow6.below {B : Nat} {w w' : World} {v : Value} {zs : List Int} (h : Ow6 B w v zs) (hb : Below w.heap.size w w') : Ow6 B w' v zs := ⟨own_belowR h.1 hb (Nat.le_refl _), h.2⟩
theorem Rd6.below {w w' : World} {v : Value} {zs : List Int} (h : Rd6 w v zs) (hb : Below w.heap.size w w') : Rd6 w' v zs := by
  obtain ⟨a, c, e, l⟩ := h
  exact ⟨a, c, e, l.below hb⟩
theorem Ow6.nil (B : Nat) (w : World) : Ow6 B w (.slice none 0 0) [] := ⟨World.ownsRow_nil _ _ _ _, by simp⟩
theorem Rd6.nil (w : World) : Rd6 w (.slice none 0 0) [] := ⟨none, 0, rfl, .inl rfl⟩
theorem Rd6.own {B : Nat} {w : World} {v : Value} {zs : List Int} (h : w.ownsRow B 3 1 v zs.length (flat zs)) : Rd6 w v zs := by
  obtain ⟨⟨a, c, e, l⟩, -⟩ := own_lies6 h
  exact ⟨a, c, e, l⟩
theorem Ow6.same {B : Nat} {w : World} {v v' : Value} {zs : List Int} (h : Ow6 B w v zs) (k : Rd6 w v' zs) : Calls Tryz.prog 13 #[v, v'] w fun e w' => e = .returned (.bool true) ∧ Below w.heap.size w w' := by
  obtain ⟨a, c, rfl, l⟩ := h.rd
  obtain ⟨a', c', rfl, l'⟩ := k
  exact same_ints a a' c c' zs w l l' (by have := h.2; unfold maxLen; omega)

/-- what the reference's Order answers -/
def OrC (n : Int) (N : Nat) (ps : List Pr) (zs ys : List Int) : Prop := ∀ (w2 : World) (b : Option Addr) (cap' : Nat), LiesA w2 b ps → Calls Tryz.prog 9 #[.int .i64 n, .slice b N cap'] w2 fun e w3 => ∃ v' u' E', e = .returned (.tuple #[v', u', .int .i64 E']) ∧ Below w2.heap.size w2 w3 ∧ Rd6 w3 v' zs ∧ Rd6 w3 u' ys
theorem order_own (n : Int) (a : Option Addr) (cap : Nat) (N : Nat) (ps : List Pr) (w : World) (hN : ps.length = N) (hL : LiesA w a ps) (hm : N ≤ 8796093022208) :
    Calls Tryz.prog 5 #[.int .i64 n, .slice a N cap] w fun e w' => ∃ v u E zs ys, e = .returned (.tuple #[v, u, .int .i64 E]) ∧ Below w.heap.size w w' ∧ Ow6 w.heap.size w' v zs ∧ Ow6 w.heap.size w' u ys ∧ (∀ g, v.ownBlock = some g → u.ownBlock ≠ some g) ∧ OrC n N ps zs ys := by
  subst hN
  cases ht : things n ps with
  | false =>
    exact (order_bad n a cap ps w hL hm ht).mono fun e w' ⟨h1, h2⟩ => ⟨_, _, _, [], [], h1, h2, Ow6.nil _ _, Ow6.nil _ _, (fun g h => by cases h), fun w2 b cap' hL2 => (rorder_bad n b cap' ps w2 hL2 hm ht).mono fun e w3 ⟨h3, h4⟩ => ⟨_, _, _, h3, by rw [h4]; exact Below.refl _ _, Rd6.nil _, Rd6.nil _⟩⟩
  | true =>
    obtain ⟨nn, rfl⟩ : ∃ nn : Nat, n = (nn : Int) := ⟨n.toNat, by unfold things at ht; simp only [Bool.and_eq_true, decide_eq_true_eq] at ht; omega⟩
    obtain ⟨hn, hps⟩ := things_spec ht
    refine (order_any nn cap a ps w hL hm ht).mono fun e w' ⟨v, u, E, h1, h2, h3⟩ => ?_
    rcases h3 with ⟨rfl, rfl, N, os, hN, hl, hnl, ho⟩ | ⟨rfl, rfl, f, l, ho, hF, hC⟩
    · refine ⟨_, _, _, os, [], h1, h2, ⟨ho, by omega⟩, Ow6.nil _ _, (fun g _ h => by cases h), fun w2 b cap' hL2 => (rorder nn cap' b ps w2 hL2 hm ht).mono fun e w3 ⟨v', u', E', h4, h5, h6⟩ => ⟨v', u', E', h4, h5, ?_⟩⟩
      rcases h6 with ⟨rfl, rfl, os', hg, hn', ho'⟩ | ⟨rfl, rfl, f', l', ho', hF', hC'⟩
      · have e := (hl.gn hN).uniq hg
        subst e
        exact ⟨Rd6.own ho', Rd6.nil _⟩
      · exact absurd hF'.1 (Ln.noc hps hN hl hnl f')
    · refine ⟨_, _, _, [], (f : Int) :: l, h1, h2, Ow6.nil _ _, ⟨ho, by have := hC.len hps; simp; omega⟩, (fun g h => by cases h), fun w2 b cap' hL2 => (rorder nn cap' b ps w2 hL2 hm ht).mono fun e w3 ⟨v', u', E', h4, h5, h6⟩ => ⟨v', u', E', h4, h5, ?_⟩⟩
      rcases h6 with ⟨rfl, rfl, os', hg, hn', ho'⟩ | ⟨rfl, rfl, f', l', ho', hF', hC'⟩
      · exfalso
        have hfn : f < nn := by
          obtain ⟨z, he, -⟩ := hF.1
          have h1 := (hps _ he).1
          simp only at h1
          omega
        exact hg.noc ((full_iff hg.nodup hg.mem).1 hn' f hfn) hF.1
      · have e := hF.uniq hF'
        subst e
        have e := hC.uniq hC'
        subst e
        exact ⟨Rd6.nil _, Rd6.own ho'⟩

/-- what the reference's Reach answers -/
def RcC (n x : Int) (N : Nat) (ps : List Pr) (zs : List Int) : Prop := ∀ (w2 : World) (b : Option Addr) (cap' : Nat), LiesA w2 b ps → Calls Tryz.prog 11 #[.int .i64 n, .slice b N cap', .int .i64 x] w2 fun e w3 => ∃ v' E', e = .returned (.tuple #[v', .int .i64 E']) ∧ Below w2.heap.size w2 w3 ∧ Rd6 w3 v' zs
theorem reach_own (n x : Int) (a : Option Addr) (cap : Nat) (N : Nat) (ps : List Pr) (w : World) (hN : ps.length = N) (hL : LiesA w a ps) (hm : N ≤ 8796093022208) :
    Calls Tryz.prog 7 #[.int .i64 n, .slice a N cap, .int .i64 x] w fun e w' => ∃ v E zs, e = .returned (.tuple #[v, .int .i64 E]) ∧ Below w.heap.size w w' ∧ Ow6 w.heap.size w' v zs ∧ RcC n x N ps zs := by
  subst hN
  cases hok : (things n ps && thg n x) with
  | false =>
    exact (reach_bad n x a cap ps w hL (by omega) hok).mono fun e w' ⟨h1, h2⟩ => ⟨_, _, [], h1, h2, Ow6.nil _ _, fun w2 b cap' hL2 => (rreach_bad n x b cap' ps w2 hL2 (by omega) hok).mono fun e w3 ⟨h3, h4⟩ => ⟨_, _, h3, by rw [h4]; exact Below.refl _ _, Rd6.nil _⟩⟩
  | true =>
    rw [Bool.and_eq_true] at hok
    obtain ⟨ht, hx⟩ := hok
    obtain ⟨nn, rfl⟩ : ∃ nn : Nat, n = (nn : Int) := ⟨n.toNat, by unfold things at ht; simp only [Bool.and_eq_true, decide_eq_true_eq] at ht; omega⟩
    unfold thg at hx
    simp only [Bool.and_eq_true, decide_eq_true_eq] at hx
    obtain ⟨xn, rfl⟩ : ∃ xn : Nat, x = (xn : Int) := ⟨x.toNat, by omega⟩
    have hxn : xn < nn := by omega
    obtain ⟨hn, hps⟩ := things_spec ht
    exact (reach_ok nn xn cap a ps w hL (by omega) ht hxn).mono fun e w' ⟨v, h1, h2, zs, h3, h4⟩ => ⟨v, _, zs, h1, h2, ⟨by rw [flat_ints]; exact h3, by have := h4.2.1; omega⟩, fun w2 b cap' hL2 => (rreach_ok nn xn cap' b ps w2 hL2 (by omega) ht hxn).mono fun e w3 ⟨v3, h5, h6, ys, h7, h8⟩ => by
      have e := h4.one h8
      subst e
      exact ⟨v3, _, h5, h6, Rd6.own (by rw [flat_ints]; exact h7)⟩⟩

/-- what the reference's Classes answers -/
def ClC (n : Int) (N : Nat) (ps : List Pr) (zs : List Int) : Prop := ∀ (w2 : World) (b : Option Addr) (cap' : Nat), LiesA w2 b ps → Calls Tryz.prog 12 #[.int .i64 n, .slice b N cap'] w2 fun e w3 => ∃ v' E', e = .returned (.tuple #[v', .int .i64 E']) ∧ Below w2.heap.size w2 w3 ∧ Rd6 w3 v' zs
theorem classes_own (n : Int) (a : Option Addr) (cap : Nat) (N : Nat) (ps : List Pr) (w : World) (hN : ps.length = N) (hL : LiesA w a ps) (hn0 : a = none → N = 0 ∧ cap = 0) (hm : N ≤ 8796093022208) :
    Calls Tryz.prog 8 #[.int .i64 n, .slice a N cap] w fun e w' => ∃ v E zs, e = .returned (.tuple #[v, .int .i64 E]) ∧ Below w.heap.size w w' ∧ Ow6 w.heap.size w' v zs ∧ ClC n N ps zs := by
  subst hN
  cases ht : things n ps with
  | false =>
    exact (classes_bad n a cap ps w hL hm ht).mono fun e w' ⟨h1, h2⟩ => ⟨_, _, [], h1, h2, Ow6.nil _ _, fun w2 b cap' hL2 => (rclasses_bad n b cap' ps w2 hL2 hm ht).mono fun e w3 ⟨h3, h4⟩ => ⟨_, _, h3, by rw [h4]; exact Below.refl _ _, Rd6.nil _⟩⟩
  | true =>
    obtain ⟨nn, rfl⟩ : ∃ nn : Nat, n = (nn : Int) := ⟨n.toNat, by unfold things at ht; simp only [Bool.and_eq_true, decide_eq_true_eq] at ht; omega⟩
    obtain ⟨hn, hps⟩ := things_spec ht
    exact (classes_ok nn cap a ps w hL hn0 hm ht).mono fun e w' ⟨v, h1, h2, zs, h3, h4⟩ => ⟨v, _, zs, h1, h2, ⟨by rw [flat_ints]; exact h3, by have := h4.1; omega⟩, fun w2 b cap' hL2 => (rclasses_ok nn cap' b ps w2 hL2 hm ht).mono fun e w3 ⟨v3, h5, h6, ys, h7, h8⟩ => by
      have e := h4.one h8
      subst e
      exact ⟨v3, _, h5, h6, Rd6.own (by rw [flat_ints]; exact h7)⟩⟩

/-- rows of rows of the call's own: no two share memory -/
def RvA (B : Nat) (w : World) (v : Value) (pss : List (List Int)) : Prop := ∃ vals : List Value, w.ownsRow B 32 1 v vals.length vals ∧ vals.length = pss.length ∧ (∀ (i : Nat) p, pss[i]? = some p → ∃ u, vals[i]? = some u ∧ Ow6 B w u p) ∧ ∀ (i j : Nat) u u', i ≠ j → vals[i]? = some u → vals[j]? = some u' → ∀ g, u.ownBlock = some g → u'.ownBlock ≠ some g
theorem RvA.below {B : Nat} {w w' : World} {v : Value} {pss : List (List Int)} (h : RvA B w v pss) (hb : Below w.heap.size w w') : RvA B w' v pss := by
  obtain ⟨vals, h1, h2, h3, h4⟩ := h
  refine ⟨vals, own_belowR h1 hb (Nat.le_refl _), h2, fun i p hp => ?_, h4⟩
  obtain ⟨u, k1, k2⟩ := h3 i p hp
  exact ⟨u, k1, k2.below hb⟩
theorem RvA.nil (B : Nat) (w : World) : RvA B w (.slice none 0 0) [] := ⟨[], World.ownsRow_nil _ _ _ _, rfl, fun i p hp => by simp at hp, fun i j u u' _ hu => by simp at hu⟩
theorem RvA.rv {B : Nat} {w : World} {v : Value} {pss : List (List Int)} (h : RvA B w v pss) : Rv B w v pss := by
  obtain ⟨vals, h1, h2, h3, h4⟩ := h
  refine ⟨vals, h1, h2, fun i p hp => ?_⟩
  obtain ⟨u, k1, k2⟩ := h3 i p hp
  exact ⟨u, k1, by have := k2.1; rw [flat_ints] at this; exact this⟩
theorem RvA.of {B n : Nat} {w : World} {v : Value} {ps : List Pr} {pss : List (List Int)} (h : Rv B w v pss) (hP : Prt ps n pss) (hn : n ≤ 131072) : RvA B w v pss := by
  obtain ⟨vals, h1, h2, h3⟩ := h
  refine ⟨vals, h1, h2, fun i p hp => ?_, fun i j u u' hij hu hu' g hg hg' => ?_⟩
  · obtain ⟨u, k1, k2⟩ := h3 i p hp
    have hl : p.length ≤ n := nodup_le (pw_nodup (hP.up i p hp).1) (hP.up i p hp).2.2
    exact ⟨u, k1, by rw [flat_ints]; exact k2, by omega⟩
  · have hil := (List.getElem?_eq_some_iff.1 hu).1
    have hjl := (List.getElem?_eq_some_iff.1 hu').1
    obtain ⟨p, hp⟩ : ∃ p, pss[i]? = some p := ⟨_, List.getElem?_eq_getElem (by omega)⟩
    obtain ⟨q, hq⟩ : ∃ q, pss[j]? = some q := ⟨_, List.getElem?_eq_getElem (by omega)⟩
    have head : ∀ {i : Nat} {u : Value} {p : List Int}, vals[i]? = some u → pss[i]? = some p → u.ownBlock = some g → ∃ x r, p = x :: r ∧ w.cell? ⟨g, 0, none⟩ = some (.int .i64 x) := fun {i u p} hu hp hg => by
      obtain ⟨u2, k1, k2⟩ := h3 i p hp
      rw [hu] at k1
      cases k1
      obtain ⟨a, c, rfl, ha, -⟩ := own_slice k2
      cases p with
      | nil => exact absurd rfl (hP.up i _ hp).2.1
      | cons x r =>
        obtain ⟨g', rfl⟩ := ha (by simp)
        cases hg
        exact ⟨x, r, rfl, by have := k2.cells rfl 0 (.int .i64 x) rfl; simpa [Addr.add] using this⟩
    obtain ⟨x, r, rfl, hx⟩ := head hu hp hg
    obtain ⟨y, s, rfl, hy⟩ := head hu' hq hg'
    rw [hx] at hy
    have e : x = y := by injection hy with hy; injection hy
    subst e
    exact hij (hP.one i j _ _ x hp hq (by simp) (by simp))

/-- what the reference's Parts answers -/
def PtC (n : Int) (N : Nat) (ps : List Pr) (pss : List (List Int)) : Prop := ∀ (w2 : World) (b : Option Addr) (cap' : Nat), LiesA w2 b ps → Calls Tryz.prog 10 #[.int .i64 n, .slice b N cap'] w2 fun e w3 => ∃ v' E', e = .returned (.tuple #[v', .int .i64 E']) ∧ Below w2.heap.size w2 w3 ∧ ∃ a' c', v' = .slice a' pss.length c' ∧ Rq6 w3.heap.size w3 a' pss
theorem parts_own (n : Int) (a : Option Addr) (cap : Nat) (N : Nat) (ps : List Pr) (w : World) (hN : ps.length = N) (hL : LiesA w a ps) (hm : N ≤ 8796093022208) :
    Calls Tryz.prog 6 #[.int .i64 n, .slice a N cap] w fun e w' => ∃ v E pss, e = .returned (.tuple #[v, .int .i64 E]) ∧ Below w.heap.size w w' ∧ RvA w.heap.size w' v pss ∧ PtC n N ps pss := by
  subst hN
  cases ht : things n ps with
  | false =>
    exact (parts_bad n a cap ps w hL hm ht).mono fun e w' ⟨h1, h2⟩ => ⟨_, _, [], h1, h2, RvA.nil _ _, fun w2 b cap' hL2 => (rparts_bad n b cap' ps w2 hL2 hm ht).mono fun e w3 ⟨h3, h4⟩ => ⟨_, _, h3, by rw [h4]; exact Below.refl _ _, none, 0, rfl, fun i p hp => by simp at hp⟩⟩
  | true =>
    obtain ⟨nn, rfl⟩ : ∃ nn : Nat, n = (nn : Int) := ⟨n.toNat, by unfold things at ht; simp only [Bool.and_eq_true, decide_eq_true_eq] at ht; omega⟩
    obtain ⟨hn, hps⟩ := things_spec ht
    exact (parts_ok nn cap a ps w hL hm ht).mono fun e w' ⟨v, h1, h2, lw, N, os, h3, h4, h5, h6⟩ => ⟨v, 0, pts nn lw os, h1, h2, RvA.of h6 (pts_prt h3 h4 h5) hn, fun w2 b cap' hL2 => (rparts_ok nn cap' b ps w2 hL2 hm ht).mono fun e w3 hG => by
      unfold PtG at hG
      obtain ⟨a', c', os', lw', k1, k2, k3, k4, k5, k6⟩ := hG
      have e1 := parts_same h3 h4 h5 k3 k4
      rw [← e1] at k5
      have e3 : os'.length = (pts nn lw os).length := by rw [e1, List.length_map]
      exact ⟨_, _, k1, k2, a', c', by rw [e3], k5⟩⟩
theorem RvA.same {B : Nat} {w : World} {v v' : Value} {pss : List (List Int)} (h : RvA B w v pss) {a' : Option Addr} {c' : Nat} (hv : v' = .slice a' pss.length c') (k : Rq6 w.heap.size w a' pss) : Calls Tryz.prog 14 #[v, v'] w fun e w' => e = .returned (.bool true) ∧ Below w.heap.size w w' := by
  obtain ⟨a, c, rfl, h1, h2⟩ := h.rv.rq
  subst hv
  exact sameParts_any a a' c c' pss w h1 k h2
theorem OrC.go {n : Int} {N : Nat} {ps : List Pr} {zs ys : List Int} (h : OrC n N ps zs ys) (w2 : World) (b : Option Addr) (cap' : Nat) (hL : LiesA w2 b ps) : Calls Tryz.prog 9 #[.int .i64 n, .slice b N cap'] w2 fun e w3 => ∃ v' u' E', e = .returned (.tuple #[v', u', .int .i64 E']) ∧ Below w2.heap.size w2 w3 ∧ Rd6 w3 v' zs ∧ Rd6 w3 u' ys := h w2 b cap' hL
theorem RcC.go {n x : Int} {N : Nat} {ps : List Pr} {zs : List Int} (h : RcC n x N ps zs) (w2 : World) (b : Option Addr) (cap' : Nat) (hL : LiesA w2 b ps) : Calls Tryz.prog 11 #[.int .i64 n, .slice b N cap', .int .i64 x] w2 fun e w3 => ∃ v' E', e = .returned (.tuple #[v', .int .i64 E']) ∧ Below w2.heap.size w2 w3 ∧ Rd6 w3 v' zs := h w2 b cap' hL
theorem ClC.go {n : Int} {N : Nat} {ps : List Pr} {zs : List Int} (h : ClC n N ps zs) (w2 : World) (b : Option Addr) (cap' : Nat) (hL : LiesA w2 b ps) : Calls Tryz.prog 12 #[.int .i64 n, .slice b N cap'] w2 fun e w3 => ∃ v' E', e = .returned (.tuple #[v', .int .i64 E']) ∧ Below w2.heap.size w2 w3 ∧ Rd6 w3 v' zs := h w2 b cap' hL
theorem PtC.go {n : Int} {N : Nat} {ps : List Pr} {pss : List (List Int)} (h : PtC n N ps pss) (w2 : World) (b : Option Addr) (cap' : Nat) (hL : LiesA w2 b ps) : Calls Tryz.prog 10 #[.int .i64 n, .slice b N cap'] w2 fun e w3 => ∃ a' c' E', e = .returned (.tuple #[.slice a' pss.length c', .int .i64 E']) ∧ Below w2.heap.size w2 w3 ∧ Rq6 w3.heap.size w3 a' pss :=
  (h w2 b cap' hL).mono fun e w3 ⟨v', E', h1, h2, a', c', h3, h4⟩ => ⟨a', c', E', by rw [h1, h3], h2, h4⟩
theorem parts_own2 (n : Int) (a : Option Addr) (cap : Nat) (N : Nat) (ps : List Pr) (w : World) (hN : ps.length = N) (hL : LiesA w a ps) (hm : N ≤ 8796093022208) :
    Calls Tryz.prog 6 #[.int .i64 n, .slice a N cap] w fun e w' => ∃ aP cP E pss, e = .returned (.tuple #[.slice aP pss.length cP, .int .i64 E]) ∧ Below w.heap.size w w' ∧ RvA w.heap.size w' (.slice aP pss.length cP) pss ∧ PtC n N ps pss ∧ pss.length ≤ 9223372036854775807 :=
  (parts_own n a cap N ps w hN hL hm).mono fun e w' ⟨v, E, pss, h1, h2, h3, h4⟩ => by
    obtain ⟨aP, cP, rfl, -, h5⟩ := h3.rv.rq
    exact ⟨aP, cP, E, pss, h1, h2, h3, h4, h5⟩
theorem Ow6.sameAt {B : Nat} {w w' : World} {v v' : Value} {zs : List Int} (h : Ow6 B w v zs) (k : Rd6 w v' zs) (hb : Below w.heap.size w w') : Calls Tryz.prog 13 #[v, v'] w' fun e w'' => e = .returned (.bool true) ∧ Below w'.heap.size w' w'' := (h.below hb).same (k.below hb)
theorem RvA.sameAt {B : Nat} {w w' : World} {v : Value} {pss : List (List Int)} (h : RvA B w v pss) {a' : Option Addr} {c' : Nat} (k : Rq6 w.heap.size w a' pss) (hb : Below w.heap.size w w') : Calls Tryz.prog 14 #[v, .slice a' pss.length c'] w' fun e w'' => e = .returned (.bool true) ∧ Below w'.heap.size w' w'' := (h.below hb).same rfl (k.below hb)
end Go.Proofs.YtgijcbipnjmhgabGreat
