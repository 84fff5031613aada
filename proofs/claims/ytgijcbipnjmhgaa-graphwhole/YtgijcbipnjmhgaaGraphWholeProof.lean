import Derived.Test.YtgijcbipnjmhgaaGraphLowestProof
import Derived.Test.YtgijcbipnjmhgaaSmD
import Derived.Test.YtgijcbipnjmhgaaOpp
namespace Go.Proofs.Ytgijcbipnjmhgaa
open Go.ChangeShapes Go.WideShapes Go.ChangeAt Go.RowKit
set_option linter.unusedVariables false
set_option linter.unusedSimpArgs false

/-- what Order answers: a line of all, or a cycle -/
def OrE (B n : Nat) (ps : List Pr) (w : World) (v u : Value) (E : Int) : Prop :=
  (E = 0 ∧ u = .slice none 0 0 ∧ ∃ N os, LstR n ps N ∧ Ln N n os ∧ os.length = n ∧ w.ownsRow B 3 1 v os.length (flat os)) ∨
  (E = 73 ∧ v = .slice none 0 0 ∧ ∃ (f : Nat) (l : List Int), w.ownsRow B 3 1 u ((f : Int) :: l).length (flat ((f : Int) :: l)) ∧ Fst ps f ∧ Cyc ps f f l)
theorem order_any (n cap : Nat) (a : Option Addr) (ps : List Pr) (w : World) (hL : LiesA w a ps) (hm : ps.length ≤ 8796093022208) (ht : things (n : Int) ps = true) :
    Calls Try.prog 19 #[.int .i64 (n : Int), .slice a ps.length cap] w fun e w' => ∃ v u E, e = .returned (.tuple #[v, u, .int .i64 E]) ∧ Below w.heap.size w w' ∧ OrE w.heap.size n ps w' v u E := by
  by_cases hex : ∃ x, OnC ps x
  · exact (order_cyc n cap a ps w hL hm ht hex).mono fun e w' ⟨v, h1, h2, f, l, h3, h4, h5⟩ => ⟨_, v, 73, h1, h2, .inr ⟨rfl, rfl, f, l, h3, h4, h5⟩⟩
  · exact (order_yes n cap a ps w hL hm ht (fun x hx => hex ⟨x, hx⟩)).mono fun e w' ⟨v, h1, h2, N, os, h3, h4, h5, h6⟩ => ⟨v, _, 0, h1, h2, .inl ⟨rfl, rfl, N, os, h3, h4, h5, h6⟩⟩
set_option maxRecDepth 1000000 in
set_option maxHeartbeats 2000000 in
theorem whole_bad (n : Int) (s : Option Addr) (cap : Nat) (ps : List Pr) (w : World) (hL : LiesA w s ps) (hm : ps.length ≤ 8796093022208) (h : things n ps = false) :
    Calls Try.prog 8 #[.int .i64 n, .slice s ps.length cap] w fun e w' => e = .returned (.bool true) ∧ Below w.heap.size w w' := by
  have HL := hidH hL
  have HT := hidH h
  have QA := hidH (order_bad n s cap ps w hL hm h)
  clear hL h
  go_enter Try.func8, Try.ntmps8
  go_wp2_with (first
    | (go_at_call 19; (with_reducible refine QA.out.mono ?_); clear QA; rintro e w1 ⟨rfl, hb1⟩; have HB1 := hidH hb1; have QP := hidH (parts_bad n s cap ps w1 (HL.out.below hb1) hm HT.out); clear hb1)
    | (go_at_call 16; (with_reducible refine QP.out.mono ?_); clear QP; rintro e w2 ⟨rfl, hb2⟩; have HB2 := hidH (HB1.out.trans (hb2.mono HB1.out.size)); have QT := hidH (right_any n s cap ps w2 (HL.out.below HB2.out) hm); rw [HT.out] at QT; clear hb2 HB1)
    | (go_at_call 17; (with_reducible refine QT.out.mono ?_); clear QT; rintro e w3 ⟨rfl, hb3⟩; have HB3 := hidH (HB2.out.trans (hb3.mono HB2.out.size)); clear hb3 HB2))
  go_ret
  exact ⟨rfl, HB3.out⟩
set_option maxRecDepth 1000000 in
set_option maxHeartbeats 2000000 in
theorem needs_any (s : Option Addr) (cap : Nat) (ps : List Pr) (a b : Int) (t : Bool) (w : World) (hL : LiesA w s ps) (hm : ps.length ≤ 8796093022208) (ht : t = true ↔ (⟨a, b⟩ : Pr) ∈ ps) :
    Calls Try.prog 21 #[.slice s ps.length cap, .int .i64 a, .int .i64 b] w fun e w' => e = .returned (.bool t) ∧ Below w.heap.size w w' := by
  have HL := hidH hL
  have HT := hidH ht
  clear hL ht
  go_enter Try.func21, Try.ntmps21
  go_wp2
  go_loopg [11] ps.length (fun gk si wr => ∃ k : Nat, gk = ps.length - k ∧ si = .int .i64 (k : Int) ∧ k ≤ ps.length ∧ (⟨a, b⟩ : Pr) ∉ ps.take k ∧ Below w.heap.size w wr)
  case atStart => exact ⟨0, rfl, rfl, Nat.zero_le _, by simp, Below.refl _ _⟩
  case round =>
    obtain ⟨k, hgk, rfl, hk, hno, hE⟩ := hrel
    have EK := hidH hE
    have HNO := hidH hno
    clear hE hno
    by_cases hkp : k < ps.length
    · have hkp' : (k : Int) < (ps.length : Int) := by omega
      obtain ⟨p, hp⟩ : ∃ p, ps[k]? = some p := ⟨_, List.getElem?_eq_getElem hkp⟩
      obtain ⟨gs, o, hs, hLi⟩ : ∃ b o, s = some ⟨b, o, none⟩ ∧ Lies w b o ps := by
        rcases HL.out with h | h
        · rw [h] at hkp; exact absurd hkp (Nat.not_lt_zero _)
        · exact h
      subst hs
      obtain ⟨x, y⟩ := p
      obtain ⟨d0, d1⟩ := (hLi.below EK.out hLi.1).pr hp
      simp only at d0 d1
      have HP := hidH hp
      have kk : IntKind.i64.wrap ((k : Int) + 1) = ((k + 1 : Nat) : Int) := by rw [IntWalk.i64_in _ ⟨by omega, by omega⟩]; omega
      clear hp hLi
      go_upto_region 4 with fail
      obtain ⟨w9, e9, hb9, hs9, X9⟩ := bx1 wr #[.int .i64 x, .int .i64 y] 40
      rw [e9]
      obtain ⟨q, hq⟩ : ∃ q, wr.heap.size = q := ⟨_, rfl⟩
      rw [hq] at X9 ⊢
      have c90 := X9.cell 0
      have c91 := X9.cell 1
      have E9 := hidH (EK.out.trans (hb9.mono EK.out.size))
      simp at c90 c91
      clear e9 d0 d1 X9 hb9 hs9
      by_cases hx : x = a
      · subst hx
        by_cases hy : y = b
        · subst hy
          have ht1 : t = true := HT.out.2 (List.mem_of_getElem? HP.out)
          subst ht1
          go_wp2
          go_ret
          exact ⟨rfl, E9.out⟩
        · have hy1 : (y == b) = false := by rw [beq_eq_false_iff_ne]; exact hy
          go_wp2
          go_roundg (ps.length - (k + 1))
          case measure => omega
          case rel => exact ⟨k + 1, rfl, rfl, by omega, by obtain ⟨h1, e1⟩ := List.getElem?_eq_some_iff.1 HP.out; rw [List.take_succ_eq_append_getElem h1, e1, List.mem_append, List.mem_singleton]; exact fun h => h.elim HNO.out (fun e => by injection e with e1 e2; exact hy e2.symm), E9.out⟩
      · have hx1 : (x == a) = false := by rw [beq_eq_false_iff_ne]; exact hx
        go_wp2
        go_roundg (ps.length - (k + 1))
        case measure => omega
        case rel => exact ⟨k + 1, rfl, rfl, by omega, by obtain ⟨h1, e1⟩ := List.getElem?_eq_some_iff.1 HP.out; rw [List.take_succ_eq_append_getElem h1, e1, List.mem_append, List.mem_singleton]; exact fun h => h.elim HNO.out (fun e => by injection e with e1 e2; exact hx e1.symm), E9.out⟩
    · have hkp' : ¬ (k : Int) < (ps.length : Int) := by omega
      have ht1 : t = false := by
        rw [Bool.eq_false_iff]
        intro e
        have h9 := HNO.out
        rw [show k = ps.length by omega, List.take_length] at h9
        exact h9 (HT.out.1 e)
      subst ht1
      go_wp2
      go_ret
      exact ⟨rfl, EK.out⟩
/-- each part is one thing -/
def sgl (pss : List (List Int)) : Bool := pss.all fun p => decide (p.length = 1)
theorem sgl_take {pss : List (List Int)} {i : Nat} {p : List Int} (h : pss[i]? = some p) : sgl (pss.take (i + 1)) = (sgl (pss.take i) && decide (p.length = 1)) := by
  obtain ⟨h1, e1⟩ := List.getElem?_eq_some_iff.1 h
  unfold sgl
  rw [List.take_succ_eq_append_getElem h1, e1, List.all_append]
  simp
/-- no thing needs itself -/
def nsl (ps : List Pr) : Bool := ps.all fun p => decide (p.a ≠ p.b)
theorem nsl_take {ps : List Pr} {i : Nat} {p : Pr} (h : ps[i]? = some p) : nsl (ps.take (i + 1)) = (nsl (ps.take i) && decide (p.a ≠ p.b)) := by
  obtain ⟨h1, e1⟩ := List.getElem?_eq_some_iff.1 h
  unfold nsl
  rw [List.take_succ_eq_append_getElem h1, e1, List.all_append]
  simp
theorem sn_yes {pss : List (List Int)} {ps : List Pr} (h : (sgl pss && nsl ps) = true) : (∀ p ∈ pss, p.length = 1) ∧ ∀ x, ¬ Eg ps x x := by
  simp only [Bool.and_eq_true, sgl, nsl, List.all_eq_true, decide_eq_true_eq] at h
  exact ⟨h.1, fun x he => h.2 _ he rfl⟩
theorem sn_no {pss : List (List Int)} {ps : List Pr} {n : Nat} (hr : ∀ p ∈ ps, (0 ≤ p.a ∧ p.a < (n : Int)) ∧ (0 ≤ p.b ∧ p.b < (n : Int))) (h : (sgl pss && nsl ps) = false) : ¬ ((∀ p ∈ pss, p.length = 1) ∧ ∀ x, ¬ Eg ps x x) := fun ⟨h1, h2⟩ => by
  have : (sgl pss && nsl ps) = true := by
    simp only [Bool.and_eq_true, sgl, nsl, List.all_eq_true, decide_eq_true_eq]
    refine ⟨h1, fun p hp e => ?_⟩
    have hrp := hr p hp
    obtain ⟨a, b⟩ := p
    simp only at e hrp
    subst e
    refine h2 a.toNat ?_
    show (⟨((a.toNat : Nat) : Int), ((a.toNat : Nat) : Int)⟩ : Pr) ∈ ps
    rw [show ((a.toNat : Nat) : Int) = a by omega]
    exact hp
  rw [h] at this
  cases this
theorem Prt.nocyc {ps : List Pr} {n : Nat} {pss : List (List Int)} (hP : Prt ps n pss) (hr : ∀ p ∈ ps, (0 ≤ p.a ∧ p.a < (n : Int)) ∧ (0 ≤ p.b ∧ p.b < (n : Int))) (hs : ∀ p ∈ pss, p.length = 1) (hno : ∀ x, ¬ Eg ps x x) (x : Nat) : ¬ OnC ps x := fun ⟨z, he, hz⟩ => by
  have hrp := hr _ he
  simp only at hrp
  obtain ⟨i, p, hp, hxp⟩ := hP.all x (by omega)
  have hzp := (hP.sam i p x z hp hxp).2 ⟨by omega, .step he (.refl _), hz⟩
  have h1 := hs p (List.mem_of_getElem? hp)
  obtain ⟨u, rfl⟩ := List.length_eq_one_iff.1 h1
  rw [List.mem_singleton] at hxp hzp
  have : x = z := by omega
  subst this
  exact hno x he
/-- two rows of the call's own: the parts' numbers, all things -/
structure Wl (B PB n : Nat) (w : World) (V : Value) (fs al : List Int) : Prop where
  pr : w.ownsRow B 3 1 (.slice (some ⟨PB, 0, none⟩) n n) n (flat fs)
  al : w.ownsRow B 3 1 V al.length (flat al)
  ap : V.ownBlock ≠ some PB
theorem Wl.below {B PB n : Nat} {w w' : World} {V : Value} {fs al : List Int} (h : Wl B PB n w V fs al) (hb : Below w.heap.size w w') : Wl B PB n w' V fs al :=
  ⟨own_belowR h.pr hb (Nat.le_refl _), own_belowR h.al hb (Nat.le_refl _), h.ap⟩
theorem Wl.set {B PB n : Nat} {w : World} {V : Value} {fs al : List Int} (h : Wl B PB n w V fs al) (y : Nat) (v : Int) : Wl B PB n (w.setCell ⟨PB, y, none⟩ (.int .i64 v)) V (fs.set y v) al := by
  refine ⟨?_, ownsRow_setCell_other h.al (a := ⟨PB, y, none⟩) h.ap _, h.ap⟩
  have h1 := (World.ownsRow.stored h.pr y (.int .i64 v)).1
  rw [flat_setI] at h1
  exact h1
theorem Wl.push {B PB n m : Nat} {w w' : World} {V V' : Value} {fs al p : List Int} (h : Wl B PB n w V fs al) (hm : p.length = m) (ho : w'.ownsRow B 3 1 V' (al.length + m) (flat al ++ flat p)) (hg : w.grownBy w' V.ownBlock) (hn : V'.ownBlock = V.ownBlock ∨ ∃ g, V'.ownBlock = some g ∧ w.heap.size ≤ g) : Wl B PB n w' V' fs (al ++ p) := by
  have hB := (h.pr.lt PB rfl).2
  refine ⟨own_same h.pr (fun g e => ?_), ?_, ?_⟩
  · cases e
    exact hg.block PB hB (fun e2 => h.ap e2.symm)
  · rw [List.length_append, flat_append, hm]
    exact ho
  · rcases hn with e | ⟨g, e, hg2⟩
    · rw [e]; exact h.ap
    · rw [e]; intro e2; injection e2; omega
end Go.Proofs.Ytgijcbipnjmhgaa

namespace Go.Proofs.Ytgijcbipnjmhgaa
open Go.ChangeShapes Go.WideShapes Go.ChangeAt Go.RowKit
set_option linter.unusedVariables false
set_option linter.unusedSimpArgs false

theorem cyc_next {f : Int} {l : List Int} {i : Nat} {z : Int} (h : (l ++ [f])[i]? = some z) : (f :: l)[(i + 1) % (f :: l).length]? = some z := by
  have hi := (List.getElem?_eq_some_iff.1 h).1
  rw [List.length_append, List.length_singleton] at hi
  rw [List.length_cons]
  by_cases e : i < l.length
  · rw [List.getElem?_append_left e] at h
    rw [Nat.mod_eq_of_lt (by omega), List.getElem?_cons_succ]
    exact h
  · have e2 : i = l.length := by omega
    subst e2
    rw [List.getElem?_append_right (Nat.le_refl _), Nat.sub_self] at h
    rw [Nat.mod_self]
    exact h
set_option maxRecDepth 1000000 in
set_option maxHeartbeats 8000000 in
theorem whole_ok (n cap : Nat) (s : Option Addr) (ps : List Pr) (w : World) (hL : LiesA w s ps) (hm : ps.length ≤ 8796093022208) (ht : things (n : Int) ps = true) :
    Calls Try.prog 8 #[.int .i64 (n : Int), .slice s ps.length cap] w fun e w' => e = .returned (.bool true) ∧ Below w.heap.size w w' := by
  obtain ⟨hn, hps⟩ := things_spec ht
  obtain ⟨i0, hi0, hz0, hz1, hz2⟩ := info_parts infoIntH
  have HL := hidH hL
  have HT := hidH ht
  have HPS := hidH hps
  have QA := hidH (order_any n cap s ps w hL hm ht)
  clear hL ht hps
  go_enter Try.func8, Try.ntmps8
  go_upto_region 7 with (first
    | (go_at_call 19; (with_reducible refine QA.out.mono ?_); clear QA; rintro e w1 ⟨v5, v6, E7, rfl, hb1, hor⟩; have HB1 := hidH hb1; have ORE := hidH hor; have QP := hidH (parts_ok n cap s ps w1 (HL.out.below hb1) hm HT.out); clear hb1 hor)
    | (go_at_call 16; (with_reducible refine QP.out.mono ?_); clear QP; rintro e w2 ⟨v8, rfl, hb2, lw, N, os, hlw, hN, hln, hrv⟩; have HB2 := hidH (HB1.out.trans (hb2.mono HB1.out.size)); have B12 := hidH hb2; have LWS := hidH hlw; have LN := hidH hN; have LNN := hidH hln; have RV := hidH hrv; have QT := hidH (right_any (n : Int) s cap ps w2 (HL.out.below HB2.out) hm); rw [HT.out] at QT; clear hb2 hlw hN hln hrv)
    | (go_at_call 17; (with_reducible refine QT.out.mono ?_); clear QT; rintro e w3 ⟨rfl, hb3⟩; have HB3 := hidH (HB2.out.trans (hb3.mono HB2.out.size)); have B13 := hidH (B12.out.trans (hb3.mono B12.out.size)); have B23 := hidH hb3; clear hb3 HB2 B12))
  obtain ⟨G, hG⟩ : ∃ G, w3.heap.size = G := ⟨_, rfl⟩
  have HG := hidH hG
  have PR := hidH (pts_prt LWS.out LN.out LNN.out)
  have HPL := hidH (Nat.le_trans (pts_len n lw os) (nodup_le LNN.out.nod LNN.out.rng))
  have PED : Hid (∀ (u v i j : Nat) (p q : List Int), Eg ps u v → (pts n lw os)[i]? = some p → (pts n lw os)[j]? = some q → (u : Int) ∈ p → (v : Int) ∈ q → j ≤ i) := fun u v i j p q he hp hq hu hv => pts_edge LWS.out LN.out LNN.out he hp hq hu hv
  have PSG : Hid (∀ (N1 : Nat → List Int) (o1 : List Int), (∀ p ∈ pts n lw os, p.length = 1) → (∀ x, ¬ Eg ps x x) → LstR n ps N1 → Ln N1 n o1 → o1.length = n ∧ o1 = (pts n lw os).flatten) := fun N1 o1 h1 h2 h3 h4 => Prt.single LWS.out LN.out LNN.out h1 h2 h3 h4
  obtain ⟨pss, hpss⟩ : ∃ pss, pts n lw os = pss := ⟨_, rfl⟩
  rw [hpss] at PR RV HPL PED PSG
  obtain ⟨aP, cP, hv8, hrd⟩ := RV.out.read B23.out
  subst hv8
  have h23 := B23.out.size
  have HRD : Hid (∀ (i : Nat) p, pss[i]? = some p → ∃ gP, aP = some ⟨gP, 0, none⟩ ∧ gP < G ∧ ∃ a' c', w3.cell? ⟨gP, i, none⟩ = some (.slice a' p.length c') ∧ (0 < p.length → ∃ g', a' = some ⟨g', 0, none⟩ ∧ g' < G ∧ ∀ (j : Nat) y, p[j]? = some y → w3.cell? ⟨g', j, none⟩ = some (.int .i64 y))) := fun i p hp => by
    obtain ⟨gP, e, h1, a', c', h2, h3⟩ := hrd i p hp
    refine ⟨gP, e, by omega, a', c', h2, fun h0 => ?_⟩
    obtain ⟨g', e', h4, h5⟩ := h3 h0
    exact ⟨g', e', by omega, h5⟩
  have hpl : pss.length ≤ n := HPL.out
  have hBG : w.heap.size ≤ G := by have := HB3.out.size; omega
  have hln2 := hidH PR.out.flat
  clear hrd RV hpss LWS LN LNN HPL h23 HT
  go_upto_region 8 with (at_make; refine wpList_make_full _ rfl _ _ 24 rfl G 3 i0 (.int .i64 0) 1 Try.underlying24 hi0 hz0 hz1 _ _ _ _ n rfl rfl rfl rfl (by rw [hz2]; omega) (by unfold maxLen; omega) (by omega) ?_; intro w4 hown4 hgr4; rw [hG] at hown4 ⊢; have W4 : Hid (Wl G G n w4 (.slice none 0 0) (List.replicate n (0 : Int)) []) := (by refine ⟨?_, World.ownsRow_nil _ _ _ _, by simp [Value.ownBlock]⟩; rw [show (Value.int .i64 0).cells = #[.int .i64 0] by rfl, rep_made] at hown4; rw [show flat (List.replicate n (0 : Int)) = List.replicate n (Value.int .i64 0) by rw [flat_ints, List.map_replicate]]; exact hown4); have E4 : Hid (Below G w3 w4) := ((Below.refl _ _).grown hgr4 (by omega) (fun k h => by cases h)); clear hown4 hgr4)
  go_wp2
  go_loopg [10, 11, 68] pss.length (fun gk s10 s11 si wq => ∃ (i : Nat) (V : Value) (fs : List Int), gk = pss.length - i ∧ s10 = V ∧ s11 = .bool (sgl (pss.take i)) ∧ si = .int .i64 (i : Int) ∧ i ≤ pss.length ∧ Wl G G n wq V fs (pss.take i).flatten ∧ Ofp pss n i 0 fs ∧ Below G w3 wq)
  case atStart => exact ⟨0, _, _, rfl, rfl, rfl, rfl, Nat.zero_le _, W4.out, Ofp.start _ _, E4.out⟩
  case round =>
    clear W4 E4
    obtain ⟨i, V, fs, hgk, rfl, rfl, rfl, hi, hW, hF, hE⟩ := hrel
    have WL := hidH hW
    have FF := hidH hF
    have EE := hidH hE
    clear hW hF hE
    obtain ⟨aV, cV, hV, haV, -⟩ := own_slice WL.out.al
    subst hV
    by_cases hip : i < pss.length
    · have hip' : (i : Int) < (pss.length : Int) := by omega
      obtain ⟨p, hp⟩ : ∃ p, pss[i]? = some p := ⟨_, List.getElem?_eq_getElem hip⟩
      obtain ⟨gP, rfl, hgP, a', c', cP0, hrow⟩ := HRD.out i p hp
      have cP' := (EE.out.cell (p := ⟨gP, i, none⟩) hgP).trans cP0
      have HP := hidH hp
      obtain ⟨hup, hne, hrg⟩ := PR.out.up i p hp
      have hpn : p.length ≤ n := nodup_le (pw_nodup hup) hrg
      have hp0 : 0 < p.length := List.length_pos_iff.2 hne
      obtain ⟨g', rfl, hg', hcl⟩ := hrow hp0
      have HRG := hidH hrg
      have HUP := hidH hup
      have HCL := hidH hcl
      have HST := hidH (sgl_take hp)
      have HFL : Hid ((pss.take (i + 1)).flatten = (pss.take i).flatten ++ p) := by
        obtain ⟨h1, e1⟩ := List.getElem?_eq_some_iff.1 hp
        unfold Hid
        rw [List.take_succ_eq_append_getElem h1, e1, List.flatten_append]
        simp
      have hfl : (pss.take i).flatten.length + p.length ≤ n := by
        have h1 : (pss.take (i + 1)).flatten.length ≤ pss.flatten.length := by
          have : pss.flatten = (pss.take (i + 1)).flatten ++ (pss.drop (i + 1)).flatten := by rw [← List.flatten_append, List.take_append_drop]
          rw [this, List.length_append]
          omega
        rw [HFL.out, List.length_append, hln2.out.2.2] at h1
        exact h1
      have kk : IntKind.i64.wrap ((i : Int) + 1) = ((i + 1 : Nat) : Int) := by rw [IntWalk.i64_in _ ⟨by omega, by omega⟩]; omega
      obtain ⟨m, hmq⟩ : ∃ m, p.length = m := ⟨_, rfl⟩
      obtain ⟨q, hq⟩ : ∃ q, (pss.take i).flatten.length = q := ⟨_, rfl⟩
      have HMQ := hidH hmq
      have HQ := hidH hq
      rw [hmq] at cP' hpn hp0 hfl
      rw [hq] at hfl
      have hm0 : ((m : Int) == 0) = false := by rw [beq_eq_false_iff_ne]; omega
      have hm1 : ¬ (m : Int) = 0 := by omega
      have OA : Hid (wr.ownsRow G 3 1 (.slice aV q cV) q (flat (pss.take i).flatten)) := by have h9 := WL.out.al; rw [hq] at h9; exact h9
      have hGw : G ≤ wr.heap.size := by have := (WL.out.pr.lt G rfl).2; omega
      have NA : Hid (∀ (j : Nat) u, (flat p)[j]? = some u → wr.cell? ((⟨g', 0, none⟩ : Addr).add j) = some u) := fun j u hj => by
        rw [flat_ints, List.getElem?_map] at hj
        obtain ⟨y, hy, rfl⟩ := Option.map_eq_some_iff.1 hj
        rw [addr_add, Nat.zero_add]
        exact (EE.out.cell (p := ⟨g', j, none⟩) hg').trans (HCL.out j y hy)
      rw [hq] at WL ⊢
      clear hp hrow hup hrg hmq hq cP0 hne hcl
      obtain ⟨tt, htt⟩ : ∃ tt, sgl (pss.take i) = tt := ⟨_, rfl⟩
      rw [htt] at HST ⊢
      clear htt
      go_upto_region 14 with (first
        | (at_builtin; refine wpList_append_lies _ rfl _ _ 24 rfl G 3 i0 (.int .i64 0) 1 8 Try.underlying24 hi0 hz0 hz1 hz2 rfl (by decide) (.slice aV q cV) q (flat (pss.take i).flatten) rfl OA.out ⟨g', 0, none⟩ m c' (flat p) rfl (by rw [flat_length, HMQ.out]; rfl) NA.out (flat_oneCell _) (by omega) (by unfold maxLen; omega) (by omega) hGw wr.heap.size rfl ?_; intro gg cp w9 hown9 hgrow9 hat9 hlt9; have W9 := hidH (WL.out.push (V' := .slice (some ⟨gg, 0, none⟩) (q + m) cp) HMQ.out (by rw [HQ.out]; exact hown9) hgrow9 (by rcases hat9 with e | e; exact .inl e.symm; exact .inr ⟨gg, rfl, by omega⟩)); have E9 := hidH (EE.out.grown hgrow9 hGw (fun g e => (OA.out.lt g e).1)); clear hown9 hgrow9 hat9 hlt9))
      go_cut [11] (fun sl wc => sl = .bool (sgl (pss.take (i + 1))) ∧ wc = w9)
      case first =>
        cases tt with
        | true =>
          by_cases h1 : m = 1
          · have h2 : decide (p.length = 1) = true := decide_eq_true (by have := HMQ.out; omega)
            subst h1
            go_wp2_with fail
            go_meet
            exact ⟨congrArg Value.bool (by rw [HST.out, h2]; rfl), rfl⟩
          · have h2 : decide (p.length = 1) = false := decide_eq_false (by have := HMQ.out; omega)
            have h3 : ((m : Int) == 1) = false := by rw [beq_eq_false_iff_ne]; omega
            have h4 : ¬ (m : Int) = 1 := by omega
            go_wp2_with fail
            go_meet
            exact ⟨congrArg Value.bool (by rw [HST.out, h2]; rfl), rfl⟩
        | false =>
          go_wp2_with fail
          go_meet
          exact ⟨congrArg Value.bool (by rw [HST.out, Bool.false_and]), rfl⟩
      case rest =>
        obtain ⟨rfl, hwc⟩ := hcut
        subst hwc
        obtain ⟨t2, ht2⟩ : ∃ t2, sgl (pss.take (i + 1)) = t2 := ⟨_, rfl⟩
        have HT2 := hidH ht2
        rw [ht2]
        clear ht2 HST tt
        go_wp2
        go_loopg [87] m (fun g2 sj wq => ∃ (j : Nat) (fs : List Int), g2 = m - j ∧ sj = .int .i64 (j : Int) ∧ j ≤ m ∧ Wl G G n wq (.slice (some ⟨gg, 0, none⟩) (q + m) cp) fs ((pss.take i).flatten ++ p) ∧ Ofp pss n i j fs ∧ Below G w3 wq)
        case atStart => exact ⟨0, fs, rfl, rfl, Nat.zero_le _, W9.out, FF.out, E9.out⟩
        case round =>
          clear W9 E9 FF EE WL OA NA cP'
          obtain ⟨j, fs, hg2, rfl, hj, hW, hF, hE⟩ := hrel
          have WL := hidH hW
          have FF := hidH hF
          have EE := hidH hE
          clear hW hF hE
          by_cases hjm : j < m
          · have hjm' : (j : Int) < (m : Int) := by omega
            obtain ⟨x0, hx0⟩ : ∃ y, p[j]? = some y := ⟨_, List.getElem?_eq_getElem (by have := HMQ.out; omega)⟩
            have hxr := HRG.out x0 (List.mem_of_getElem? hx0)
            obtain ⟨x, rfl⟩ : ∃ y : Nat, x0 = (y : Int) := ⟨x0.toNat, by omega⟩
            have hxn : x < n := by omega
            have cx := (EE.out.cell (p := ⟨g', j, none⟩) hg').trans (HCL.out j _ hx0)
            have hx1 : ¬ (x : Int) < 0 := by omega
            have hx2 : ¬ (n : Int) ≤ (x : Int) := by omega
            have hx3 : (x : Int) < (n : Int) := by omega
            have hx4 : (0 : Int) ≤ (x : Int) := by omega
            have hfl2 := FF.out.len
            obtain ⟨z0, hz00⟩ : ∃ z, fs[x]? = some z := ⟨_, List.getElem?_eq_getElem (by omega)⟩
            obtain ⟨cf, ff⟩ := row_cell WL.out.pr hz00
            have W2 := hidH (WL.out.set x (i : Int))
            have F2 := hidH (FF.out.step PR.out HP.out hx0 hxn)
            have E2 := hidH (EE.out.setCell (p := ⟨G, x, none⟩) (Nat.le_refl _) (.int .i64 (i : Int)))
            have kj : IntKind.i64.wrap ((j : Int) + 1) = ((j + 1 : Nat) : Int) := by rw [IntWalk.i64_in _ ⟨by omega, by omega⟩]; omega
            by_cases hj0 : j = 0
            · subst hj0
              clear hxr hfl2 hz00 hx0
              go_wp2
              go_roundg (m - (0 + 1))
              case measure => omega
              case rel => exact ⟨0 + 1, _, rfl, rfl, by omega, W2.out, F2.out, E2.out⟩
            · obtain ⟨j1, hj1⟩ : ∃ j1, j - 1 = j1 := ⟨_, rfl⟩
              have k1 : IntKind.i64.wrap ((j : Int) - 1) = (j1 : Int) := by rw [IntWalk.i64_in _ ⟨by omega, by omega⟩]; omega
              have hj0' : (0 : Int) < (j : Int) := by omega
              have hj1m : (j1 : Int) < (m : Int) := by omega
              obtain ⟨y0, hy0⟩ : ∃ y, p[j1]? = some y := ⟨_, List.getElem?_eq_getElem (by have := HMQ.out; omega)⟩
              have cy := (EE.out.cell (p := ⟨g', j1, none⟩) hg').trans (HCL.out j1 _ hy0)
              have hxy : ¬ (x : Int) ≤ y0 := by
                obtain ⟨l1, e1⟩ := List.getElem?_eq_some_iff.1 hx0
                obtain ⟨l2, e2⟩ := List.getElem?_eq_some_iff.1 hy0
                have := List.pairwise_iff_getElem.1 HUP.out j1 j l2 l1 (by omega)
                omega
              clear hxr hfl2 hz00 hx0 hy0 hj1
              go_wp2
              go_roundg (m - (j + 1))
              case measure => omega
              case rel => exact ⟨j + 1, _, rfl, rfl, by omega, W2.out, F2.out, E2.out⟩
          · have hjm' : ¬ (j : Int) < (m : Int) := by omega
            go_wp2
            go_roundg (pss.length - (i + 1))
            case measure => omega
            case rel => exact ⟨i + 1, _, fs, rfl, rfl, by rw [HT2.out], rfl, by omega, by rw [HFL.out]; exact WL.out, Ofp.next (p := p) (by have h8 := FF.out; rw [show j = p.length by have := HMQ.out; omega] at h8; exact h8) HP.out, EE.out⟩
    · have hip' : ¬ (i : Int) < (pss.length : Int) := by omega
      have hi2 : i = pss.length := by omega
      subst hi2
      obtain ⟨wF, hwF⟩ : ∃ wF, wF = wr := ⟨wr, rfl⟩
      subst hwF
      have hflen : (pss.take pss.length).flatten = pss.flatten := by rw [List.take_length]
      have hsg : sgl (pss.take pss.length) = sgl pss := by rw [List.take_length]
      rw [hflen] at WL ⊢
      rw [hln2.out.2.2] at WL ⊢
      rw [hsg]
      have hGF : G < wF.heap.size := (WL.out.pr.lt G rfl).2
      have RAL : Hid (Rd1 wF.heap.size wF aV pss.flatten) := Rd1.of (B := G) (c := cV) (by have h9 := WL.out.al; rw [hln2.out.2.2] at h9 ⊢; exact h9) (Nat.le_refl _)
      have QP := hidH (places_any n cV wF.heap.size aV pss.flatten wF (Nat.le_refl _) RAL.out hln2.out.1 hln2.out.2.1 hln2.out.2.2 hn)
      clear hflen hsg
      go_upto_region 26 with (first
        | (go_at_call 20; (with_reducible refine QP.out.mono ?_); clear QP; rintro e w5 ⟨rfl, hb5, ats, ho5, hpk⟩; have E5 := hidH (EE.out.trans (hb5.mono (Nat.le_of_lt (by omega)))); have BF5 := hidH hb5; have OAT := hidH ho5; have PK := hidH hpk; clear hb5 ho5 hpk))
      obtain ⟨gT, hgT⟩ : ∃ gT, wF.heap.size = gT := ⟨_, rfl⟩
      obtain ⟨H, hH⟩ : ∃ H, w5.heap.size = H := ⟨_, rfl⟩
      have HH := hidH hH
      have hTH : gT < H := by have := (OAT.out.lt wF.heap.size rfl).2; omega
      have hGH : G < H := by omega
      rw [hgT] at OAT ⊢
      have INF : Hid (∀ x : Nat, x < n → ∃ (j : Nat) (p : List Int) (k : Nat), pss[j]? = some p ∧ (x : Int) ∈ p ∧ pss.flatten[k]? = some (x : Int) ∧ ∀ wq, Below H w5 wq → wq.cell? ⟨G, x, none⟩ = some (.int .i64 (j : Int)) ∧ wq.cell? ⟨gT, x, none⟩ = some (.int .i64 (k : Int))) := fun x hx => by
        obtain ⟨j, p, hp, hxp⟩ := PR.out.all x hx
        have h1 := FF.out.done hp hxp
        obtain ⟨k, hk⟩ := List.getElem?_of_mem (show (x : Int) ∈ pss.flatten from List.mem_flatten.2 ⟨p, List.mem_of_getElem? hp, hxp⟩)
        have hkn : k < n := by have := (List.getElem?_eq_some_iff.1 hk).1; have := hln2.out.2.2; omega
        have h2 := PK.out.old k _ hkn hk
        rw [show ((x : Int)).toNat = x by omega] at h2
        refine ⟨j, p, k, hp, hxp, hk, fun wq hq => ⟨(hq.cell (p := ⟨G, x, none⟩) hGH).trans ?_, (hq.cell (p := ⟨gT, x, none⟩) hTH).trans (row_cell OAT.out h2).1⟩⟩
        exact (BF5.out.cell (p := ⟨G, x, none⟩) (by show G < wF.heap.size; omega)).trans (row_cell WL.out.pr h1).1
      have RA5 : Hid (Rd1 H w5 aV pss.flatten) := (RAL.out.below BF5.out).up (by have := BF5.out.size; omega)
      have HB5 : Hid (Below w.heap.size w w5) := HB3.out.trans (E5.out.mono hBG)
      have B15 : Hid (Below w1.heap.size w1 w5) := B13.out.trans (E5.out.mono (by have := B13.out.size; have := HG.out; omega))
      have hBH : w.heap.size ≤ H := by have := HB5.out.size; omega
      clear WL FF PK OAT RAL BF5 EE hgT hgk hi hip hip' haV
      go_wp2
      go_loopg [11, 132] ps.length (fun gk s11 si wq => ∃ k : Nat, gk = ps.length - k ∧ s11 = .bool (sgl pss && nsl (ps.take k)) ∧ si = .int .i64 (k : Int) ∧ k ≤ ps.length ∧ Below H w5 wq)
      case atStart => exact ⟨0, rfl, by rw [List.take_zero]; simp [nsl], rfl, Nat.zero_le _, Below.refl _ _⟩
      case round =>
        obtain ⟨k, hgk, rfl, rfl, hk, hE⟩ := hrel
        have EK := hidH hE
        clear hE
        by_cases hkp : k < ps.length
        · have hkp' : (k : Int) < (ps.length : Int) := by omega
          obtain ⟨p, hp⟩ : ∃ p, ps[k]? = some p := ⟨_, List.getElem?_eq_getElem hkp⟩
          obtain ⟨gs, o, hs, hLi⟩ : ∃ b o, s = some ⟨b, o, none⟩ ∧ Lies w b o ps := by
            rcases HL.out with h | h
            · rw [h] at hkp; exact absurd hkp (Nat.not_lt_zero _)
            · exact h
          subst hs
          have HNT := hidH (nsl_take hp)
          obtain ⟨pa, pb⟩ := p
          have hrp := HPS.out _ (List.mem_of_getElem? hp)
          simp only at hrp
          obtain ⟨x, rfl⟩ : ∃ x : Nat, pa = (x : Int) := ⟨pa.toNat, by omega⟩
          obtain ⟨y, rfl⟩ : ∃ y : Nat, pb = (y : Int) := ⟨pb.toNat, by omega⟩
          have hxn : x < n := by omega
          have hyn : y < n := by omega
          obtain ⟨d0, d1⟩ := (hLi.below (HB5.out.trans (EK.out.mono hBH)) hLi.1).pr hp
          simp only at d0 d1
          obtain ⟨jx, px, ix, hjx, hxp, hix, hcx⟩ := INF.out x hxn
          obtain ⟨jy, py, iy, hjy, hyp, hiy, hcy⟩ := INF.out y hyn
          have hjj : jy ≤ jx := PED.out x y jx jy px py (List.mem_of_getElem? hp) hjx hjy hxp hyp
          have hii : jx ≠ jy → iy < ix := fun e => flat_before hln2.out.1 hjy hjx (by omega) hyp hxp hiy hix
          have kk : IntKind.i64.wrap ((k : Int) + 1) = ((k + 1 : Nat) : Int) := by rw [IntWalk.i64_in _ ⟨by omega, by omega⟩]; omega
          clear hp hLi hrp hjx hjy hxp hyp hix hiy
          obtain ⟨tt, htt⟩ : ∃ tt, (sgl pss && nsl (ps.take k)) = tt := ⟨_, rfl⟩
          have HT3 : Hid ((sgl pss && nsl (ps.take (k + 1))) = (tt && decide ((x : Int) ≠ (y : Int)))) := by unfold Hid; rw [HNT.out, ← Bool.and_assoc, htt]
          rw [htt]
          clear htt HNT
          go_upto_region 29 with fail
          obtain ⟨w9, e9, hb9, hs9, X9⟩ := bx1 wr #[.int .i64 (x : Int), .int .i64 (y : Int)] 40
          rw [e9]
          obtain ⟨q, hq⟩ : ∃ q, wr.heap.size = q := ⟨_, rfl⟩
          rw [hq] at X9 hs9 ⊢
          have c90 := X9.cell 0
          have c91 := X9.cell 1
          have E9 := hidH (EK.out.trans (hb9.mono (by have := EK.out.size; have := HH.out; omega)))
          obtain ⟨cx1, cx2⟩ := hcx w9 E9.out
          obtain ⟨cy1, cy2⟩ := hcy w9 E9.out
          simp at c90 c91
          clear e9 d0 d1 X9 hb9 EK hcx hcy
          go_cut [11] (fun sl wc => sl = .bool (tt && decide ((x : Int) ≠ (y : Int))) ∧ wc = w9)
          case first =>
            cases tt with
            | true =>
              by_cases hxy : x = y
              · subst hxy
                go_wp2_with fail
                go_meet
                exact ⟨congrArg Value.bool (by simp), rfl⟩
              · have h1 : ((x : Int) == (y : Int)) = false := by rw [beq_eq_false_iff_ne]; omega
                have h2 : ¬ (x : Int) = (y : Int) := by omega
                go_wp2_with fail
                go_meet
                exact ⟨congrArg Value.bool (by simp [h2]), rfl⟩
            | false =>
              go_wp2_with fail
              go_meet
              exact ⟨congrArg Value.bool (by simp), rfl⟩
          case rest =>
            obtain ⟨rfl, hwc⟩ := hcut
            subst hwc
            rw [← HT3.out]
            clear HT3
            have hx0 : (0 : Int) ≤ (x : Int) := by omega
            have hy0 : (0 : Int) ≤ (y : Int) := by omega
            have hx1 : (x : Int) < (n : Int) := by omega
            have hy1 : (y : Int) < (n : Int) := by omega
            have hj1 : ¬ (jx : Int) < (jy : Int) := by omega
            have hd1 : decide ((jx : Int) < (jy : Int)) = false := decide_eq_false hj1
            go_upto_region 30 with fail
            by_cases hjq : jx = jy
            · subst hjq
              go_quiet (fail)
              obtain ⟨w10, hw10⟩ : ∃ w10, wc.drewN nq = w10 := ⟨_, rfl⟩
              have hdr : Below wc.heap.size wc w10 := by rw [← hw10]; exact ⟨rfl, rfl, rfl, Nat.le_refl _, fun _ _ => rfl⟩
              have E10 := hidH (E9.out.trans (hdr.mono (by have := E9.out.size; have := HH.out; omega)))
              rw [hw10]
              clear hw10 hdr
              go_wp2
              go_roundg (ps.length - (k + 1))
              case measure => omega
              case rel => exact ⟨k + 1, rfl, rfl, rfl, by omega, E10.out⟩
            · have hj2 : ((jx : Int) == (jy : Int)) = false := by rw [beq_eq_false_iff_ne]; omega
              have hj3 : ¬ (jx : Int) = (jy : Int) := by omega
              have hii1 := hii hjq
              have hii2 : ¬ (ix : Int) < (iy : Int) := by omega
              have hd2 : decide ((ix : Int) < (iy : Int)) = false := decide_eq_false hii2
              have hd3 : decide ((jx : Int) = (jy : Int)) = false := decide_eq_false hj3
              go_quiet (fail)
              obtain ⟨w10, hw10⟩ : ∃ w10, wc.drewN nq = w10 := ⟨_, rfl⟩
              have hdr : Below wc.heap.size wc w10 := by rw [← hw10]; exact ⟨rfl, rfl, rfl, Nat.le_refl _, fun _ _ => rfl⟩
              have E10 := hidH (E9.out.trans (hdr.mono (by have := E9.out.size; have := HH.out; omega)))
              rw [hw10]
              clear hw10 hdr
              go_wp2
              go_roundg (ps.length - (k + 1))
              case measure => omega
              case rel => exact ⟨k + 1, rfl, rfl, rfl, by omega, E10.out⟩
        · have hkp' : ¬ (k : Int) < (ps.length : Int) := by omega
          have hk2 : k = ps.length := by omega
          obtain ⟨wK, hwK⟩ : ∃ wK, wK = wr := ⟨wr, rfl⟩
          subst hwK
          have HBK : Hid (Below w.heap.size w wK) := HB5.out.trans (EK.out.mono hBH)
          rw [show ps.take k = ps by rw [hk2, List.take_length]]
          cases hSN : (sgl pss && nsl ps) with
          | true =>
            obtain ⟨hs1, hs2⟩ := sn_yes hSN
            rcases ORE.out with ⟨rfl, rfl, N1, o1, hN1, hl1, hf1, ho1⟩ | ⟨-, -, f, l, -, hF, -⟩
            · obtain ⟨-, ho2⟩ := PSG.out N1 o1 hs1 hs2 hN1 hl1
              subst ho2
              obtain ⟨a5, c5, hv5, -, -⟩ := own_slice ho1
              subst hv5
              have R1 : Rd1 w1.heap.size w1 a5 pss.flatten := Rd1.of (B := w.heap.size) (c := c5) ho1 (Nat.le_refl _)
              have LK1 : LiesA wK a5 pss.flatten := (((R1.below B15.out).up (by have := B15.out.size; omega : w1.heap.size ≤ H)).below EK.out).lies (by have := EK.out.size; have := HH.out; omega)
              have LK2 : LiesA wK aV pss.flatten := (RA5.out.below EK.out).lies (by have := EK.out.size; have := HH.out; omega)
              have SM := hidH (same_ints a5 aV c5 cV pss.flatten wK LK1 LK2 (by unfold maxLen; have := hln2.out.2.2; omega))
              rw [hln2.out.2.2] at SM ⊢
              clear R1 LK1 LK2 hN1 hl1 hf1 ho1 hs1 hs2
              go_wp2_with (go_at_call 12; (with_reducible refine SM.out.mono ?_); clear SM; rintro e w12 ⟨rfl, hb12⟩; have HB12 := hidH (HBK.out.trans (hb12.mono HBK.out.size)); clear hb12)
              go_ret
              exact ⟨rfl, HB12.out⟩
            · exact absurd hF.1 (PR.out.nocyc HPS.out hs1 hs2 f)
          | false =>
            have hex := PR.out.cyc (sn_no HPS.out hSN)
            rcases ORE.out with ⟨-, -, N1, o1, hN1, hl1, hf1, -⟩ | ⟨rfl, rfl, f, l, ho1, hF, hCy⟩
            · obtain ⟨x, hx⟩ := hex
              exact absurd hx (hl1.noc HPS.out hN1 hf1 x)
            · obtain ⟨aC, cC, hv6, haC, -⟩ := own_slice ho1
              subst hv6
              obtain ⟨gC, rfl⟩ := haC (by simp)
              have RC : Hid (Rd1 H w5 (some ⟨gC, 0, none⟩) ((f : Int) :: l)) := ((Rd1.of (B := w.heap.size) (c := cC) ho1 (Nat.le_refl _)).below B15.out).up (by have := B15.out.size; omega)
              obtain ⟨m, hmq⟩ : ∃ m, ((f : Int) :: l).length = m := ⟨_, rfl⟩
              have HMQ := hidH hmq
              have hm0 : 0 < m := by rw [← hmq]; simp
              have hm1 : ((m : Int) == 0) = false := by rw [beq_eq_false_iff_ne]; omega
              have hm2 : ¬ (m : Int) = 0 := by omega
              have CYE : Hid (∀ i : Nat, i < m → ∃ x y : Nat, ((f : Int) :: l)[i]? = some (x : Int) ∧ ((f : Int) :: l)[(i + 1) % m]? = some (y : Int) ∧ x < n ∧ y < n ∧ Eg ps x y ∧ Sam ps f x ∧ f ≤ x) := fun i hi => by
                obtain ⟨x0, hx0⟩ : ∃ x, ((f : Int) :: l)[i]? = some x := ⟨_, List.getElem?_eq_getElem (by omega)⟩
                obtain ⟨y0, hy0⟩ : ∃ y, (l ++ [(f : Int)])[i]? = some y := ⟨_, List.getElem?_eq_getElem (by rw [List.length_append, List.length_singleton]; rw [List.length_cons] at hmq; omega)⟩
                have he := hCy.edge i _ _ hx0 hy0
                obtain ⟨x, rfl, hsx, hfx⟩ := hCy.on hF x0 (List.mem_of_getElem? hx0)
                have hrp := HPS.out _ he
                simp only at hrp
                obtain ⟨y, rfl⟩ : ∃ y : Nat, y0 = (y : Int) := ⟨y0.toNat, by omega⟩
                exact ⟨x, y, hx0, by rw [← hmq]; exact cyc_next hy0, by omega, by omega, he, hsx, hfx⟩
              have HF := hidH hF
              have hml : m ≤ 9223372036854775807 := by have h9 := ho1; rw [hmq] at h9; rcases h9.2 with ⟨-, h0⟩ | ⟨g, cap2, cur, -, -, -, h1, h2, -⟩; (omega); (unfold maxLen at h2; omega)
              rw [hmq]
              clear hmq ho1 hF hCy hSN hex haC
              go_wp2
              go_loopg [209] m (fun gk si wq => ∃ i : Nat, gk = m - i ∧ si = .int .i64 (i : Int) ∧ i ≤ m ∧ Below H w5 wq)
              case atStart => exact ⟨0, rfl, rfl, Nat.zero_le _, EK.out⟩
              case round =>
                clear EK
                obtain ⟨i, hgk4, rfl, hi4, hE⟩ := hrel
                have EI := hidH hE
                clear hE
                by_cases him : i < m
                · have him' : (i : Int) < (m : Int) := by omega
                  obtain ⟨x, y, hx, hy, hxn, hyn, heg, hsx, hfx⟩ := CYE.out i him
                  obtain ⟨i2, hi2⟩ : ∃ i2, (i + 1) % m = i2 := ⟨_, rfl⟩
                  have hi2m : i2 < m := by rw [← hi2]; exact Nat.mod_lt _ hm0
                  have hi2m' : (i2 : Int) < (m : Int) := by omega
                  rw [hi2] at hy
                  have kk : IntKind.i64.wrap ((i : Int) + 1) = ((i + 1 : Nat) : Int) := by rw [IntWalk.i64_in _ ⟨by omega, by omega⟩]; omega
                  obtain ⟨g9, e9, hgC, hcC⟩ := (RC.out.below EI.out) (by simp)
                  cases e9
                  have cx := hcC i _ hx
                  have cy := hcC i2 _ hy
                  have cf := hcC 0 (f : Int) rfl
                  have krem : ((i : Int) + 1) % (m : Int) = (i2 : Int) := by rw [← hi2, Int.natCast_emod]; rfl
                  obtain ⟨jx, px, ix, hjx, hxp, -, hcx⟩ := INF.out x hxn
                  have hfn : f < n := by
                    obtain ⟨z, he, -⟩ := HF.out.1
                    have := HPS.out _ he
                    simp only at this
                    omega
                  obtain ⟨jf, pf, kf, hjf, hfp, -, hcf⟩ := INF.out f hfn
                  have hjj : jx = jf := PR.out.one jx jf px pf (x : Int) hjx hjf hxp ((PR.out.sam jf pf f x hjf hfp).2 ⟨hxn, hsx⟩)
                  subst hjj
                  go_upto_region 41 with fail
                  obtain ⟨X, F, hX, hF, onto⟩ := class_of (fun v => Below wr.heap.size wr v) (Below.refl _ wr)
                  have HFF := hidH hF
                  have HO : Hid (∀ v, Below wr.heap.size wr v → ∃ x, v = F x) := fun v h => by obtain ⟨x, hx⟩ := onto v h; exact ⟨x, hx.symm⟩
                  have hHw : H ≤ wr.heap.size := by have := EI.out.size; have := HH.out; omega
                  have BQ : Hid (∀ z, Below H w5 (F z)) := fun z => EI.out.trans ((hF z).mono hHw)
                  have f1 : ∀ z, (F z).cell? ⟨G, x, none⟩ = some (.int .i64 (jx : Int)) := fun z => (hcx _ (BQ.out z)).1
                  have f2 : ∀ z, (F z).cell? ⟨G, f, none⟩ = some (.int .i64 (jx : Int)) := fun z => (hcf _ (BQ.out z)).1
                  have f3 : ∀ z, (F z).cell? ⟨gC, 0, none⟩ = some (.int .i64 (f : Int)) := fun z => ((hF z).cell (p := ⟨gC, 0, none⟩) (by show gC < _; omega)).trans cf
                  have hx1 : ¬ (x : Int) < 0 := by omega
                  have hx2 : ¬ (n : Int) ≤ (x : Int) := by omega
                  have hy1 : ¬ (y : Int) < 0 := by omega
                  have hy2 : ¬ (n : Int) ≤ (y : Int) := by omega
                  have hx3 : (x : Int) < (n : Int) := by omega
                  have hx4 : (0 : Int) ≤ (x : Int) := by omega
                  have hf3 : (f : Int) < (n : Int) := by omega
                  have hf4 : (0 : Int) ≤ (f : Int) := by omega
                  have hxf : ¬ (x : Int) < (f : Int) := by omega
                  have hd1 : decide ((x : Int) < 0) = false := decide_eq_false hx1
                  have hd2 : decide ((n : Int) ≤ (x : Int)) = false := decide_eq_false hx2
                  have hd3 : decide ((y : Int) < 0) = false := decide_eq_false hy1
                  have hd4 : decide ((n : Int) ≤ (y : Int)) = false := decide_eq_false hy2
                  have hd5 : decide ((x : Int) < (f : Int)) = false := decide_eq_false hxf
                  have NE : Hid (∀ z, Calls Try.prog 21 #[.slice s ps.length cap, .int .i64 (x : Int), .int .i64 (y : Int)] (F z) fun e w' => e = .returned (.bool true) ∧ Below (F z).heap.size (F z) w') := fun z => needs_any s cap ps (x : Int) (y : Int) true (F z) (HL.out.below (HB5.out.trans ((BQ.out z).mono hBH))) hm ⟨fun _ => heg, fun _ => rfl⟩
                  clear hF onto hjx hxp hcx hjf hfp hcf hx hy heg hsx hcC cx cy cf
                  refine region_class F (by kernel_rfl) (by kernel_rfl) (by obtain ⟨x, hx⟩ := HO.out _ (Below.refl _ _).drew; exact ⟨x, hx.symm⟩) ?_
                  repeat (go_big_quiet_step (first
                    | (go_at_call 21; (with_reducible refine (NE.out _).mono ?_); rintro e w15 ⟨rfl, hb15⟩; exact ⟨rfl, HO.out _ ((HFF.out _).trans (hb15.mono (HFF.out _).size))⟩)))
                  refine wpQuiet_nil ?_
                  rintro _ ⟨nq, rfl⟩
                  have E12 := hidH (BQ.out nq)
                  obtain ⟨w12, hw12⟩ : ∃ w12, F nq = w12 := ⟨_, rfl⟩
                  rw [hw12] at E12 ⊢
                  clear hw12 f1 f2 f3 NE BQ HO HFF hX
                  go_wp2
                  go_roundg (m - (i + 1))
                  case measure => omega
                  case rel => exact ⟨i + 1, rfl, rfl, by omega, E12.out⟩
                · have him' : ¬ (i : Int) < (m : Int) := by omega
                  go_wp2
                  go_loopg [268] pss.length (fun gk si wq => ∃ i : Nat, gk = pss.length - i ∧ si = .int .i64 (i : Int) ∧ i ≤ pss.length ∧ Below H w5 wq)
                  case atStart => exact ⟨0, rfl, rfl, Nat.zero_le _, EI.out⟩
                  case round =>
                    clear EI
                    obtain ⟨i, hgk5, rfl, hi5, hE⟩ := hrel
                    have EI := hidH hE
                    clear hE
                    by_cases hip : i < pss.length
                    · have hip' : (i : Int) < (pss.length : Int) := by omega
                      obtain ⟨p, hp⟩ : ∃ p, pss[i]? = some p := ⟨_, List.getElem?_eq_getElem hip⟩
                      obtain ⟨gP, rfl, hgP, a', c', cP0, hrow⟩ := HRD.out i p hp
                      have BG : Hid (Below G w3 wr) := E5.out.trans (EI.out.mono (by omega))
                      have cP' := (BG.out.cell (p := ⟨gP, i, none⟩) hgP).trans cP0
                      obtain ⟨hup, hne, hrg⟩ := PR.out.up i p hp
                      have hp0 : 0 < p.length := List.length_pos_iff.2 hne
                      obtain ⟨g', rfl, hg', hcl⟩ := hrow hp0
                      obtain ⟨z0, hz00⟩ : ∃ y, p[0]? = some y := ⟨_, List.getElem?_eq_getElem hp0⟩
                      have hzr := hrg z0 (List.mem_of_getElem? hz00)
                      obtain ⟨z, rfl⟩ : ∃ y : Nat, z0 = (y : Int) := ⟨z0.toNat, by omega⟩
                      have cz := (BG.out.cell (p := ⟨g', 0, none⟩) hg').trans (hcl 0 _ hz00)
                      obtain ⟨g9, e9, hgC, hcC⟩ := (RC.out.below EI.out) (by simp)
                      cases e9
                      have cf := hcC 0 (f : Int) rfl
                      have kk : IntKind.i64.wrap ((i : Int) + 1) = ((i + 1 : Nat) : Int) := by rw [IntWalk.i64_in _ ⟨by omega, by omega⟩]; omega
                      have hpn : p.length ≤ n := nodup_le (pw_nodup hup) hrg
                      have HONE : Hid (z < f → p.length = 1) := fun hzf => by
                        cases p with
                        | nil => exact absurd rfl hne
                        | cons a p =>
                          cases p with
                          | nil => rfl
                          | cons b p =>
                            simp at hz00
                            subst hz00
                            have hb := hrg b (by simp)
                            obtain ⟨b, rfl⟩ : ∃ x : Nat, b = (x : Int) := ⟨b.toNat, by omega⟩
                            have hab : (z : Int) < (b : Int) := (List.pairwise_cons.1 hup).1 _ (by simp)
                            have hsm := ((PR.out.sam i _ z b hp (by simp)).1 (by simp)).2
                            have := HF.out.alone hzf hsm
                            omega
                      obtain ⟨mp, hmp⟩ : ∃ mp, p.length = mp := ⟨_, rfl⟩
                      rw [hmp] at cP' hp0 hpn HONE
                      clear hp cP0 hrow hup hne hrg hcl hz00 hzr hcC
                      go_upto_region 47 with fail
                      obtain ⟨X, F, hX, hF, onto⟩ := class_of (fun v => Below wr.heap.size wr v) (Below.refl _ wr)
                      have HFF := hidH hF
                      have HO : Hid (∀ v, Below wr.heap.size wr v → ∃ x, v = F x) := fun v h => by obtain ⟨x, hx⟩ := onto v h; exact ⟨x, hx.symm⟩
                      have hHw : H ≤ wr.heap.size := by have := EI.out.size; have := HH.out; omega
                      have BQ : Hid (∀ z, Below H w5 (F z)) := fun z => EI.out.trans ((hF z).mono hHw)
                      have f2 : ∀ y, (F y).cell? ⟨g', 0, none⟩ = some (.int .i64 (z : Int)) := fun y => ((hF y).cell (p := ⟨g', 0, none⟩) (by show g' < _; omega)).trans cz
                      have f3 : ∀ y, (F y).cell? ⟨gC, 0, none⟩ = some (.int .i64 (f : Int)) := fun y => ((hF y).cell (p := ⟨gC, 0, none⟩) (by show gC < _; omega)).trans cf
                      have hmp0 : (0 : Int) < (mp : Int) := by omega
                      clear hF onto cz cf cP'
                      by_cases hzf : z < f
                      · have hmp1 : mp = 1 := HONE.out hzf
                        have hzf' : (z : Int) < (f : Int) := by omega
                        have hd1 : decide ((z : Int) < (f : Int)) = true := decide_eq_true hzf'
                        have hd2 : decide ((1 : Int) < (mp : Int)) = false := decide_eq_false (by omega)
                        have hm3 : ¬ (1 : Int) < (mp : Int) := by omega
                        have NE : Hid (∀ y, Calls Try.prog 21 #[.slice s ps.length cap, .int .i64 (z : Int), .int .i64 (z : Int)] (F y) fun e w' => e = .returned (.bool false) ∧ Below (F y).heap.size (F y) w') := fun y => needs_any s cap ps (z : Int) (z : Int) false (F y) (HL.out.below (HB5.out.trans ((BQ.out y).mono hBH))) hm ⟨fun e => by (cases e), fun e => absurd e (HF.out.noself hzf)⟩
                        clear hmp1
                        refine region_class F (by kernel_rfl) (by kernel_rfl) (by obtain ⟨x, hx⟩ := HO.out _ (Below.refl _ _).drew; exact ⟨x, hx.symm⟩) ?_
                        repeat (go_big_quiet_step (first
                          | (go_at_call 21; (with_reducible refine (NE.out _).mono ?_); rintro e w15 ⟨rfl, hb15⟩; exact ⟨rfl, HO.out _ ((HFF.out _).trans (hb15.mono (HFF.out _).size))⟩)))
                        refine wpQuiet_nil ?_
                        rintro _ ⟨nq, rfl⟩
                        have E12 := hidH (BQ.out nq)
                        obtain ⟨w12, hw12⟩ : ∃ w12, F nq = w12 := ⟨_, rfl⟩
                        rw [hw12] at E12 ⊢
                        clear hw12 f2 f3 NE BQ HO HFF hX
                        go_wp2
                        go_roundg (pss.length - (i + 1))
                        case measure => omega
                        case rel => exact ⟨i + 1, rfl, rfl, by omega, E12.out⟩
                      · have hzf' : ¬ (z : Int) < (f : Int) := by omega
                        have hd1 : decide ((z : Int) < (f : Int)) = false := decide_eq_false hzf'
                        refine region_class F (by kernel_rfl) (by kernel_rfl) (by obtain ⟨x, hx⟩ := HO.out _ (Below.refl _ _).drew; exact ⟨x, hx.symm⟩) ?_
                        repeat (go_big_quiet_step (fail))
                        refine wpQuiet_nil ?_
                        rintro _ ⟨nq, rfl⟩
                        have E12 := hidH (BQ.out nq)
                        obtain ⟨w12, hw12⟩ : ∃ w12, F nq = w12 := ⟨_, rfl⟩
                        rw [hw12] at E12 ⊢
                        clear hw12 f2 f3 BQ HO HFF hX
                        go_wp2
                        go_roundg (pss.length - (i + 1))
                        case measure => omega
                        case rel => exact ⟨i + 1, rfl, rfl, by omega, E12.out⟩
                    · have hip' : ¬ (i : Int) < (pss.length : Int) := by omega
                      go_wp2
                      go_ret
                      exact ⟨rfl, HB5.out.trans (EI.out.mono hBH)⟩
end Go.Proofs.Ytgijcbipnjmhgaa

namespace Go.Proofs.Ytgijcbipnjmhgaa
open Go.ChangeShapes Go.WideShapes Go.ChangeAt Go.RowKit
set_option linter.unusedVariables false
set_option linter.unusedSimpArgs false

theorem graphWhole_walk (n : Int) (s : Option Addr) (cap : Nat) (ps : List Pr) (w : World) (bn0 : -9223372036854775808 ≤ n) (bn1 : n ≤ 9223372036854775807) (hL : LiesA w s ps) (hn : s = none → ps.length = 0 ∧ cap = 0) (hl : ps.length * 16 ≤ 140737488351232) :
    Calls Try.prog 8 #[.int .i64 n, .slice s ps.length cap] w fun e w' => e = .returned (.bool true) ∧ Below w.heap.size w w' := by
  cases ht : things n ps with
  | false => exact whole_bad n s cap ps w hL (by omega) ht
  | true =>
    have hn0 : 0 ≤ n := by
      have h9 := ht
      unfold things at h9
      simp only [Bool.and_eq_true, decide_eq_true_eq] at h9
      exact h9.1.1
    obtain ⟨n, rfl⟩ : ∃ m : Nat, n = (m : Int) := ⟨n.toNat, by omega⟩
    exact whole_ok n cap s ps w hL (by omega) ht
end Go.Proofs.Ytgijcbipnjmhgaa

namespace Go.Proofs.Ytgijcbipnjmhgaa
open Go.ChangeShapes Go.WideShapes Go.ChangeAt Go.RowKit Go.Deep
open Go.ChangeMaps (open_string shut_string)
set_option linter.unusedVariables false

set_option maxRecDepth 100000 in
theorem graphWhole_lifted (os : Os) (started : os.Started) (H : Type) (enc : TypeId × Value → H) :
    ReturnsInHanded {} Try.checked os 8 .any (Rows.graphWholeSpec.pre6 enc Try.prog Try.f8 Rows.graphWholeRow.domain false) (Rows.graphWholeSpec.post enc Try.prog Try.f8 false true false false) := by
  refine returnsInHanded_of_change_sized (C := Try.checked) own started (by kernel_rfl) Try.func8
    (ChangeSpec.witness6 (enc := enc) (C := Try.checked) false ⟨#[], #[.int .i64 0, .slice none 0 0], []⟩ 8 (by kernel_rfl) (by kernel_rfl) (by kernel_rfl) (by kernel_rfl)) ?_
  intro W base args ds gs before hval0 hW hcnd hsz0 _
  have hval : ∀ (j : Nat) t v, Try.f8.params[j]? = some t → args[j]? = some v → Value.okWide Try.prog W .any base t v := hval0
  have hsz : (DataW.weightsEach Try.prog (Try.f8.params.toList ++ Rows.graphWholeSpec.plain.varTypes Try.prog) (ds ++ gs)).all (· ≤ reachBytes) = true := hsz0
  have hW' := hW
  obtain ⟨p, q, hA0, hV, rfl, hfz, hnd⟩ := hW
  have hA : DataW.TrodAll enc Try.prog W 0 (fun _ => true) true Try.f8.params.toList args.toList ds p := hA0
  rw [Try.params8] at hA hval hsz
  obtain ⟨v0, vs0, d0, ds0, p0, q0, hargs, rfl, rfl, h0, r0⟩ := trodAll_cons hA
  obtain ⟨v1, vs1, d1, ds1, p1, q1, rfl, rfl, rfl, h1, r1⟩ := trodAll_cons r0
  obtain ⟨rfl, rfl, rfl⟩ := trodAll_nil r1
  obtain rfl : args = #[v0, v1] := by cases args; simp_all
  obtain ⟨rfl, rfl⟩ := trodVars_none hV
  obtain ⟨a1, len1, cap1, rfl⟩ := okWide_slice Try.underlying22 (hval 1 22 v1 rfl rfl)
  have k1 := h1
  have lt1 : ∀ x ∈ p1, x.block < W.heap.size := by obtain ⟨m, hm⟩ := k1; exact DataW.trod_lt m _ _ _ hm
  obtain ⟨fuel1, hf1⟩ := h1
  obtain ⟨xs1, rfl, hE1, hG1, hN1, hD1, hC1⟩ := open_rows PrFit prData 22 40 ⟨0, 0⟩ Try.underlying22 cellsPr elem_pr hf1
  simp only at hD1
  have sz1 := pairs_size hD1 hsz (j := 1) rfl rfl
  obtain ⟨n0, rfl, rfl, rfl, ws0⟩ := open_int Try.underlying3 (hval 0 3 v0 rfl rfl) h0
  have bs0 := bounds_i64 ws0
  clear hA0 hval0
  refine (graphWhole_walk n0 a1 cap1 xs1 W bs0.1 bs0.2 hE1 hN1 sz1).mono fun e W' ⟨he, bel⟩ => ?_
  subst he
  exact ⟨_, rfl, _, _, _, [], _, [], hW', trodAll_mk1 (shut_bool Try.underlying4 _), (trodAll_cons_mk (shut_int Try.underlying3 ws0) (trodAll_cons_mk (Below.trod laidOut (by kernel_rfl) (of_decide_eq_true (by kernel_rfl)) k1 bel lt1) trodAll_mk0)), rfl, bel.frame _, fun h => by cases h⟩

theorem graphWhole_holds : Rows.GraphWholeSaid :=
  OpenClaim.holds_of_wide 8 Try.f8 rfl rfl rfl rfl rfl rfl rfl ⟨rfl, rfl, rfl, rfl, rfl⟩ rfl rfl rfl rfl rfl (by kernel_rfl) Try.func8 (by kernel_rfl)
    (of_decide_eq_true (by kernel_rfl)) (by unfold Func.isWrapper; first | (rw [if_pos (by decide +kernel)]; kernel_rfl) | (rw [if_neg (by decide +kernel)]; exact ⟨rfl, rfl⟩))
    (fun os started H enc _ => graphWhole_lifted os started H enc)
end Go.Proofs.Ytgijcbipnjmhgaa
