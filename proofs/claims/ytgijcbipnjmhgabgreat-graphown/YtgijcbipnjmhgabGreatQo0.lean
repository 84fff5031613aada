import Derived.Test.YtgijcbipnjmhgabGreatQf0
import Derived.Test.YtgijcbipnjmhgabGreatGr5c
namespace Go.Proofs.YtgijcbipnjmhgabGreat
open Go.ChangeShapes Go.WideShapes Go.ChangeAt Go.RowKit
set_option linter.unusedVariables false
set_option linter.unusedSimpArgs false

theorem Gn.noc {ps : List Pr} {S : Int → Prop} {os : List Int} (h : Gn S (fun x z => (⟨x, z⟩ : Pr) ∈ ps) os) {x : Nat} (hx : (x : Int) ∈ os) : ¬ OnC ps x := by
  have hin : ∀ u v : Nat, Eg ps u v → (u : Int) ∈ os → (v : Int) ∈ os := fun u v he hu => by
    obtain ⟨i, hi⟩ := List.getElem?_of_mem hu
    obtain ⟨l1, e1⟩ := List.getElem?_eq_some_iff.1 hi
    have hsp : os = os.take i ++ (u : Int) :: os.drop (i + 1) := by rw [← e1, List.getElem_cons_drop, List.take_append_drop]
    exact List.mem_of_mem_take ((h.gd _ _ _ hsp).1.2.2 _ he)
  have key : ∀ u v : Nat, Rch ps u v → (u : Int) ∈ os → ∀ i j : Nat, os[i]? = some (u : Int) → os[j]? = some (v : Int) → j ≤ i := by
    intro u v huv
    induction huv with
    | refl u =>
      intro hu i j hi hj
      have := at_uniq h.nodup hi hj
      omega
    | step e _ ih =>
      intro hu i j hi hj
      rename_i x y z _
      have hy := hin x y e hu
      obtain ⟨k, hk⟩ := List.getElem?_of_mem hy
      have h1 := ih hy k j hk hj
      have h2 := h.before hi hk e
      omega
  rintro ⟨z, he, hr⟩
  have hz := hin x z he hx
  obtain ⟨i, hi⟩ := List.getElem?_of_mem hx
  obtain ⟨k, hk⟩ := List.getElem?_of_mem hz
  have h1 := key z x hr hz k i hk hi
  have h2 := h.before hi hk he
  omega
theorem OnC.next {ps : List Pr} {x : Nat} (h : OnC ps x) : ∃ z, Eg ps x z ∧ OnC ps z := by
  obtain ⟨z, he, hr⟩ := h
  refine ⟨z, he, ?_⟩
  by_cases e : z = x
  · subst e; exact ⟨z, he, hr⟩
  · obtain ⟨u, hu, hru⟩ := hr.first e
    exact ⟨u, hu, hru.trans (.step he (.refl _))⟩
open Classical in
theorem gn_all {ps : List Pr} {n : Nat} {os : List Int} (hr : ∀ p ∈ ps, (0 ≤ p.a ∧ p.a < (n : Int)) ∧ (0 ≤ p.b ∧ p.b < (n : Int))) (h : Gn (fun x => 0 ≤ x ∧ x < (n : Int)) (fun x z => (⟨x, z⟩ : Pr) ∈ ps) os) (hno : ∀ x, ¬ OnC ps x) : ∀ c x : Nat, x < n → cntR ps n x ≤ c → (x : Int) ∈ os := by
  intro c
  induction c using Nat.strongRecOn with
  | ind c ih =>
  intro x hx hc
  apply Classical.byContradiction
  intro hxo
  have h1 := h.no (x : Int)
  have h2 : ∃ z, (⟨(x : Int), z⟩ : Pr) ∈ ps ∧ z ∉ os := by
    apply Classical.byContradiction
    intro h3
    refine h1 ⟨⟨by omega, by omega⟩, hxo, fun z hz => ?_⟩
    apply Classical.byContradiction
    intro h4
    exact h3 ⟨z, hz, h4⟩
  obtain ⟨z0, he, hzo⟩ := h2
  have hr1 := hr _ he
  simp only at hr1
  obtain ⟨z, rfl⟩ : ∃ z : Nat, z0 = (z : Int) := ⟨z0.toNat, by omega⟩
  have hlt : cntR ps n z < cntR ps n x := by
    unfold cntR
    refine filter_lt (fun y hy => ?_) ⟨x, List.mem_range.2 hx, ?_, ?_⟩
    · rw [decide_eq_true_eq] at hy ⊢; exact .step he hy
    · rw [decide_eq_true_eq]; exact .refl _
    · rw [decide_eq_false_iff_not]; exact fun hb => hno x ⟨z, he, hb⟩
  exact hzo (ih (cntR ps n z) (by omega) z (by omega) (Nat.le_refl _))
theorem Lz.lower {B B' bL gC s : Nat} {w : World} {S : Nat → Prop} (h : Lz B bL gC s w S) (hb : B' ≤ B) : Lz B' bL gC s w S :=
  ⟨h.box, by obtain ⟨cs, h1, h2⟩ := h.row; exact ⟨cs, own_lower h1 hb, h2⟩, Nat.le_trans hb h.le, h.s1, h.s2, h.pw⟩
/-- the line-up with what stands in line beside it -/
structure Qv (B bL gC s gm n : Nat) (w : World) (S : Nat → Prop) (ms : List Int) (O : Value) (os : List Int) : Prop where
  q : Qw B bL gC s gm n w S ms
  ou : w.ownsRow B 3 1 O os.length (flat os)
  e1 : O.ownBlock ≠ some gm
  e2 : O.ownBlock ≠ some gC
theorem Qv.below {B bL gC s gm n : Nat} {w w' : World} {S : Nat → Prop} {ms os : List Int} {O : Value} (h : Qv B bL gC s gm n w S ms O os) (hb : Below w.heap.size w w') : Qv B bL gC s gm n w' S ms O os :=
  ⟨h.q.below hb, own_belowR h.ou hb (Nat.le_refl _), h.e1, h.e2⟩
theorem Qv.put {B bL gC s gm n : Nat} {w w' : World} {S S' : Nat → Prop} {ms os : List Int} {O : Value} (h : Qv B bL gC s gm n w S ms O os) (hz : Lz B bL gC s w' S') (ho : One gC w w') : Qv B bL gC s gm n w' S' ms O os :=
  ⟨h.q.put hz ho, own_same h.ou (fun g e => ho.keep g (h.ou.lt g e).2 (fun e2 => h.e2 (by rw [e, e2]))), h.e1, h.e2⟩
theorem Qv.set {B bL gC s gm n : Nat} {w : World} {S : Nat → Prop} {ms os : List Int} {O : Value} (h : Qv B bL gC s gm n w S ms O os) (y : Nat) (v : Int) : Qv B bL gC s gm n (w.setCell ⟨gm, y, none⟩ (.int .i64 v)) S (ms.set y v) O os :=
  ⟨h.q.set y v, ownsRow_setCell_other h.ou (a := ⟨gm, y, none⟩) h.e1 _, h.e1, h.e2⟩
theorem Qv.push {B bL gC s gm n : Nat} {w w' : World} {S : Nat → Prop} {ms os : List Int} {O O' : Value} {x : Int} (h : Qv B bL gC s gm n w S ms O os) (ho : w'.ownsRow B 3 1 O' (os.length + 1) (flat os ++ [.int .i64 x])) (hg : w.grownBy w' O.ownBlock) (hn : O'.ownBlock = O.ownBlock ∨ ∃ g, O'.ownBlock = some g ∧ w.heap.size ≤ g) : Qv B bL gC s gm n w' S ms O' (os ++ [x]) := by
  have hbl : O.ownBlock ≠ some bL := fun e => h.q.lz.box.neR h.ou (by decide) e rfl
  obtain ⟨cs, k1, -⟩ := h.q.lz.row
  refine ⟨h.q.grw hg hbl h.e2 h.e1, ?_, ?_, ?_⟩
  · rw [List.length_append, List.length_singleton, flat_append]; exact ho
  · rcases hn with e | ⟨g, e, hg2⟩
    · rw [e]; exact h.e1
    · rw [e]; intro e2; injection e2 with e2; have := (h.q.mi.lt gm rfl).2; omega
  · rcases hn with e | ⟨g, e, hg2⟩
    · rw [e]; exact h.e2
    · rw [e]; intro e2; injection e2 with e2; have := (k1.lt gC rfl).2; omega
/-- what the reference's Order answers -/
def OrG (B n : Nat) (ps : List Pr) (w : World) (v u : Value) (E : Int) : Prop :=
  (E = 0 ∧ u = .slice none 0 0 ∧ ∃ os, Gn (fun x => 0 ≤ x ∧ x < (n : Int)) (fun x z => (⟨x, z⟩ : Pr) ∈ ps) os ∧ os.length = n ∧ w.ownsRow B 3 1 v os.length (flat os)) ∨
  (E = 73 ∧ v = .slice none 0 0 ∧ ∃ (f : Nat) (l : List Int), w.ownsRow B 3 1 u ((f : Int) :: l).length (flat ((f : Int) :: l)) ∧ Fst ps f ∧ Cyc ps f f l)
set_option maxRecDepth 1000000 in
set_option maxHeartbeats 4000000 in
theorem rorder_any (n cap : Nat) (a : Option Addr) (ps : List Pr) (w : World) (hL : LiesA w a ps) (hm : ps.length ≤ 8796093022208) (ht : things (n : Int) ps = true)
    (CY : ∀ (wq : World) (gm : Nat) (ms : List Int), Below w.heap.size w wq → wq.ownsRow w.heap.size 3 1 (.slice (some ⟨gm, 0, none⟩) n n) n (flat ms) → (∀ x, x < n → OnC ps x → ms[x]! ≠ 0) → (∃ x, OnC ps x) → Calls Tryz.prog 34 #[.int .i64 (n : Int), .slice a ps.length cap, .slice (some ⟨gm, 0, none⟩) n n] wq fun e w' => ∃ v, e = .returned v ∧ Below wq.heap.size wq w' ∧ ∃ (f : Nat) (l : List Int), w'.ownsRow wq.heap.size 3 1 v ((f : Int) :: l).length (flat ((f : Int) :: l)) ∧ Fst ps f ∧ Cyc ps f f l) :
    Calls Tryz.prog 9 #[.int .i64 (n : Int), .slice a ps.length cap] w fun e w' => ∃ v u E, e = .returned (.tuple #[v, u, .int .i64 E]) ∧ Below w.heap.size w w' ∧ OrG w.heap.size n ps w' v u E := by
  obtain ⟨hn, hps⟩ := things_spec ht
  obtain ⟨i0, hi0, hz0, hz1, hz2⟩ := info_parts infoIntH
  have HL := hidH hL
  have HPS := hidH hps
  have HCY := hidH CY
  have QB : Hid (Calls Tryz.prog 29 #[.int .i64 (n : Int), .slice a ps.length cap] w fun e w' => e = .returned (.bool false) ∧ w' = w) := by have h9 := rbad_any (n : Int) a cap ps w hL (by omega); rw [ht] at h9; exact h9
  obtain ⟨B, hB⟩ : ∃ B, w.heap.size = B := ⟨_, rfl⟩
  have QR := hidH (rows0R n cap a ps w hL hn hm hps)
  clear hL hps ht CY
  go_enter Tryz.func9, Tryz.ntmps9
  go_upto_region 4 with (first
    | (go_at_call 29; (with_reducible refine QB.out.mono ?_); clear QB; rintro e w1 ⟨rfl, hw⟩; have hw2 := hw.symm; clear hw; subst hw2)
    | (go_at_call 30; (with_reducible refine QR.out.mono ?_); clear QR; rintro e w2 ⟨rfl, hb2, hrx⟩; have HB2 := hidH hb2; have RX := hidH hrx; clear hb2 hrx))
  obtain ⟨C, hC⟩ : ∃ C, w2.heap.size = C := ⟨_, rfl⟩
  have hBC : B ≤ C := by have := HB2.out.size; omega
  have HCE := hidH hC
  have HBE := hidH hB
  rw [hC, hB] at RX
  rw [hB] at HB2
  go_upto_region 5 with (at_make; refine wpList_make_full _ rfl _ _ 32 rfl C 3 i0 (.int .i64 0) 1 Tryz.underlying32 hi0 hz0 hz1 _ _ _ _ n rfl rfl rfl rfl (by rw [hz2]; omega) (by unfold maxLen; omega) (by omega) ?_; intro w3 hown3 hgr3; rw [hC] at hown3 ⊢; have O3 : Hid (w3.ownsRow C 3 1 (.slice (some ⟨C, 0, none⟩) n n) n (flat (List.replicate n (0 : Int)))) := (by rw [show (Value.int .i64 0).cells = #[.int .i64 0] by rfl, rep_made] at hown3; unfold Hid; rw [show flat (List.replicate n (0 : Int)) = List.replicate n (Value.int .i64 0) by rw [flat_ints, List.map_replicate]]; exact hown3); have E3 : Hid (Below C w2 w3) := ((Below.refl _ _).grown hgr3 (by omega) (fun k h => by cases h)); clear hown3 hgr3)
  go_wp2
  go_loopg [9] ps.length (fun gk s9 wr => ∃ (k : Nat) (ms : List Int), gk = ps.length - k ∧ s9 = .int .i64 (k : Int) ∧ k ≤ ps.length ∧ wr.ownsRow C 3 1 (.slice (some ⟨C, 0, none⟩) n n) n (flat ms) ∧ ms.length = n ∧ (∀ y : Nat, y < n → ms[y]! = (cnE (ps.take k) [] (y : Int) : Int)) ∧ Below C w2 wr)
  case atStart => exact ⟨0, _, rfl, rfl, Nat.zero_le _, O3.out, by simp, fun y hy => by rw [getElem!_pos _ _ (by simpa using hy)]; simp [cnE], E3.out⟩
  case round =>
    clear O3 E3
    obtain ⟨k, ms, hgk, rfl, hk, hO, hml, hms, hE⟩ := hrel
    have OM := hidH hO
    have HMS := hidH hms
    have HML := hidH hml
    have EE := hidH hE
    clear hO hms hml hE
    by_cases hkp : k < ps.length
    · have hkp' : (k : Int) < (ps.length : Int) := by omega
      obtain ⟨p, hp⟩ : ∃ p, ps[k]? = some p := ⟨_, List.getElem?_eq_getElem hkp⟩
      obtain ⟨gs, o, hs, hLi⟩ : ∃ b o, a = some ⟨b, o, none⟩ ∧ Lies w b o ps := by
        rcases HL.out with h | h
        · rw [h] at hkp; exact absurd hkp (Nat.not_lt_zero _)
        · exact h
      subst hs
      have HCT := hidH (fun y => cnE_take hp y)
      obtain ⟨pa, pb⟩ := p
      have hrp := HPS.out _ (List.mem_of_getElem? hp)
      simp only at hrp
      obtain ⟨x, rfl⟩ : ∃ x : Nat, pa = (x : Int) := ⟨pa.toNat, by omega⟩
      have hxn : x < n := by omega
      obtain ⟨d0, -⟩ := (hLi.below (by rw [HBE.out]; exact HB2.out.trans (EE.out.mono hBC)) hLi.1).pr hp
      simp only at d0
      have hxl : x < ms.length := by rw [HML.out]; exact hxn
      obtain ⟨v, hv⟩ : ∃ v, ms[x]! = v := ⟨_, rfl⟩
      have hvx : ms[x]? = some v := by rw [List.getElem?_eq_getElem hxl, ← hv, getElem!_pos ms x hxl]
      obtain ⟨cM, fM⟩ := row_cell OM.out hvx
      have hvb : 0 ≤ v ∧ v ≤ (ps.length : Int) := by
        rw [← hv, HMS.out x hxn]
        have := cnE_le (ps.take k) [] (x : Int)
        rw [List.length_take] at this
        omega
      have kk : IntKind.i64.wrap ((k : Int) + 1) = ((k + 1 : Nat) : Int) := by rw [IntWalk.i64_in _ ⟨by omega, by omega⟩]; omega
      have kv : IntKind.i64.wrap (v + 1) = v + 1 := by rw [IntWalk.i64_in _ ⟨by omega, by omega⟩]
      have hx0 : (0 : Int) ≤ (x : Int) := by omega
      have hx1 : (x : Int) < (n : Int) := by omega
      have O2 : Hid ((wr.setCell ⟨C, x, none⟩ (.int .i64 (v + 1))).ownsRow C 3 1 (.slice (some ⟨C, 0, none⟩) n n) n (flat (ms.set x (v + 1)))) := by
        have h1 := (World.ownsRow.stored OM.out x (.int .i64 (v + 1))).1
        rw [flat_setI] at h1
        exact h1
      have E2 := hidH (EE.out.setCell (p := ⟨C, x, none⟩) (Nat.le_refl _) (.int .i64 (v + 1)))
      have M2 : Hid (∀ y : Nat, y < n → (ms.set x (v + 1))[y]! = (cnE (ps.take (k + 1)) [] (y : Int) : Int)) := fun y hy => by
        rw [get_set ms x y _ hxl, HCT.out]
        by_cases e : y = x
        · subst e; rw [if_pos rfl, if_pos rfl, ← hv, HMS.out y hy]; simp
        · rw [if_neg e, if_neg (by simp only; omega), HMS.out y hy]; simp
      clear hp hLi hrp hv hvx
      go_wp2
      go_roundg (ps.length - (k + 1))
      case measure => omega
      case rel => exact ⟨k + 1, _, rfl, rfl, by omega, O2.out, by rw [List.length_set]; exact HML.out, M2.out, E2.out⟩
    · have hkp' : ¬ (k : Int) < (ps.length : Int) := by omega
      have hk2 : k = ps.length := by omega
      have HMF : Hid (∀ y : Nat, y < n → ms[y]! = (cnE ps [] (y : Int) : Int)) := by have h9 := HMS.out; rw [hk2, List.take_length] at h9; exact h9
      obtain ⟨w4, hw4⟩ : ∃ w4, w4 = wr := ⟨wr, rfl⟩
      subst hw4
      have QN := hidH (newLows_any n w4 hn)
      obtain ⟨D, hD⟩ : ∃ D, w4.heap.size = D := ⟨_, rfl⟩
      have hCD : C < D := by have := (OM.out.lt C rfl).2; omega
      rw [hD] at QN
      clear HMS hgk hk hkp hk2
      go_upto_region 10 with (first
        | (go_at_call 31; (with_reducible refine QN.out.mono ?_); clear QN; rintro e w5 ⟨hb5, bL, rfl, s, hns, hz⟩; have E5 := hidH (EE.out.trans (hb5.mono (Nat.le_of_lt hCD))); have Q5 : Hid (Qw C bL D s C n w5 (fun y => y < 0 ∧ ms[y]! = 0) ms) := ⟨(hz.lower (Nat.le_of_lt hCD)).congr (fun y _ => ⟨fun h => h.elim, fun h => absurd h.1 (Nat.not_lt_zero _)⟩), own_belowR OM.out hb5 (by omega), by omega⟩; have hns' := hns; clear hb5 hz))
      go_wp2
      go_loopg [11] n (fun gk si wq => ∃ i : Nat, gk = n - i ∧ si = .int .i64 (i : Int) ∧ i ≤ n ∧ Qw C bL D s C n wq (fun y => y < i ∧ ms[y]! = 0) ms ∧ Below C w2 wq)
      case atStart => exact ⟨0, rfl, rfl, Nat.zero_le _, Q5.out, E5.out⟩
      case round =>
        clear Q5 E5
        obtain ⟨i, hgk, rfl, hi, hQ, hE⟩ := hrel
        have QW := hidH hQ
        have EI := hidH hE
        clear hQ hE
        by_cases hin : i < n
        · have hin' : (i : Int) < (n : Int) := by omega
          have ki : IntKind.i64.wrap ((i : Int) + 1) = ((i + 1 : Nat) : Int) := by rw [IntWalk.i64_in _ ⟨by omega, by omega⟩]; omega
          obtain ⟨cM, -⟩ := QW.out.get hin
          obtain ⟨v, hv⟩ : ∃ v, ms[i]! = v := ⟨_, rfl⟩
          have HV := hidH hv
          rw [hv] at cM
          clear hv
          by_cases hv0 : v = 0
          · subst hv0
            have PT := hidH (put_in C bL D s i _ wr QW.out.lz (by omega) (fun h => absurd h.1 (Nat.lt_irrefl _)))
            go_wp2_with (go_at_call 32; (with_reducible refine PT.out.mono ?_); clear PT; rintro e w6 ⟨⟨r, rfl⟩, hz6, ho6⟩; have Q6 : Hid (Qw C bL D s C n w6 (fun y => y < i + 1 ∧ ms[y]! = 0) ms) := (have q := QW.out.put hz6 ho6; ⟨q.lz.congr (fun y _ => ⟨fun h => h.elim (fun h => ⟨by omega, h.2⟩) (fun h => by subst h; exact ⟨by omega, HV.out⟩), fun h => by by_cases e : y = i; (exact .inr e); (exact .inl ⟨by omega, h.2⟩)⟩), q.mi, q.d1⟩); have E6 := hidH (EI.out.trans (ho6.bel.mono (Nat.le_of_lt hCD))); clear hz6 ho6)
            go_roundg (n - (i + 1))
            case measure => omega
            case rel => exact ⟨i + 1, rfl, rfl, by omega, Q6.out, E6.out⟩
          · have hv1 : (v == 0) = false := by rw [beq_eq_false_iff_ne]; exact hv0
            have Q6 : Hid (Qw C bL D s C n wr (fun y => y < i + 1 ∧ ms[y]! = 0) ms) := ⟨QW.out.lz.congr (fun y _ => ⟨fun h => ⟨by omega, h.2⟩, fun h => ⟨by by_cases e : y = i; (subst e; exact absurd (HV.out.symm.trans h.2) hv0); (omega), h.2⟩⟩), QW.out.mi, QW.out.d1⟩
            go_wp2
            go_roundg (n - (i + 1))
            case measure => omega
            case rel => exact ⟨i + 1, rfl, rfl, by omega, Q6.out, EI.out⟩
        · have hin' : ¬ (i : Int) < (n : Int) := by omega
          have hi2 : i = n := by omega
          subst hi2
          have LR0 : Hid (Lr ps i (fun _ => true) [] (fun y => y < i ∧ ms[y]! = 0) ms []) := (Lr.start QW.out.mlen HMF.out).congr (fun y => ⟨fun h => ⟨h.1, h.2.2⟩, fun h => ⟨h.1, rfl, h.2⟩⟩)
          have QL := hidH (least_any C bL D s _ wr QW.out.lz)
          go_upto_region 17 with (first
            | (go_at_call 33; (with_reducible refine QL.out.mono ?_); clear QL; rintro e w6 ⟨hw6, z, rfl, hle⟩; have hw7 := hw6.symm; clear hw6; subst hw7; have LE := hidH hle; clear hle))
          have Q0 : Hid (Qv C bL D s C i wr (fun y => y < i ∧ ms[y]! = 0) ms (.slice none 0 0) []) := ⟨QW.out, World.ownsRow_nil _ _ _ _, by simp [Value.ownBlock], by simp [Value.ownBlock]⟩
          clear QW HMF
          go_wp2
          go_loopg [12, 13] (i + 1) (fun gk s12 s13 wq => ∃ (S : Nat → Prop) (ms : List Int) (O : Value) (os : List Int) (z : Int), gk = i + 1 - os.length ∧ s12 = O ∧ s13 = .int .i64 z ∧ Qv C bL D s C i wq S ms O os ∧ Lr ps i (fun _ => true) os S ms [] ∧ Lea s S z ∧ Below C w2 wq)
          case atStart => exact ⟨_, ms, _, [], z, rfl, rfl, rfl, Q0.out, LR0.out, LE.out, EI.out⟩
          case round =>
            clear Q0 LR0 LE EI
            obtain ⟨S, ms, O, os, z, hgk3, rfl, rfl, hQ, hLr, hLe, hE⟩ := hrel
            have QV := hidH hQ
            have LR := hidH hLr
            have LE := hidH hLe
            have EI := hidH hE
            obtain ⟨hno, hrg, hosn⟩ := hLr.few
            clear hQ hLr hLe hE
            by_cases hz : 0 ≤ z
            · obtain ⟨x, rfl, hxs, hSx, hmin⟩ : ∃ x : Nat, z = (x : Int) ∧ x < s ∧ S x ∧ ∀ y, y < s → S y → x ≤ y := by
                rcases LE.out with ⟨h, -⟩ | h
                · omega
                · exact h
              have hxi : x < i := ((LR.out.rdy x).1 hSx).1
              have hxi' : (x : Int) < (i : Int) := by omega
              have LP := hidH (LR.out.pop (fun p hp => (HPS.out p hp).1) (fun _ _ => rfl) hSx (fun y hy => hmin y (by have := ((LR.out.rdy y).1 hy).1; omega) hy))
              have PT := hidH (put_out C bL D s x S wr QV.out.q.lz hxs hSx)
              obtain ⟨aO, cO, hO, -, -⟩ := own_slice QV.out.ou
              subst hO
              obtain ⟨q, hq⟩ : ∃ q, os.length = q := ⟨_, rfl⟩
              have HQ := hidH hq
              have hqi : q < i := by
                have h9 := LP.out.few.2.2
                rw [List.length_append, List.length_singleton, hq] at h9
                omega
              rw [hq] at hgk3 QV ⊢
              clear LE hSx hmin hq hno hrg hosn LR
              go_upto_region 20 with (first
                | (go_at_call 32; (with_reducible refine PT.out.mono ?_); clear PT; rintro e w7 ⟨⟨r, rfl⟩, hz7, ho7⟩; have Q7 := hidH (QV.out.put hz7 ho7); have E7 := hidH (EI.out.trans (ho7.bel.mono (Nat.le_of_lt hCD))); clear hz7 ho7 QV))
              obtain ⟨zA, eA, hbA, hsA, BA⟩ := bx1 w7 #[.int .i64 (x : Int)] 3
              have QA := hidH (Q7.out.below hbA)
              have hC7 : C ≤ w7.heap.size := by have := E7.out.size; have := HCE.out; omega
              have EA := hidH (E7.out.trans (hbA.mono hC7))
              have NA : Hid (∀ j u, [Value.int .i64 (x : Int)][j]? = some u → zA.cell? ((⟨w7.heap.size, 0, none⟩ : Addr).add j) = some u) := by unfold Hid; rw [← eA]; exact cells_newH w7 [Value.int .i64 (x : Int)] 3
              have HEA := hidH eA
              have HSA := hidH hsA
              have hBA : C ≤ zA.heap.size := by omega
              have OA : Hid (zA.ownsRow C 3 1 (.slice aO q cO) q (flat os)) := by have h9 := QA.out.ou; rw [HQ.out] at h9; exact h9
              clear eA hbA hsA BA Q7
              go_upto_region 21 with (at_builtin; rw [HEA.out]; refine wpList_append_lies _ rfl _ _ 32 rfl C 3 i0 (.int .i64 0) 1 8 Tryz.underlying32 hi0 hz0 hz1 hz2 rfl (by decide) (.slice aO q cO) q (flat os) rfl OA.out ⟨w7.heap.size, 0, none⟩ 1 1 [Value.int .i64 (x : Int)] rfl rfl NA.out (by intro u hu; simp at hu; subst hu; rfl) (by decide) (by unfold maxLen; omega) (by omega) hBA (w7.heap.size + 1) HSA.out ?_; intro gg cp w9 hown9 hgrow9 hat9 hlt9; have Q9 := hidH (QA.out.push (O' := .slice (some ⟨gg, 0, none⟩) (q + 1) cp) (x := (x : Int)) (by rw [HQ.out]; exact hown9) hgrow9 (by have h7 := HSA.out; rcases hat9 with e | e; exact .inl e.symm; exact .inr ⟨gg, rfl, by omega⟩)); have E9 := hidH (EA.out.grown hgrow9 hBA (fun g e => (OA.out.lt g e).1)); clear hown9 hgrow9 hat9 hlt9)
              obtain ⟨aD, cD, cX0, hrow⟩ := (RX.out.below E9.out).row x hxi
              obtain ⟨r, hr⟩ : ∃ r, (usr ps (x : Int)).length = r := ⟨_, rfl⟩
              have hrp : r ≤ ps.length := by rw [← hr]; exact usr_len ps _
              have HR := hidH hr
              have RX2 : Hid (∀ wq, Below C w2 wq → wq.cell? ⟨B, x, none⟩ = some (.slice aD r cD) ∧ ∀ (j : Nat) y, (usr ps (x : Int))[j]? = some y → ∃ g, aD = some ⟨g, 0, none⟩ ∧ wq.cell? ⟨g, j, none⟩ = some (.int .i64 y)) := fun wq hq => by
                obtain ⟨a1, c1, h1, h2⟩ := RX.out.row x hxi
                have h3 := (E9.out.cell (p := ⟨B, x, none⟩) RX.out.lt).trans h1
                rw [cX0] at h3
                injection h3 with h3
                injection h3 with e1 e2 e3
                subst e1 e3
                refine ⟨by rw [(hq.cell (p := ⟨B, x, none⟩) RX.out.lt).trans h1, HR.out], fun j y hj => ?_⟩
                obtain ⟨g, e, hg, hc⟩ := h2 (by have := (List.getElem?_eq_some_iff.1 hj).1; omega)
                exact ⟨g, e, (hq.cell (p := ⟨g, j, none⟩) hg).trans (hc j y hj)⟩
              clear QA EA NA HEA HSA OA hrow hr cX0
              go_wp2
              go_loopg [14] r (fun g3 s14 wq => ∃ (j : Nat) (S : Nat → Prop) (ms : List Int), g3 = r - j ∧ s14 = .int .i64 (j : Int) ∧ j ≤ r ∧ Qv C bL D s C i wq S ms (.slice (some ⟨gg, 0, none⟩) (q + 1) cp) (os ++ [(x : Int)]) ∧ Lr ps i (fun _ => true) (os ++ [(x : Int)]) S ms ((usr ps (x : Int)).drop j) ∧ Below C w2 wq)
              case atStart => exact ⟨0, _, ms, rfl, rfl, Nat.zero_le _, Q9.out, LP.out, E9.out⟩
              case round =>
                clear Q9 LP E9
                obtain ⟨j, S, ms, hg3, rfl, hj, hQ, hLr, hE⟩ := hrel
                have QV := hidH hQ
                have LR := hidH hLr
                have EI := hidH hE
                clear hQ hLr hE
                obtain ⟨cX, hcy⟩ := RX2.out wr EI.out
                by_cases hjr : j < r
                · have hjr' : (j : Int) < (r : Int) := by omega
                  have kj : IntKind.i64.wrap ((j : Int) + 1) = ((j + 1 : Nat) : Int) := by rw [IntWalk.i64_in _ ⟨by omega, by omega⟩]; omega
                  obtain ⟨y0, hy0⟩ : ∃ y, (usr ps (x : Int))[j]? = some y := ⟨_, List.getElem?_eq_getElem (by rw [HR.out]; exact hjr)⟩
                  have hye := mem_usr.1 (List.mem_of_getElem? hy0)
                  have hyr := (HPS.out _ hye).1
                  simp only at hyr
                  obtain ⟨y, rfl⟩ : ∃ y : Nat, y0 = (y : Int) := ⟨y0.toNat, by omega⟩
                  have LRy : Hid (Lr ps i (fun _ => true) (os ++ [(x : Int)]) S ms ((y : Int) :: (usr ps (x : Int)).drop (j + 1))) := by
                    have h9 := LR.out
                    obtain ⟨hj9, e9⟩ := List.getElem?_eq_some_iff.1 hy0
                    rw [List.drop_eq_getElem_cons hj9, e9] at h9
                    exact h9
                  obtain ⟨hyi, hy1, hyS, -, -⟩ := LRy.out.pos
                  obtain ⟨g, rfl, cY⟩ := hcy j _ hy0
                  obtain ⟨cM, fM⟩ := QV.out.q.get hyi
                  obtain ⟨v, hv⟩ : ∃ v, ms[y]! = v := ⟨_, rfl⟩
                  have hvb : v ≤ 2 * (ps.length : Int) := by
                    rw [← hv, LR.out.cnt y hyi]
                    have h1 := cnE_le ps (os ++ [(x : Int)]) (y : Int)
                    have h2 : cnP ((usr ps (x : Int)).drop j) (y : Int) ≤ ps.length := by
                      unfold cnP
                      exact Nat.le_trans (List.length_filter_le _ _) (Nat.le_trans (by rw [List.length_drop]; omega) (usr_len ps (x : Int)))
                    omega
                  have LD := hidH LRy.out.dec
                  rw [hv] at cM hy1 LD
                  have kv : IntKind.i64.wrap (v - 1) = v - 1 := by rw [IntWalk.i64_in _ ⟨by omega, by omega⟩]
                  have hyi' : (y : Int) < (i : Int) := by omega
                  have hy0' : (0 : Int) ≤ (y : Int) := by omega
                  have QS := hidH (QV.out.set y (v - 1))
                  have ES : Hid (Below C w2 (wr.setCell ⟨C, y, none⟩ (.int .i64 (v - 1)))) := EI.out.setCell (p := ⟨C, y, none⟩) (Nat.le_refl _) _
                  obtain ⟨cM2, -⟩ := QS.out.q.get hyi
                  rw [get_set ms y y _ (by rw [QV.out.q.mlen]; exact hyi), if_pos rfl] at cM2
                  have HYS := hidH hyS
                  clear hye hyr hy0 hcy hv hyS LR LRy
                  by_cases hv1 : v - 1 = 0
                  · have hv2 : v = 1 := by omega
                    subst hv2
                    have QS1 : Hid (Qv C bL D s C i (wr.setCell ⟨C, y, none⟩ (.int .i64 0)) S (ms.set y 0) (.slice (some ⟨gg, 0, none⟩) (q + 1) cp) (os ++ [(x : Int)])) := QS.out
                    have ES1 : Hid (Below C w2 (wr.setCell ⟨C, y, none⟩ (.int .i64 0))) := ES.out
                    have LD1 : Hid (Lr ps i (fun _ => true) (os ++ [(x : Int)]) (fun z => S z ∨ z = y) (ms.set y 0) ((usr ps (x : Int)).drop (j + 1))) := LD.out.congr (fun z => ⟨fun h => h.imp id (fun h => h.1), fun h => h.imp id (fun h => ⟨h, by omega⟩)⟩)
                    clear QS ES LD
                    go_upto_region 27 with fail
                    obtain ⟨wS, hwS⟩ : ∃ wS, wr.setCell ⟨C, y, none⟩ (.int .i64 0) = wS := ⟨_, rfl⟩
                    rw [hwS] at QS1 ES1 ⊢
                    have PT := hidH (put_in C bL D s y S wS QS1.out.q.lz (by omega) HYS.out)
                    clear hwS cM cM2 cY cX
                    go_wp2_with (go_at_call 32; (with_reducible refine PT.out.mono ?_); clear PT; rintro e w6 ⟨⟨r2, rfl⟩, hz6, ho6⟩; have Q6 := hidH (QS1.out.put hz6 ho6); have E6 := hidH (ES1.out.trans (ho6.bel.mono (Nat.le_of_lt hCD))); clear hz6 ho6)
                    go_roundg (r - (j + 1))
                    case measure => omega
                    case rel => exact ⟨j + 1, _, _, rfl, rfl, by omega, Q6.out, LD1.out, E6.out⟩
                  · have hv3 : ((v - 1) == 0) = false := by rw [beq_eq_false_iff_ne]; exact hv1
                    obtain ⟨u, hu⟩ : ∃ u, v - 1 = u := ⟨_, rfl⟩
                    have kv' : IntKind.i64.wrap (v - 1) = u := by rw [kv]; exact hu
                    rw [hu] at hv1 hv3 QS ES LD cM2
                    clear kv
                    have LD1 := hidH (LD.out.congr (S' := S) (fun z => ⟨fun h => h.elim id (fun h => absurd h.2 hv1), .inl⟩))
                    clear hu LD
                    go_wp2
                    go_roundg (r - (j + 1))
                    case measure => omega
                    case rel => exact ⟨j + 1, S, _, rfl, rfl, by omega, QS.out, LD1.out, ES.out⟩
                · have hjr' : ¬ (j : Int) < (r : Int) := by omega
                  have LR2 : Hid (Lr ps i (fun _ => true) (os ++ [(x : Int)]) S ms []) := by have h9 := LR.out; rw [List.drop_eq_nil_of_le (by rw [HR.out]; omega)] at h9; exact h9
                  have QL := hidH (least_any C bL D s S wr QV.out.q.lz)
                  clear hcy
                  go_wp2_with (first
                    | (go_at_call 33; (with_reducible refine QL.out.mono ?_); clear QL; rintro e w6 ⟨hw6, z, rfl, hle⟩; have hw7 := hw6.symm; clear hw6; subst hw7; have LE := hidH hle; clear hle))
                  go_roundg (i + 1 - (q + 1))
                  case measure => omega
                  case rel => exact ⟨S, ms, _, os ++ [(x : Int)], z, by rw [List.length_append, List.length_singleton, HQ.out], rfl, rfl, QV.out, LR2.out, LE.out, EI.out⟩
            · have hz' : ¬ (0 : Int) ≤ z := by omega
              have hS : ∀ y, ¬ S y := by
                rcases LE.out with ⟨-, h⟩ | ⟨x, rfl, -⟩
                · exact fun y hy => h y (by have := ((LR.out.rdy y).1 hy).1; omega) hy
                · omega
              have GN : Hid (Gn (fun x => 0 ≤ x ∧ x < (i : Int)) (fun x z => (⟨x, z⟩ : Pr) ∈ ps) os) := (LR.out.stop hS).congr (fun x => ⟨fun h => h.1, fun h => ⟨h, rfl⟩⟩) (fun x _ z => Iff.rfl)
              have HBI : Hid (Below B w wr) := HB2.out.trans (EI.out.mono hBC)
              obtain ⟨aO, cO, hO, -, -⟩ := own_slice QV.out.ou
              subst hO
              by_cases hfull : os.length = i
              · have OO : Hid (wr.ownsRow C 3 1 (.slice aO i cO) i (flat os)) := by have h9 := QV.out.ou; rw [hfull] at h9; exact h9
                have HFU := hidH hfull
                rw [hfull]
                clear hfull LE LR QV hS
                go_wp2
                go_ret3
                exact ⟨_, _, _, rfl, by first | exact HBI.out | (rw [hB]; exact HBI.out), .inl ⟨rfl, rfl, os, GN.out, HFU.out, by rw [HFU.out]; first | exact own_lower OO.out hBC | (rw [hB]; exact own_lower OO.out hBC)⟩⟩
              · have hex : ∃ x, OnC ps x := by
                  apply Classical.byContradiction
                  intro h
                  exact hfull ((full_iff hno hrg).2 fun x hx => gn_all HPS.out GN.out (fun x hx => h ⟨x, hx⟩) _ x hx (Nat.le_refl _))
                have hleft : ∀ x, x < i → OnC ps x → ms[x]! ≠ 0 := fun x hx hc h0 => by
                  obtain ⟨z, he, hcz⟩ := hc.next
                  exact GN.out.noc ((LR.out.left hx).1 h0 _ he) hcz
                have CY := hidH (HCY.out wr C ms (by rw [hB]; exact HBI.out) (by rw [hB]; exact own_lower QV.out.q.mi hBC) hleft hex)
                obtain ⟨q, hq⟩ : ∃ q, os.length = q := ⟨_, rfl⟩
                rw [hq] at hfull hosn ⊢
                have hq1 : ((q : Int) == (i : Int)) = false := by rw [beq_eq_false_iff_ne]; omega
                have hq2 : ¬ (q : Int) = (i : Int) := by omega
                have hBw : B ≤ wr.heap.size := by have := HBI.out.size; omega
                clear hq LE LR QV hS hleft hex
                go_wp2_with (go_at_call 34; (with_reducible refine CY.out.mono ?_); clear CY; rintro e w5 ⟨v, rfl, hb6, f, l, ho6, hF, hC⟩; have HB6 := hidH (HBI.out.trans (hb6.mono hBw)); have O6 := hidH (own_lower ho6 hBw); have HF := hidH hF; have HC := hidH hC; clear hb6 ho6 hF hC)
                go_ret3
                exact ⟨_, _, _, rfl, by first | exact HB6.out | (rw [hB]; exact HB6.out), .inr ⟨rfl, rfl, f, l, by first | exact O6.out | (rw [hB]; exact O6.out), HF.out, HC.out⟩⟩
end Go.Proofs.YtgijcbipnjmhgabGreat
