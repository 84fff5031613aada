import Derived.Test.YteolfolkolpehaaDoorCm1
import Derived.Test.YteolfolkolpehaaDoorAp1
import Derived.Test.YteolfolkolpehaaDoorKb
namespace Go.Proofs.YteolfolkolpehaaDoor
open Go.ChangeShapes Go.WideShapes Go.ChangeAt Go.RowKit
set_option linter.unusedVariables false

/-- a list that lies below a mark -/
def EdsL (B : Nat) (w : World) (a : Option Addr) (xs : List Ed) : Prop := xs = [] ∨ ∃ b o, a = some ⟨b, o, none⟩ ∧ b < B ∧ Eds w b o xs

theorem EdsL.below {B : Nat} {w w' : World} {a : Option Addr} {xs : List Ed} (h : EdsL B w a xs) (hb : Below B w w') : EdsL B w' a xs := by
  rcases h with h | ⟨b, o, ha, hB, h⟩
  · exact .inl h
  · exact .inr ⟨b, o, ha, hB, h.below hb hB⟩

/-- what takeUp adds of one, of all, and what is left -/
def pc (p : Ed) (fr to : Int) : List UInt8 := if max p.f fr < min p.t to then (p.s.extract (max p.f fr - p.f).toNat (min p.t to - p.f).toNat).data.toList else []
def tk : List Ed → Int → Int → List UInt8 × List Ed
  | [], _, _ => ([], [])
  | p :: r, fr, to => if to < p.t then (pc p fr to, p :: r) else (pc p fr to ++ (tk r fr to).1, (tk r fr to).2)

theorem Eds.first {w : World} {b o : Nat} {e : Ed} {r : List Ed} (h : Eds w b o (e :: r)) : w.cell? ⟨b, o, none⟩ = some (.int .i64 e.f) ∧ w.cell? ⟨b, o + 1, none⟩ = some (.int .i64 e.t) ∧ w.cell? ⟨b, o + 2, none⟩ = some (.string e.s) := by
  have := h.2 0 e rfl
  simpa using this

set_option maxHeartbeats 400000 in
theorem lowest_any (a1 a2 : Option Addr) (c1 c2 : Nat) (put b : List Ed) (w : World) (h1 : EdsA w a1 put) (h2 : EdsA w a2 b) (hn : 0 < put.length + b.length) (hl1 : put.length ≤ 65536) (hl2 : b.length ≤ 65536) :
    Calls Tryd.prog 65 #[.slice a1 put.length c1, .slice a2 b.length c2] w fun e w' => e = .returned (.int .i64 (low put b)) ∧ Below w.heap.size w w' := by
  cases put with
  | nil =>
    rcases h2 with rfl | ⟨bb, bo, rfl, h2⟩
    · simp at hn
    cases b with
    | nil => simp at hn
    | cons e r =>
      obtain ⟨x0, x1, x2⟩ := h2.first
      have e1 : 0 < (e :: r).length := by simp
      rw [show low [] (e :: r) = e.f from rfl, List.length_nil]
      generalize (e :: r).length = n at *
      clear h2 hn h1 hl1
      go_enter Tryd.func65, Tryd.ntmps65
      go_wp2
      go_ret
      exact ⟨rfl, Below.refl _ _⟩
  | cons p q =>
    rcases h1 with h1 | ⟨pb, po, rfl, h1⟩
    · cases h1
    obtain ⟨y0, y1, y2⟩ := h1.first
    have e2 : 0 < (p :: q).length := by simp
    cases b with
    | nil =>
      rw [show low (p :: q) [] = p.f from rfl, List.length_nil]
      generalize (p :: q).length = m at *
      have e3 : ((m : Int) == 0) = false := by simp; omega
      clear h1 hn h2 hl2
      go_enter Tryd.func65, Tryd.ntmps65
      go_wp2
      go_ret
      exact ⟨rfl, Below.refl _ _⟩
    | cons e r =>
      rcases h2 with h2 | ⟨bb, bo, rfl, h2⟩
      · cases h2
      obtain ⟨x0, x1, x2⟩ := h2.first
      have e1 : 0 < (e :: r).length := by simp
      rw [show low (p :: q) (e :: r) = min p.f e.f from rfl]
      generalize (p :: q).length = m at *
      generalize (e :: r).length = n at *
      have e3 : ((m : Int) == 0) = false := by simp; omega
      have e4 : ((n : Int) == 0) = false := by simp; omega
      clear h1 hn h2
      by_cases hm : e.f < p.f
      · rw [Int.min_eq_right (Int.le_of_lt hm)]
        go_enter Tryd.func65, Tryd.ntmps65
        go_wp2
        go_quiet (fail)
        go_wp2
        go_ret
        exact ⟨rfl, by (repeat (with_reducible refine below_drewN ?_ _)); exact Below.refl _ _⟩
      · rw [Int.min_eq_left (by omega)]
        go_enter Tryd.func65, Tryd.ntmps65
        go_wp2
        go_quiet (fail)
        go_wp2
        go_ret
        exact ⟨rfl, by (repeat (with_reducible refine below_drewN ?_ _)); exact Below.refl _ _⟩

theorem tk_break {e : Ed} {fr to : Int} (r : List Ed) (h : to < e.t) : tk (e :: r) fr to = (pc e fr to, e :: r) := by rw [tk, if_pos h]
theorem tk_next {e : Ed} {fr to : Int} (r : List Ed) (h : ¬ to < e.t) : tk (e :: r) fr to = (pc e fr to ++ (tk r fr to).1, (tk r fr to).2) := by rw [tk, if_neg h]
theorem pc_yes {e : Ed} {fr to lo hi : Int} (h1 : max e.f fr = lo) (h2 : min e.t to = hi) (h : lo < hi) : pc e fr to = (e.s.extract (lo - e.f).toNat (hi - e.f).toNat).data.toList := by rw [pc, h1, h2, if_pos h]
theorem pc_no {e : Ed} {fr to lo hi : Int} (h1 : max e.f fr = lo) (h2 : min e.t to = hi) (h : ¬ lo < hi) : pc e fr to = [] := by rw [pc, h1, h2, if_neg h]

/-- what was put: its places are those of its bytes -/
def Pt (e : Ed) : Prop := 0 ≤ e.f ∧ e.t = e.f + e.s.size ∧ e.t ≤ 9223372036854775807

theorem Eds.tail {w : World} {b o : Nat} {e : Ed} {r : List Ed} (h : Eds w b o (e :: r)) : Eds w b (o + 3) r := by
  refine ⟨h.1, fun i x hx => ?_⟩
  have := h.2 (i + 1) x (by simpa using hx)
  rw [show o + 3 + i * 3 = o + (i + 1) * 3 by omega]
  exact this

theorem EdsL.tail {B : Nat} {w : World} {b o : Nat} {e : Ed} {r : List Ed} (h : EdsL B w (some ⟨b, o, none⟩) (e :: r)) : EdsL B w (some ⟨b, o + 3, none⟩) r := by
  rcases h with h | ⟨b', o', ha, hB, h⟩
  · cases h
  · cases ha; exact .inr ⟨b, o + 3, rfl, hB, h.tail⟩

set_option maxRecDepth 1000000 in
set_option maxHeartbeats 2000000 in
theorem takeUp_any (B : Nat) (v : Value) (l : List UInt8) (a1 : Option Addr) (c1 : Nat) (put : List Ed) (fr to : Int) (w : World) (hB : B ≤ w.heap.size) (ho : w.ownsRow B 5 1 v l.length (bc l)) (h1 : EdsL B w a1 put) (hl : put.length ≤ 65536) (hc : put.length ≤ c1) (hp : ∀ e ∈ put, Pt e) (hf0 : 0 ≤ fr) (hf1 : fr ≤ 9223372036854775807) (ht0 : 0 ≤ to) (ht1 : to ≤ 9223372036854775807) (hbd : l.length + tots put ≤ 70368744177664) :
    Calls Tryd.prog 85 #[v, .slice a1 put.length c1, .int .i64 fr, .int .i64 to] w fun e w' => ∃ v' a2 c2, e = .returned (.tuple #[v', .slice a2 (tk put fr to).2.length c2]) ∧ (tk put fr to).2.length ≤ c2 ∧ w'.ownsRow B 5 1 v' (l ++ (tk put fr to).1).length (bc (l ++ (tk put fr to).1)) ∧ Below B w w' ∧ KB w w' ∧ EdsL B w' a2 (tk put fr to).2 := by
  obtain ⟨i0, hi, hz0, hz1, hz2⟩ := info_parts infoU8
  have HO0 : Hid (w.ownsRow B 5 1 v l.length (bc l)) := ho
  have H1 : Hid (EdsL B w a1 put) := h1
  have HP0 : Hid (∀ e ∈ put, Pt e) := hp
  clear ho h1 hp
  go_enter Tryd.func85, Tryd.ntmps85
  go_wp2
  go_loopg [0, 1] put.length (fun gk sv sp wr => ∃ (q : List Ed) (s : List UInt8) (aq : Option Addr) (cq : Nat), gk = q.length ∧ q.length ≤ 65536 ∧ q.length ≤ cq ∧ sp = .slice aq q.length cq ∧ wr.ownsRow B 5 1 sv (l ++ s).length (bc (l ++ s)) ∧ EdsL B wr aq q ∧ (∀ e ∈ q, Pt e) ∧ tk put fr to = (s ++ (tk q fr to).1, (tk q fr to).2) ∧ Below B w wr ∧ KB w wr ∧ (l ++ s).length + tots q ≤ 70368744177664 ∧ B ≤ wr.heap.size)
  case atStart => exact ⟨put, [], a1, c1, rfl, hl, hc, rfl, by rw [List.append_nil]; exact HO0.out, H1.out, HP0.out, by simp, Below.refl _ _, KB.refl _, by simpa using hbd, hB⟩
  case round =>
    obtain ⟨q, s, aq, cq, rfl, hq1, hq2, rfl, hown, hE, hpq, htk, hbel, hkb, hsum, hBr⟩ := hrel
    have hlt1 : Hid (∀ k, u0.ownBlock = some k → B ≤ k ∧ k < wr.heap.size) := hown.lt
    have HO : Hid (wr.ownsRow B 5 1 u0 (l ++ s).length (bc (l ++ s))) := hown
    have HE : Hid (EdsL B wr aq q) := hE
    have HPQ : Hid (∀ e ∈ q, Pt e) := hpq
    have HT : Hid (tk put fr to = (s ++ (tk q fr to).1, (tk q fr to).2)) := htk
    have HKB : Hid (KB w wr) := hkb
    clear hown hE hpq htk hkb
    cases q with
    | nil =>
      go_wp2
      go_ret2
      refine ⟨u0, aq, cq, ?_, ?_, ?_, hbel, HKB.out, ?_⟩
      · rw [HT.out]; rfl
      · rw [HT.out]; exact hq2
      · rw [HT.out]; simpa [tk] using HO.out
      · rw [HT.out]; exact .inl rfl
    | cons e r =>
      rcases HE.out with h0 | ⟨pb, po, rfl, hpB, hEE⟩
      · cases h0
      obtain ⟨x0, x1, x2⟩ := hEE.first
      obtain ⟨q1, q2, q3⟩ := HPQ.out e (List.mem_cons_self ..)
      have hlen : (e :: r).length = r.length + 1 := rfl
      have htots : tots (e :: r) = e.s.size + tots r := rfl
      rw [htots] at hsum
      rw [hlen] at hq1 hq2
      have q4 : e.t ≤ e.f + e.s.size := by omega
      have q5 : e.f + e.s.size ≤ e.t := by omega
      have HPR : Hid (∀ x ∈ r, Pt x) := fun x hx => HPQ.out x (List.mem_cons_of_mem _ hx)
      have HTL : Hid (EdsL B wr (some ⟨pb, po + 3, none⟩) r) := HE.out.tail
      clear hEE q2 htots
      by_cases hA : e.f < fr
      · have m1 : max e.f fr = fr := Int.max_eq_right (Int.le_of_lt hA)
        by_cases hC : to < e.t
        · have m2 : min e.t to = to := Int.min_eq_right (Int.le_of_lt hC)
          have HK : Hid (tk (e :: r) fr to = (pc e fr to, e :: r)) := tk_break r hC
          by_cases hD : fr < to
          · have HC : Hid (pc e fr to = (e.s.extract (fr - e.f).toNat (to - e.f).toNat).data.toList) := pc_yes m1 m2 hD
            have HXS : Hid ((e.s.extract (fr - e.f).toNat (to - e.f).toNat).size = (to - fr).toNat) := by unfold Hid; rw [ByteArray.size_extract]; omega
            have hxb : (to - fr).toNat ≤ e.s.size := by omega
            clear m1 m2
            go_wp2
            go_quiet (fail)
            go_wp2_with (at_builtin; (refine Lib.wpList_append_own_string _ rfl (.tmp 30) (.tmp 41) 59 9 rfl B 5 i0 Tryd.underlying59 Tryd.underlying9 hi hz0 hz1 hz2 _ _ _ rfl (HO.out.alloc _) _ rfl ?_ ?_ ?_ ?_))
            case refine_1 => rw [HXS.out]; unfold maxLen; omega
            case refine_2 => rw [HXS.out]; omega
            case refine_3 => simp; omega
            intro v4 w4 hown4 hgrow4 _
            rw [bc_str, ← bc_append, ← HC.out] at hown4
            have hle5 : (l ++ (s ++ pc e fr to)).length = (l ++ s).length + (e.s.extract (fr - e.f).toNat (to - e.f).toNat).size := by
              rw [← List.append_assoc]; exact (List.length_append ..).trans (by rw [HC.out, bytes_len])
            have hown5 : w4.ownsRow B 5 1 v4 (l ++ (s ++ pc e fr to)).length (bc (l ++ (s ++ pc e fr to))) := by
              have hn5 := own_bytes hown4
              rw [hn5, List.append_assoc] at hown4
              exact hown4
            have hb0 : w4.heap[wr.heap.size]? = some (.cells #[.int .i64 e.f, .int .i64 e.t, .string e.s] 103 (0, 0)) := (hgrow4.block _ (by simp) (fun h => by have := (hlt1.out _ h.symm).2; omega)).trans (heap_alloc_new wr _)
            have d1 : w4.cell? ⟨wr.heap.size, 1, none⟩ = some (.int .i64 e.t) := by simp [World.cell?, hb0]
            have hbel4 : Below B w w4 := (below_drewN (hbel.alloc hBr _) _).grown hgrow4 (by simp; omega) (fun k h => (hlt1.out k h).1)
            have hkb4 : KB w w4 := KB.own (b := (wr.alloc _).drewN nq) (HKB.out.alloc _) (HO.out.alloc _) hgrow4
            have HTL4 : Hid (EdsL B w4 (some ⟨pb, po + 3, none⟩) r) := HTL.out.below ((below_drewN ((Below.refl B wr).alloc hBr _) _).grown hgrow4 (by simp; omega) (fun k h => (hlt1.out k h).1))
            have HEE4 : Hid (EdsL B w4 (some ⟨pb, po, none⟩) (e :: r)) := HE.out.below ((below_drewN ((Below.refl B wr).alloc hBr _) _).grown hgrow4 (by simp; omega) (fun k h => (hlt1.out k h).1))
            have HO4 : Hid (w4.ownsRow B 5 1 v4 (l ++ (s ++ pc e fr to)).length (bc (l ++ (s ++ pc e fr to)))) := hown5
            have HKB4 : Hid (KB w w4) := hkb4
            have hsz4 : B ≤ w4.heap.size := Nat.le_trans hB (Nat.le_trans (by omega) hbel4.size)
            have hsl : (l ++ (s ++ pc e fr to)).length + tots r ≤ 70368744177664 := by
              rw [hle5, HXS.out]; omega
            clear hown4 hown5 hgrow4 hb0 hkb4 hle5
            go_wp2
            go_ret2
            refine ⟨v4, some ⟨pb, po, none⟩, cq, ?_, ?_, ?_, hbel4, HKB4.out, ?_⟩
            · rw [HT.out, HK.out]; rfl
            · rw [HT.out, HK.out]; exact hq2
            · rw [HT.out, HK.out]; exact HO4.out
            · rw [HT.out, HK.out]; exact HEE4.out
          · have HC : Hid (pc e fr to = []) := pc_no m1 m2 hD
            clear m1 m2
            have HC' : Hid (s ++ pc e fr to = s) := by unfold Hid; rw [HC.out, List.append_nil]
            have hsl : (l ++ s).length + tots r ≤ 70368744177664 := by omega
            go_wp2
            go_quiet (fail)
            go_wp2
            go_ret2
            refine ⟨u0, some ⟨pb, po, none⟩, cq, ?_, ?_, ?_, below_drewN (hbel.alloc hBr _) _, HKB.out.alloc _, ?_⟩
            · rw [HT.out, HK.out]; rfl
            · rw [HT.out, HK.out]; exact hq2
            · rw [HT.out, HK.out]; show World.ownsRow _ _ _ _ _ (l ++ (s ++ pc e fr to)).length (bc (l ++ (s ++ pc e fr to))); rw [HC'.out]; exact HO.out.alloc _
            · rw [HT.out, HK.out]; exact HE.out.below (below_drewN ((Below.refl B wr).alloc hBr _) _)
        · have m2 : min e.t to = e.t := Int.min_eq_left (by omega)
          have HK : Hid (tk (e :: r) fr to = (pc e fr to ++ (tk r fr to).1, (tk r fr to).2)) := tk_next r hC
          by_cases hD : fr < e.t
          · have HC : Hid (pc e fr to = (e.s.extract (fr - e.f).toNat (e.t - e.f).toNat).data.toList) := pc_yes m1 m2 hD
            have HXS : Hid ((e.s.extract (fr - e.f).toNat (e.t - e.f).toNat).size = (e.t - fr).toNat) := by unfold Hid; rw [ByteArray.size_extract]; omega
            have hxb : (e.t - fr).toNat ≤ e.s.size := by omega
            clear m1 m2
            go_wp2
            go_quiet (fail)
            go_wp2_with (at_builtin; (refine Lib.wpList_append_own_string _ rfl (.tmp 30) (.tmp 41) 59 9 rfl B 5 i0 Tryd.underlying59 Tryd.underlying9 hi hz0 hz1 hz2 _ _ _ rfl (HO.out.alloc _) _ rfl ?_ ?_ ?_ ?_))
            case refine_1 => rw [HXS.out]; unfold maxLen; omega
            case refine_2 => rw [HXS.out]; omega
            case refine_3 => simp; omega
            intro v4 w4 hown4 hgrow4 _
            rw [bc_str, ← bc_append, ← HC.out] at hown4
            have hle5 : (l ++ (s ++ pc e fr to)).length = (l ++ s).length + (e.s.extract (fr - e.f).toNat (e.t - e.f).toNat).size := by
              rw [← List.append_assoc]; exact (List.length_append ..).trans (by rw [HC.out, bytes_len])
            have hown5 : w4.ownsRow B 5 1 v4 (l ++ (s ++ pc e fr to)).length (bc (l ++ (s ++ pc e fr to))) := by
              have hn5 := own_bytes hown4
              rw [hn5, List.append_assoc] at hown4
              exact hown4
            have hb0 : w4.heap[wr.heap.size]? = some (.cells #[.int .i64 e.f, .int .i64 e.t, .string e.s] 103 (0, 0)) := (hgrow4.block _ (by simp) (fun h => by have := (hlt1.out _ h.symm).2; omega)).trans (heap_alloc_new wr _)
            have d1 : w4.cell? ⟨wr.heap.size, 1, none⟩ = some (.int .i64 e.t) := by simp [World.cell?, hb0]
            have hbel4 : Below B w w4 := (below_drewN (hbel.alloc hBr _) _).grown hgrow4 (by simp; omega) (fun k h => (hlt1.out k h).1)
            have hkb4 : KB w w4 := KB.own (b := (wr.alloc _).drewN nq) (HKB.out.alloc _) (HO.out.alloc _) hgrow4
            have HTL4 : Hid (EdsL B w4 (some ⟨pb, po + 3, none⟩) r) := HTL.out.below ((below_drewN ((Below.refl B wr).alloc hBr _) _).grown hgrow4 (by simp; omega) (fun k h => (hlt1.out k h).1))
            have HEE4 : Hid (EdsL B w4 (some ⟨pb, po, none⟩) (e :: r)) := HE.out.below ((below_drewN ((Below.refl B wr).alloc hBr _) _).grown hgrow4 (by simp; omega) (fun k h => (hlt1.out k h).1))
            have HO4 : Hid (w4.ownsRow B 5 1 v4 (l ++ (s ++ pc e fr to)).length (bc (l ++ (s ++ pc e fr to)))) := hown5
            have HKB4 : Hid (KB w w4) := hkb4
            have hsz4 : B ≤ w4.heap.size := Nat.le_trans hB (Nat.le_trans (by omega) hbel4.size)
            have hsl : (l ++ (s ++ pc e fr to)).length + tots r ≤ 70368744177664 := by
              rw [hle5, HXS.out]; omega
            clear hown4 hown5 hgrow4 hb0 hkb4 hle5
            go_wp2
            all_goals
              go_roundg r.length
              case measure => omega
              case rel =>
                first
                | exact ⟨r, s ++ pc e fr to, some ⟨pb, po + 3, none⟩, cq - 1, rfl, by omega, by omega, rfl, HO4.out, HTL4.out, HPR.out, by rw [HT.out, HK.out, List.append_assoc], hbel4, HKB4.out, hsl, hsz4⟩
                | exact ⟨r, s ++ pc e fr to, some ⟨pb, po, none⟩, 0, rfl, by omega, by omega, rfl, HO4.out, .inl (List.eq_nil_of_length_eq_zero (by omega)), HPR.out, by rw [HT.out, HK.out, List.append_assoc], hbel4, HKB4.out, hsl, hsz4⟩
          · have HC : Hid (pc e fr to = []) := pc_no m1 m2 hD
            clear m1 m2
            have HC' : Hid (s ++ pc e fr to = s) := by unfold Hid; rw [HC.out, List.append_nil]
            have hsl : (l ++ s).length + tots r ≤ 70368744177664 := by omega
            go_wp2
            go_quiet (fail)
            go_wp2
            all_goals
              go_roundg r.length
              case measure => omega
              case rel =>
                first
                | exact ⟨r, s, some ⟨pb, po + 3, none⟩, cq - 1, rfl, by omega, by omega, rfl, HO.out.alloc _, HTL.out.below (below_drewN ((Below.refl B wr).alloc hBr _) _), HPR.out, by rw [HT.out, HK.out, ← List.append_assoc, HC'.out], below_drewN (hbel.alloc hBr _) _, HKB.out.alloc _, hsl, by simp; omega⟩
                | exact ⟨r, s, some ⟨pb, po, none⟩, 0, rfl, by omega, by omega, rfl, HO.out.alloc _, .inl (List.eq_nil_of_length_eq_zero (by omega)), HPR.out, by rw [HT.out, HK.out, ← List.append_assoc, HC'.out], below_drewN (hbel.alloc hBr _) _, HKB.out.alloc _, hsl, by simp; omega⟩
      · have m1 : max e.f fr = e.f := Int.max_eq_left (by omega)
        by_cases hC : to < e.t
        · have m2 : min e.t to = to := Int.min_eq_right (Int.le_of_lt hC)
          have HK : Hid (tk (e :: r) fr to = (pc e fr to, e :: r)) := tk_break r hC
          by_cases hD : e.f < to
          · have HC : Hid (pc e fr to = (e.s.extract 0 (to - e.f).toNat).data.toList) := (pc_yes m1 m2 hD).trans (by rw [Int.sub_self]; rfl)
            have HXS : Hid ((e.s.extract 0 (to - e.f).toNat).size = (to - e.f).toNat) := by unfold Hid; rw [ByteArray.size_extract]; omega
            have hxb : (to - e.f).toNat ≤ e.s.size := by omega
            clear m1 m2
            go_wp2
            go_quiet (fail)
            go_wp2_with (at_builtin; (refine Lib.wpList_append_own_string _ rfl (.tmp 30) (.tmp 41) 59 9 rfl B 5 i0 Tryd.underlying59 Tryd.underlying9 hi hz0 hz1 hz2 _ _ _ rfl (HO.out.alloc _) _ rfl ?_ ?_ ?_ ?_))
            case refine_1 => rw [HXS.out]; unfold maxLen; omega
            case refine_2 => rw [HXS.out]; omega
            case refine_3 => simp; omega
            intro v4 w4 hown4 hgrow4 _
            rw [bc_str, ← bc_append, ← HC.out] at hown4
            have hle5 : (l ++ (s ++ pc e fr to)).length = (l ++ s).length + (e.s.extract 0 (to - e.f).toNat).size := by
              rw [← List.append_assoc]; exact (List.length_append ..).trans (by rw [HC.out, bytes_len])
            have hown5 : w4.ownsRow B 5 1 v4 (l ++ (s ++ pc e fr to)).length (bc (l ++ (s ++ pc e fr to))) := by
              have hn5 := own_bytes hown4
              rw [hn5, List.append_assoc] at hown4
              exact hown4
            have hb0 : w4.heap[wr.heap.size]? = some (.cells #[.int .i64 e.f, .int .i64 e.t, .string e.s] 103 (0, 0)) := (hgrow4.block _ (by simp) (fun h => by have := (hlt1.out _ h.symm).2; omega)).trans (heap_alloc_new wr _)
            have d1 : w4.cell? ⟨wr.heap.size, 1, none⟩ = some (.int .i64 e.t) := by simp [World.cell?, hb0]
            have hbel4 : Below B w w4 := (below_drewN (hbel.alloc hBr _) _).grown hgrow4 (by simp; omega) (fun k h => (hlt1.out k h).1)
            have hkb4 : KB w w4 := KB.own (b := (wr.alloc _).drewN nq) (HKB.out.alloc _) (HO.out.alloc _) hgrow4
            have HTL4 : Hid (EdsL B w4 (some ⟨pb, po + 3, none⟩) r) := HTL.out.below ((below_drewN ((Below.refl B wr).alloc hBr _) _).grown hgrow4 (by simp; omega) (fun k h => (hlt1.out k h).1))
            have HEE4 : Hid (EdsL B w4 (some ⟨pb, po, none⟩) (e :: r)) := HE.out.below ((below_drewN ((Below.refl B wr).alloc hBr _) _).grown hgrow4 (by simp; omega) (fun k h => (hlt1.out k h).1))
            have HO4 : Hid (w4.ownsRow B 5 1 v4 (l ++ (s ++ pc e fr to)).length (bc (l ++ (s ++ pc e fr to)))) := hown5
            have HKB4 : Hid (KB w w4) := hkb4
            have hsz4 : B ≤ w4.heap.size := Nat.le_trans hB (Nat.le_trans (by omega) hbel4.size)
            have hsl : (l ++ (s ++ pc e fr to)).length + tots r ≤ 70368744177664 := by
              rw [hle5, HXS.out]; omega
            clear hown4 hown5 hgrow4 hb0 hkb4 hle5
            go_wp2
            go_ret2
            refine ⟨v4, some ⟨pb, po, none⟩, cq, ?_, ?_, ?_, hbel4, HKB4.out, ?_⟩
            · rw [HT.out, HK.out]; rfl
            · rw [HT.out, HK.out]; exact hq2
            · rw [HT.out, HK.out]; exact HO4.out
            · rw [HT.out, HK.out]; exact HEE4.out
          · have HC : Hid (pc e fr to = []) := pc_no m1 m2 hD
            clear m1 m2
            have HC' : Hid (s ++ pc e fr to = s) := by unfold Hid; rw [HC.out, List.append_nil]
            have hsl : (l ++ s).length + tots r ≤ 70368744177664 := by omega
            go_wp2
            go_quiet (fail)
            go_wp2
            go_ret2
            refine ⟨u0, some ⟨pb, po, none⟩, cq, ?_, ?_, ?_, below_drewN (hbel.alloc hBr _) _, HKB.out.alloc _, ?_⟩
            · rw [HT.out, HK.out]; rfl
            · rw [HT.out, HK.out]; exact hq2
            · rw [HT.out, HK.out]; show World.ownsRow _ _ _ _ _ (l ++ (s ++ pc e fr to)).length (bc (l ++ (s ++ pc e fr to))); rw [HC'.out]; exact HO.out.alloc _
            · rw [HT.out, HK.out]; exact HE.out.below (below_drewN ((Below.refl B wr).alloc hBr _) _)
        · have m2 : min e.t to = e.t := Int.min_eq_left (by omega)
          have HK : Hid (tk (e :: r) fr to = (pc e fr to ++ (tk r fr to).1, (tk r fr to).2)) := tk_next r hC
          by_cases hD : e.f < e.t
          · have HC : Hid (pc e fr to = (e.s.extract 0 (e.t - e.f).toNat).data.toList) := (pc_yes m1 m2 hD).trans (by rw [Int.sub_self]; rfl)
            have HXS : Hid ((e.s.extract 0 (e.t - e.f).toNat).size = (e.t - e.f).toNat) := by unfold Hid; rw [ByteArray.size_extract]; omega
            have hxb : (e.t - e.f).toNat ≤ e.s.size := by omega
            clear m1 m2
            go_wp2
            go_quiet (fail)
            go_wp2_with (at_builtin; (refine Lib.wpList_append_own_string _ rfl (.tmp 30) (.tmp 41) 59 9 rfl B 5 i0 Tryd.underlying59 Tryd.underlying9 hi hz0 hz1 hz2 _ _ _ rfl (HO.out.alloc _) _ rfl ?_ ?_ ?_ ?_))
            case refine_1 => rw [HXS.out]; unfold maxLen; omega
            case refine_2 => rw [HXS.out]; omega
            case refine_3 => simp; omega
            intro v4 w4 hown4 hgrow4 _
            rw [bc_str, ← bc_append, ← HC.out] at hown4
            have hle5 : (l ++ (s ++ pc e fr to)).length = (l ++ s).length + (e.s.extract 0 (e.t - e.f).toNat).size := by
              rw [← List.append_assoc]; exact (List.length_append ..).trans (by rw [HC.out, bytes_len])
            have hown5 : w4.ownsRow B 5 1 v4 (l ++ (s ++ pc e fr to)).length (bc (l ++ (s ++ pc e fr to))) := by
              have hn5 := own_bytes hown4
              rw [hn5, List.append_assoc] at hown4
              exact hown4
            have hb0 : w4.heap[wr.heap.size]? = some (.cells #[.int .i64 e.f, .int .i64 e.t, .string e.s] 103 (0, 0)) := (hgrow4.block _ (by simp) (fun h => by have := (hlt1.out _ h.symm).2; omega)).trans (heap_alloc_new wr _)
            have d1 : w4.cell? ⟨wr.heap.size, 1, none⟩ = some (.int .i64 e.t) := by simp [World.cell?, hb0]
            have hbel4 : Below B w w4 := (below_drewN (hbel.alloc hBr _) _).grown hgrow4 (by simp; omega) (fun k h => (hlt1.out k h).1)
            have hkb4 : KB w w4 := KB.own (b := (wr.alloc _).drewN nq) (HKB.out.alloc _) (HO.out.alloc _) hgrow4
            have HTL4 : Hid (EdsL B w4 (some ⟨pb, po + 3, none⟩) r) := HTL.out.below ((below_drewN ((Below.refl B wr).alloc hBr _) _).grown hgrow4 (by simp; omega) (fun k h => (hlt1.out k h).1))
            have HEE4 : Hid (EdsL B w4 (some ⟨pb, po, none⟩) (e :: r)) := HE.out.below ((below_drewN ((Below.refl B wr).alloc hBr _) _).grown hgrow4 (by simp; omega) (fun k h => (hlt1.out k h).1))
            have HO4 : Hid (w4.ownsRow B 5 1 v4 (l ++ (s ++ pc e fr to)).length (bc (l ++ (s ++ pc e fr to)))) := hown5
            have HKB4 : Hid (KB w w4) := hkb4
            have hsz4 : B ≤ w4.heap.size := Nat.le_trans hB (Nat.le_trans (by omega) hbel4.size)
            have hsl : (l ++ (s ++ pc e fr to)).length + tots r ≤ 70368744177664 := by
              rw [hle5, HXS.out]; omega
            clear hown4 hown5 hgrow4 hb0 hkb4 hle5
            go_wp2
            all_goals
              go_roundg r.length
              case measure => omega
              case rel =>
                first
                | exact ⟨r, s ++ pc e fr to, some ⟨pb, po + 3, none⟩, cq - 1, rfl, by omega, by omega, rfl, HO4.out, HTL4.out, HPR.out, by rw [HT.out, HK.out, List.append_assoc], hbel4, HKB4.out, hsl, hsz4⟩
                | exact ⟨r, s ++ pc e fr to, some ⟨pb, po, none⟩, 0, rfl, by omega, by omega, rfl, HO4.out, .inl (List.eq_nil_of_length_eq_zero (by omega)), HPR.out, by rw [HT.out, HK.out, List.append_assoc], hbel4, HKB4.out, hsl, hsz4⟩
          · have HC : Hid (pc e fr to = []) := pc_no m1 m2 hD
            clear m1 m2
            have HC' : Hid (s ++ pc e fr to = s) := by unfold Hid; rw [HC.out, List.append_nil]
            have hsl : (l ++ s).length + tots r ≤ 70368744177664 := by omega
            go_wp2
            go_quiet (fail)
            go_wp2
            all_goals
              go_roundg r.length
              case measure => omega
              case rel =>
                first
                | exact ⟨r, s, some ⟨pb, po + 3, none⟩, cq - 1, rfl, by omega, by omega, rfl, HO.out.alloc _, HTL.out.below (below_drewN ((Below.refl B wr).alloc hBr _) _), HPR.out, by rw [HT.out, HK.out, ← List.append_assoc, HC'.out], below_drewN (hbel.alloc hBr _) _, HKB.out.alloc _, hsl, by simp; omega⟩
                | exact ⟨r, s, some ⟨pb, po, none⟩, 0, rfl, by omega, by omega, rfl, HO.out.alloc _, .inl (List.eq_nil_of_length_eq_zero (by omega)), HPR.out, by rw [HT.out, HK.out, ← List.append_assoc, HC'.out], below_drewN (hbel.alloc hBr _) _, HKB.out.alloc _, hsl, by simp; omega⟩
end Go.Proofs.YteolfolkolpehaaDoor
