import Derived.Test.YteolfolkolpehaaDoorCm
import Derived.Test.YteolfolkolpehaaDoorIv
namespace Go.Proofs.YteolfolkolpehaaDoor
open Go.ChangeShapes Go.WideShapes Go.ChangeAt Go.RowKit
set_option linter.unusedVariables false

set_option maxRecDepth 1000000 in
set_option maxHeartbeats 2000000 in
theorem layOut_any (b o cap : Nat) (xs : List Ed) (w : World) (h : Eds w b o xs) (hl : xs.length ≤ 65536) (hsb : ∀ e ∈ xs, 0 ≤ e.f ∧ e.f ≤ e.t ∧ e.t ≤ 4611686018427387904 ∧ e.s.size ≤ 1048576) (hg : ∀ k, -4611686018427387904 ≤ grw (xs.take k) ∧ grw (xs.take k) ≤ 1048576) :
    Calls Tryd.prog 41 #[.slice (some ⟨b, o, none⟩) xs.length cap] w fun e w' => ∃ v, e = .returned v ∧ w'.ownsRow w.heap.size 103 3 v (lay 0 xs).length (flat (lay 0 xs)) ∧ Below w.heap.size w w' := by
  obtain ⟨i0, hi, hz0, hz1, hz2⟩ := info_parts infoLd
  have HX : Hid (Eds w b o xs) := h
  have hbw : b < w.heap.size := h.1
  have HSB : Hid (∀ e ∈ xs, 0 ≤ e.f ∧ e.f ≤ e.t ∧ e.t ≤ 4611686018427387904 ∧ e.s.size ≤ 1048576) := hsb
  have HG : Hid (∀ k, -4611686018427387904 ≤ grw (xs.take k) ∧ grw (xs.take k) ≤ 1048576) := hg
  clear h hsb hg
  go_enter Tryd.func41, Tryd.ntmps41
  go_wp2
  go_loopg [3, 4, 10] xs.length (fun gk v sm i wr => ∃ (k : Nat) (p : List Ed), gk = xs.length - k ∧ k ≤ xs.length ∧ i = .int .i64 k ∧ sm = .int .i64 (grw (xs.take k)) ∧ Below w.heap.size w wr ∧ wr.ownsRow w.heap.size 103 3 v p.length (flat p) ∧ p.length = k ∧ p ++ lay (grw (xs.take k)) (xs.drop k) = lay 0 xs)
  case atStart => exact ⟨0, [], by omega, Nat.zero_le _, rfl, rfl, Below.refl _ _, World.ownsRow_nil _ _ _ _, rfl, by simp [grw]⟩
  case round =>
    obtain ⟨k, p, rfl, hk, rfl, rfl, hbel, hown, hpk, hp⟩ := hrel
    have hsz := hbel.size
    have hlt1 : Hid (∀ k, u3.ownBlock = some k → w.heap.size ≤ k ∧ k < wr.heap.size) := hown.lt
    have HO : Hid (wr.ownsRow w.heap.size 103 3 u3 p.length (flat p)) := hown
    have HP : Hid (p ++ lay (grw (xs.take k)) (xs.drop k) = lay 0 xs) := hp
    have hpk' : p.length ≤ k := by omega
    have HPK : Hid (p.length = k) := hpk
    clear hown hp hpk
    by_cases hlt : k < xs.length
    · obtain ⟨e, he⟩ : ∃ e, xs[k]? = some e := ⟨_, List.getElem?_eq_getElem hlt⟩
      obtain ⟨c0, c1, c2⟩ := HX.out.cells hbel he
      have hmem : e ∈ xs := List.mem_of_getElem? he
      obtain ⟨q1, q2, q3, q4⟩ := HSB.out e hmem
      obtain ⟨q5, q6⟩ := HG.out k
      have hgt := grw_take he
      have HS := lay_step he HP.out
      obtain ⟨m, hm⟩ : ∃ m, grw (xs.take k) = m := ⟨_, rfl⟩
      rw [hm] at q5 q6 HS hgt
      have HGT : Hid (grw (xs.take (k + 1)) = m + ((e.s.size : Int) - (e.t - e.f))) := hgt
      have HS2 : Hid ((p ++ [⟨e.f + m, e.f + m + e.s.size, e.s⟩]) ++ lay (m + ((e.s.size : Int) - (e.t - e.f))) (xs.drop (k + 1)) = lay 0 xs) := HS
      have hgk := HG.out (k + 1)
      rw [hgt] at hgk
      obtain ⟨q7, q8⟩ := hgk
      rw [hm]
      clear he hmem HS hgt hm
      have HNW : Hid (∀ j u, (flat [⟨e.f + m, e.f + m + e.s.size, e.s⟩])[j]? = some u → ((wr.alloc (.cells #[.int .i64 e.f, .int .i64 e.t, .string e.s] 45)).alloc (.cells #[.int .i64 (e.f + m), .int .i64 (e.f + m + e.s.size), .string e.s] 103)).cell? ((⟨wr.heap.size + 1, 0, none⟩ : Addr).add j) = some u) := by
        have := cells_new (wr.alloc (.cells #[.int .i64 e.f, .int .i64 e.t, .string e.s] 45)) (flat [⟨e.f + m, e.f + m + e.s.size, e.s⟩]) 103
        rw [World.size_alloc] at this
        exact this
      go_wp2_with (at_builtin; (refine wpList_append_own _ rfl (.tmp 18) (.tmp 28) 78 rfl w.heap.size 103 i0 (.agg #[.int .i64 0, .int .i64 0, .string ⟨#[]⟩]) 3 32 Tryd.underlying78 hi hz0 hz1 hz2 rfl (by decide) _ _ _ rfl ((HO.out.alloc _).alloc _) ⟨wr.heap.size + 1, 0, none⟩ 1 1 (flat [⟨e.f + m, e.f + m + e.s.size, e.s⟩]) rfl rfl HNW.out (flat_oneCell _) ?_ ?_ ?_ ?_))
      case refine_1 => unfold maxLen; omega
      case refine_2 => omega
      case refine_3 => simp; omega
      intro v4 w4 hown4 hgrow4 _
      rw [← flat_append] at hown4
      have hbx : Box w4 wr.heap.size e.f e.t e.s := ((Box.new wr e.f e.t e.s).alloc _).grown hgrow4 (fun h => by have := (hlt1.out _ h).2; omega)
      have hbel4 : Below w.heap.size w w4 := ((hbel.alloc hsz _).alloc (by simp; omega) _).grown hgrow4 (by simp; omega) (fun k h => (hlt1.out k h).1)
      have HO4 : Hid (w4.ownsRow w.heap.size 103 3 v4 (p ++ ([⟨e.f + m, e.f + m + e.s.size, e.s⟩] : List Ed)).length (flat (p ++ [⟨e.f + m, e.f + m + e.s.size, e.s⟩]))) := by
        unfold Hid; rw [List.length_append]; exact hown4
      have HB4 : Hid (Below w.heap.size w w4) := hbel4
      have hsz4 := hbel4.size
      have a0 := hbx.c0
      have a1 := hbx.c1
      have a2 := hbx.c2
      clear hown4 hgrow4 hbel4 hbx c0 c1 c2 HNW HO
      go_wp2
      go_roundg (xs.length - (k + 1))
      case measure => omega
      case rel => exact ⟨k + 1, _, rfl, by omega, by go_num, by rw [HGT.out], by have := HB4.out; go_grown, by (repeat (first | exact HO4.out | refine World.ownsRow.alloc ?_ _)), by rw [List.length_append, HPK.out]; rfl, by rw [HGT.out]; exact HS2.out⟩
    · have HE : Hid (p = lay 0 xs) := by
        unfold Hid; rw [← HP.out, List.drop_eq_nil_of_le (by omega), lay, List.append_nil]
      go_wp2
      go_ret
      exact ⟨_, rfl, by rw [← HE.out]; exact HO.out, hbel⟩

theorem ret3 {a b c a' b' c' : Int} (h1 : a = a') (h2 : b = b') (h3 : c = c') : Ending.returned (.tuple #[.int .i64 a, .int .i64 b, .int .i64 c]) = Ending.returned (.tuple #[.int .i64 a', .int .i64 b', .int .i64 c']) := by
  subst h1; subst h2; subst h3; rfl

set_option maxHeartbeats 800000 in
theorem reach_any (a1 a2 : Option Addr) (c1 c2 : Nat) (put b : List Ed) (lo : Int) (w : World) (h1 : EdsA w a1 put) (h2 : EdsA w a2 b) (hl1 : put.length ≤ 65536) (hl2 : b.length ≤ 65536) (hb1 : ∀ e ∈ put, -9223372036854775808 ≤ e.t ∧ e.t ≤ 9223372036854775807) :
    Calls Tryd.prog 66 #[.slice a1 put.length c1, .slice a2 b.length c2, .int .i64 lo] w fun e w' => e = .returned (.tuple #[.int .i64 ((rch put b (put.length + b.length) 0 0 lo).1 : Nat), .int .i64 ((rch put b (put.length + b.length) 0 0 lo).2.1 : Nat), .int .i64 (rch put b (put.length + b.length) 0 0 lo).2.2]) ∧ Below w.heap.size w w' := by
  have H1 : Hid (EdsA w a1 put) := h1
  have H2 : Hid (EdsA w a2 b) := h2
  clear h1 h2
  go_enter Tryd.func66, Tryd.ntmps66
  go_wp2
  go_loopg [6, 7, 8] (put.length + b.length) (fun gk si sj sh wr => ∃ (i j : Nat) (hi : Int), gk = (put.length - i) + (b.length - j) ∧ i ≤ put.length ∧ j ≤ b.length ∧ si = .int .i64 i ∧ sj = .int .i64 j ∧ sh = .int .i64 hi ∧ rch put b (put.length + b.length) 0 0 lo = rch put b ((put.length - i) + (b.length - j)) i j hi ∧ wr = w)
  case atStart => exact ⟨0, 0, lo, by omega, Nat.zero_le _, Nat.zero_le _, rfl, rfl, rfl, by simp, rfl⟩
  case round =>
    obtain ⟨i, j, hi, rfl, hi1, hj1, rfl, rfl, rfl, hr, rfl⟩ := hrel
    have HR : Hid (rch put b (put.length + b.length) 0 0 lo = rch put b ((put.length - i) + (b.length - j)) i j hi) := hr
    clear hr
    by_cases hp : ∃ e, put[i]? = some e ∧ e.f ≤ hi
    · obtain ⟨e, he, hle⟩ := hp
      have hil := (List.getElem?_eq_some_iff.1 he).1
      rcases H1.out with h0 | ⟨pb, po, rfl, hE⟩
      · rw [h0] at hil; simp at hil
      obtain ⟨x0, x1, x2⟩ := hE.2 i e he
      have hil' : (i : Int) < (put.length : Int) := by omega
      have HS : Hid (rch put b (put.length + b.length) 0 0 lo = rch put b ((put.length - (i + 1)) + (b.length - j)) (i + 1) j (max hi e.t)) := by
        unfold Hid; rw [HR.out, show (put.length - i) + (b.length - j) = ((put.length - (i + 1)) + (b.length - j)) + 1 by omega, rch_put he hle]
      clear he hE
      rcases Int.lt_trichotomy hi e.t with hmx | hmx | hmx
      · rw [Int.max_eq_right (Int.le_of_lt hmx)] at HS
        go_wp2
        all_goals
          go_roundg (put.length - (i + 1) + (b.length - j))
          case measure => omega
          case rel => exact ⟨i + 1, j, _, rfl, by omega, hj1, by go_num, rfl, rfl, HS.out, rfl⟩
      · subst hmx
        rw [Int.max_self] at HS
        go_wp2
        all_goals
          go_roundg (put.length - (i + 1) + (b.length - j))
          case measure => omega
          case rel => exact ⟨i + 1, j, _, rfl, by omega, hj1, by go_num, rfl, rfl, HS.out, rfl⟩
      · rw [Int.max_eq_left (by omega)] at HS
        go_wp2
        all_goals
          go_roundg (put.length - (i + 1) + (b.length - j))
          case measure => omega
          case rel => exact ⟨i + 1, j, _, rfl, by omega, hj1, by go_num, rfl, rfl, HS.out, rfl⟩
    · have hpn : ∀ p, put[i]? = some p → hi < p.f := fun p hp' => by
        rcases Int.lt_or_le hi p.f with h | h
        · exact h
        · exact absurd ⟨p, hp', h⟩ hp
      have HPN : Hid (∀ p, put[i]? = some p → hi < p.f) := hpn
      have hpc : (put.length : Int) ≤ (i : Int) ∨ ((i : Int) < (put.length : Int) ∧ ∃ pb po f, a1 = some ⟨pb, po, none⟩ ∧ hi < f ∧ wr.cell? ⟨pb, po + i * 3, none⟩ = some (.int .i64 f)) := by
        by_cases hil : i < put.length
        · refine .inr ⟨by omega, ?_⟩
          rcases H1.out with h0 | ⟨pb, po, ha, hE⟩
          · rw [h0] at hil; simp at hil
          · exact ⟨pb, po, _, ha, hpn _ (List.getElem?_eq_getElem hil), (hE.2 i _ (List.getElem?_eq_getElem hil)).1⟩
        · exact .inl (by omega)
      clear hp hpn
      by_cases hb : ∃ e, b[j]? = some e ∧ e.f ≤ hi
      · obtain ⟨e, he, hle⟩ := hb
        have hjl := (List.getElem?_eq_some_iff.1 he).1
        rcases H2.out with h0 | ⟨bb, bo, rfl, hE⟩
        · rw [h0] at hjl; simp at hjl
        obtain ⟨x0, x1, x2⟩ := hE.2 j e he
        have hjl' : (j : Int) < (b.length : Int) := by omega
        have HS : Hid (rch put b (put.length + b.length) 0 0 lo = rch put b ((put.length - i) + (b.length - (j + 1))) i (j + 1) (max hi e.t)) := by
          unfold Hid; rw [HR.out, show (put.length - i) + (b.length - j) = ((put.length - i) + (b.length - (j + 1))) + 1 by omega, rch_b HPN.out he hle]
        clear he hE
        rcases Int.lt_trichotomy hi e.t with hmx | hmx | hmx
        · rw [Int.max_eq_right (Int.le_of_lt hmx)] at HS
          rcases hpc with g1 | ⟨g1, pb, po, f, rfl, g2, g3⟩
          all_goals
            go_wp2
            all_goals
              go_roundg (put.length - i + (b.length - (j + 1)))
              case measure => omega
              case rel => exact ⟨i, j + 1, _, rfl, hi1, by omega, rfl, by go_num, rfl, HS.out, rfl⟩
        · subst hmx
          rw [Int.max_self] at HS
          rcases hpc with g1 | ⟨g1, pb, po, f, rfl, g2, g3⟩
          all_goals
            go_wp2
            all_goals
              go_roundg (put.length - i + (b.length - (j + 1)))
              case measure => omega
              case rel => exact ⟨i, j + 1, _, rfl, hi1, by omega, rfl, by go_num, rfl, HS.out, rfl⟩
        · rw [Int.max_eq_left (by omega)] at HS
          rcases hpc with g1 | ⟨g1, pb, po, f, rfl, g2, g3⟩
          all_goals
            go_wp2
            all_goals
              go_roundg (put.length - i + (b.length - (j + 1)))
              case measure => omega
              case rel => exact ⟨i, j + 1, _, rfl, hi1, by omega, rfl, by go_num, rfl, HS.out, rfl⟩
      · have hbn : ∀ p, b[j]? = some p → hi < p.f := fun p hp' => by
          rcases Int.lt_or_le hi p.f with h | h
          · exact h
          · exact absurd ⟨p, hp', h⟩ hb
        have hbc : (b.length : Int) ≤ (j : Int) ∨ ((j : Int) < (b.length : Int) ∧ ∃ pb po f, a2 = some ⟨pb, po, none⟩ ∧ hi < f ∧ wr.cell? ⟨pb, po + j * 3, none⟩ = some (.int .i64 f)) := by
          by_cases hjl : j < b.length
          · refine .inr ⟨by omega, ?_⟩
            rcases H2.out with h0 | ⟨pb, po, ha, hE⟩
            · rw [h0] at hjl; simp at hjl
            · exact ⟨pb, po, _, ha, hbn _ (List.getElem?_eq_getElem hjl), (hE.2 j _ (List.getElem?_eq_getElem hjl)).1⟩
          · exact .inl (by omega)
        have HS : Hid (rch put b (put.length + b.length) 0 0 lo = (i, j, hi)) := by
          unfold Hid; rw [HR.out, rch_stop HPN.out hbn]
        clear hb hbn
        rcases hpc with g1 | ⟨g1, pb, po, f, rfl, g2, g3⟩
        all_goals
          rcases hbc with k1 | ⟨k1, qb, qo, q, rfl, k2, k3⟩
          all_goals
            go_wp2
            go_ret3
            exact ⟨ret3 (by rw [HS.out]) (by rw [HS.out]) (by rw [HS.out]), Below.refl _ _⟩
end Go.Proofs.YteolfolkolpehaaDoor
