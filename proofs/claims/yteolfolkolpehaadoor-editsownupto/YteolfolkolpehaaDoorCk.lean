import Derived.Test.YteolfolkolpehaaDoorAp1
import Derived.Test.YteolfolkolpehaaDoorAp
import Derived.Test.YteolfolkolpehaaDoorNm
import Derived.Lib.OthersKept
namespace Go.Proofs.YteolfolkolpehaaDoor
open Go.ChangeShapes Go.WideShapes Go.ChangeAt Go.RowKit
set_option linter.unusedVariables false

theorem sd_drop {tx : List UInt8} {rs : List Rn} {k : Nat} {r : Rn} (he : rs[k]? = some r) : sd tx (rs.drop k) = (if r.old then (tx.drop r.f.toNat).take (r.t.toNat - r.f.toNat) else r.s.data.toList) ++ sd tx (rs.drop (k + 1)) := by
  obtain ⟨hk, rfl⟩ := List.getElem?_eq_some_iff.1 he
  rw [List.drop_eq_getElem_cons hk, sd]

theorem ret_str {a b : ByteArray} (h : a = b) : Ending.returned (.string a) = .returned (.string b) := by rw [h]

set_option maxHeartbeats 1000000 in
theorem said_any (tx : ByteArray) (b o cap : Nat) (rs : List Rn) (w : World) (hx : tx.size ≤ 140737488351232) (h : Rns w b o rs) (hl : rs.length ≤ 140737488351232) (hin : ∀ r ∈ rs, RnIn tx.size r) (hB : (sd tx.data.toList rs).length ≤ 140737488351232) :
    Calls Tryd.prog 36 #[.string tx, .slice (some ⟨b, o, none⟩) rs.length cap] w fun e w' => e = .returned (.string ⟨(sd tx.data.toList rs).toArray⟩) ∧ Below w.heap.size w w' := by
  have HX : Hid (Rns w b o rs) := h
  have HI : Hid (∀ r ∈ rs, RnIn tx.size r) := hin
  have hbw : b < w.heap.size := h.1
  obtain ⟨N, hN⟩ : ∃ N, N = (sd tx.data.toList rs).length := ⟨_, rfl⟩
  have HN : Hid (N = (sd tx.data.toList rs).length) := hN
  rw [← hN] at hB
  clear h hin hN
  go_enter Tryd.func36, Tryd.ntmps36
  go_wp2
  go_loopw [5, 6] (fun ss i wr => ∃ (k : Nat) (p : ByteArray), k ≤ rs.length ∧ i = .int .i64 k ∧ ss = .string p ∧ Below w.heap.size w wr ∧ p.data.toList ++ sd tx.data.toList (rs.drop k) = sd tx.data.toList rs) (fun _ i _ => rs.length - (intOf i).toNat)
  case atStart => exact ⟨0, ⟨#[]⟩, Nat.zero_le _, rfl, rfl, Below.refl _ _, by simp⟩
  case round =>
    obtain ⟨k, p, hk, rfl, rfl, hbel, hp⟩ := hrel
    have HP : Hid (p.data.toList ++ sd tx.data.toList (rs.drop k) = sd tx.data.toList rs) := hp
    have hsz := hbel.size
    clear hp
    by_cases hlt : k < rs.length
    · obtain ⟨r, he⟩ : ∃ r, rs[k]? = some r := ⟨_, List.getElem?_eq_getElem hlt⟩
      obtain ⟨c0, c1, c2, c3⟩ := (HX.out.below hbel hbw).2 k r he
      have hmem : r ∈ rs := List.mem_of_getElem? he
      obtain ⟨q1, q2, q3⟩ := HI.out r hmem
      have hlt' : (k : Int) < (rs.length : Int) := by omega
      cases hold : r.old with
      | true =>
        rw [hold] at c0
        obtain ⟨f, hf⟩ := Int.eq_ofNat_of_zero_le q1
        obtain ⟨t, ht⟩ := Int.eq_ofNat_of_zero_le (Int.le_trans q1 q2)
        rw [hf] at c1
        rw [ht] at c2
        have HS : Hid ((p ++ tx.extract f t).data.toList ++ sd tx.data.toList (rs.drop (k + 1)) = sd tx.data.toList rs) := by
          unfold Hid
          rw [← HP.out, sd_drop he, hold, hf, ht]
          simp only [if_true, Int.toNat_natCast, ByteArray.data_append, Array.toList_append, Lib.extract_data, List.append_assoc]
        have hft : (f : Int) ≤ (t : Int) := by omega
        have htx : (t : Int) ≤ (tx.size : Int) := by omega
        have hsum : p.size + (tx.extract f t).size ≤ N := by
          have := congrArg List.length HS.out
          rw [← HN.out, List.length_append, bytes_len, ByteArray.size_append] at this
          omega
        clear he hmem hold hf ht q1 q2 q3
        go_wp2
        go_quiet (fail)
        go_wp2
        go_roundw
        case rel => exact ⟨k + 1, p ++ tx.extract f t, by omega, by go_num, rfl, below_drewN hbel _, HS.out⟩
        case measure => simp [intOf]; omega
      | false =>
        rw [hold] at c0
        have HS : Hid ((p ++ r.s).data.toList ++ sd tx.data.toList (rs.drop (k + 1)) = sd tx.data.toList rs) := by
          unfold Hid
          rw [← HP.out, sd_drop he, hold]
          simp only [Bool.false_eq_true, if_false, ByteArray.data_append, Array.toList_append, List.append_assoc]
        have hsum : p.size + r.s.size ≤ N := by
          have := congrArg List.length HS.out
          rw [← HN.out, List.length_append, bytes_len, ByteArray.size_append] at this
          omega
        clear he hmem hold q1 q2 q3
        go_wp2
        go_roundw
        case rel => exact ⟨k + 1, p ++ r.s, by omega, by go_num, rfl, hbel, HS.out⟩
        case measure => simp [intOf]; omega
    · have HE : Hid (p = ⟨(sd tx.data.toList rs).toArray⟩) := by
        unfold Hid
        apply bytes_ext
        rw [← HP.out, List.drop_eq_nil_of_le (by omega), sd]
        simp
      go_wp2
      go_ret
      exact ⟨ret_str HE.out, by (repeat (with_reducible refine below_drewN ?_ _)); go_grown⟩
end Go.Proofs.YteolfolkolpehaaDoor

namespace Go.Proofs.YteolfolkolpehaaDoor
open Go.ChangeShapes Go.WideShapes Go.ChangeAt Go.RowKit
set_option linter.unusedVariables false

theorem infoLd : (Tryd.prog.info? 103).map (fun i => (i.zero, i.size, i.bytes)) = some (some (.agg #[.int .i64 0, .int .i64 0, .string ⟨#[]⟩]), 3, 32) := by kernel_rfl

/-- what the first list put into the text between -/
def lay : Int → List Ed → List Ed
  | _, [] => []
  | m, e :: r => ⟨e.f + m, e.f + m + e.s.size, e.s⟩ :: lay (m + ((e.s.size : Int) - (e.t - e.f))) r

theorem lay_len (m : Int) (xs : List Ed) : (lay m xs).length = xs.length := by
  induction xs generalizing m with
  | nil => rfl
  | cons e r ih => rw [lay, List.length_cons, ih, List.length_cons]

theorem lay_step {xs p : List Ed} {k : Nat} {m : Int} {e : Ed} (he : xs[k]? = some e) (hp : p ++ lay m (xs.drop k) = lay 0 xs) :
    (p ++ [⟨e.f + m, e.f + m + e.s.size, e.s⟩]) ++ lay (m + ((e.s.size : Int) - (e.t - e.f))) (xs.drop (k + 1)) = lay 0 xs := by
  rw [← hp, drop_get he, lay]
  simp

def low : List Ed → List Ed → Int
  | p :: _, e :: _ => min p.f e.f
  | p :: _, [] => p.f
  | [], e :: _ => e.f
  | [], [] => 0

/-- how far the group reaches -/
def rch (put b : List Ed) : Nat → Nat → Nat → Int → Nat × Nat × Int
  | 0, i, j, h => (i, j, h)
  | n + 1, i, j, h =>
    if i < put.length ∧ (put.getD i ⟨0, 0, ⟨#[]⟩⟩).f ≤ h then rch put b n (i + 1) j (max h (put.getD i ⟨0, 0, ⟨#[]⟩⟩).t)
    else if j < b.length ∧ (b.getD j ⟨0, 0, ⟨#[]⟩⟩).f ≤ h then rch put b n i (j + 1) (max h (b.getD j ⟨0, 0, ⟨#[]⟩⟩).t)
    else (i, j, h)

theorem getD_of {xs : List Ed} {i : Nat} {e : Ed} (h : xs[i]? = some e) : xs.getD i ⟨0, 0, ⟨#[]⟩⟩ = e := by simp [List.getD, h]

theorem rch_put {put b : List Ed} {n i j : Nat} {h : Int} {e : Ed} (he : put[i]? = some e) (hle : e.f ≤ h) : rch put b (n + 1) i j h = rch put b n (i + 1) j (max h e.t) := by
  rw [rch, getD_of he, if_pos ⟨(List.getElem?_eq_some_iff.1 he).1, hle⟩]
theorem rch_b {put b : List Ed} {n i j : Nat} {h : Int} {e : Ed} (hp : ∀ p, put[i]? = some p → h < p.f) (he : b[j]? = some e) (hle : e.f ≤ h) : rch put b (n + 1) i j h = rch put b n i (j + 1) (max h e.t) := by
  rw [rch, if_neg, getD_of he, if_pos ⟨(List.getElem?_eq_some_iff.1 he).1, hle⟩]
  rintro ⟨h1, h2⟩
  have := hp _ (List.getElem?_eq_getElem h1)
  rw [getD_of (List.getElem?_eq_getElem h1)] at h2
  omega
theorem rch_stop {put b : List Ed} {n i j : Nat} {h : Int} (hp : ∀ p, put[i]? = some p → h < p.f) (hb : ∀ e, b[j]? = some e → h < e.f) : rch put b n i j h = (i, j, h) := by
  cases n with
  | zero => rfl
  | succ n =>
    rw [rch, if_neg, if_neg]
    · rintro ⟨h1, h2⟩
      have := hb _ (List.getElem?_eq_getElem h1)
      rw [getD_of (List.getElem?_eq_getElem h1)] at h2
      omega
    · rintro ⟨h1, h2⟩
      have := hp _ (List.getElem?_eq_getElem h1)
      rw [getD_of (List.getElem?_eq_getElem h1)] at h2
      omega
end Go.Proofs.YteolfolkolpehaaDoor

namespace Go.Proofs.YteolfolkolpehaaDoor
open Go.ChangeShapes Go.WideShapes Go.ChangeAt Go.RowKit
set_option linter.unusedVariables false

set_option maxRecDepth 1000000 in
set_option maxHeartbeats 2000000 in
theorem layOut_any (b o cap : Nat) (xs : List Ed) (w : World) (h : Eds w b o xs) (hl : xs.length ≤ 65536) (hsb : ∀ e ∈ xs, 0 ≤ e.f ∧ e.f ≤ e.t ∧ e.t ≤ 4611686018427387904 ∧ e.s.size ≤ 1048576) (hg : ∀ k, -4611686018427387904 ≤ grw (xs.take k) ∧ grw (xs.take k) ≤ 1048576) :
    Calls Tryd.prog 41 #[.slice (some ⟨b, o, none⟩) xs.length cap] w fun e w' => ∃ v, e = .returned v ∧ w'.ownsRow w.heap.size 103 3 v (lay 0 xs).length (flat (lay 0 xs)) ∧ Below w.heap.size w w' := by
  obtain ⟨i0, hi, hz0, hz1, hz2⟩ := info_parts infoLd
  have HX : Hid (Eds w b o xs) := h
  have hbw : b < w.heap.size := h.1
  have HSB : Hid (∀ e ∈ xs, 0 ≤ e.f ∧ e.f ≤ e.t ∧ e.t ≤ 4611686018427387904 ∧ e.s.size ≤ 1048576) := hsb
  have HG : Hid (∀ k, -4611686018427387904 ≤ grw (xs.take k) ∧ grw (xs.take k) ≤ 1048576) := hg
  clear h hsb hg
  go_enter Tryd.func41, Tryd.ntmps41
  go_wp2
  go_loopg [3, 4, 10] xs.length (fun gk v sm i wr => ∃ (k : Nat) (p : List Ed), gk = xs.length - k ∧ k ≤ xs.length ∧ i = .int .i64 k ∧ sm = .int .i64 (grw (xs.take k)) ∧ Below w.heap.size w wr ∧ wr.ownsRow w.heap.size 103 3 v p.length (flat p) ∧ p.length = k ∧ p ++ lay (grw (xs.take k)) (xs.drop k) = lay 0 xs)
  case atStart => exact ⟨0, [], by omega, Nat.zero_le _, rfl, rfl, Below.refl _ _, World.ownsRow_nil _ _ _ _, rfl, by simp [grw]⟩
  case round =>
    obtain ⟨k, p, rfl, hk, rfl, rfl, hbel, hown, hpk, hp⟩ := hrel
    have hsz := hbel.size
    have hlt1 : Hid (∀ k, u3.ownBlock = some k → w.heap.size ≤ k ∧ k < wr.heap.size) := hown.lt
    have HO : Hid (wr.ownsRow w.heap.size 103 3 u3 p.length (flat p)) := hown
    have HP : Hid (p ++ lay (grw (xs.take k)) (xs.drop k) = lay 0 xs) := hp
    have hpk' : p.length ≤ k := by omega
    have HPK : Hid (p.length = k) := hpk
    clear hown hp hpk
    by_cases hlt : k < xs.length
    · obtain ⟨e, he⟩ : ∃ e, xs[k]? = some e := ⟨_, List.getElem?_eq_getElem hlt⟩
      obtain ⟨c0, c1, c2⟩ := HX.out.cells hbel he
      have hmem : e ∈ xs := List.mem_of_getElem? he
      obtain ⟨q1, q2, q3, q4⟩ := HSB.out e hmem
      obtain ⟨q5, q6⟩ := HG.out k
      have hgt := grw_take he
      have HS := lay_step he HP.out
      obtain ⟨m, hm⟩ : ∃ m, grw (xs.take k) = m := ⟨_, rfl⟩
      rw [hm] at q5 q6 HS hgt
      have HGT : Hid (grw (xs.take (k + 1)) = m + ((e.s.size : Int) - (e.t - e.f))) := hgt
      have HS2 : Hid ((p ++ [⟨e.f + m, e.f + m + e.s.size, e.s⟩]) ++ lay (m + ((e.s.size : Int) - (e.t - e.f))) (xs.drop (k + 1)) = lay 0 xs) := HS
      have hgk := HG.out (k + 1)
      rw [hgt] at hgk
      obtain ⟨q7, q8⟩ := hgk
      rw [hm]
      clear he hmem HS hgt hm
      have HNW : Hid (∀ j u, (flat [⟨e.f + m, e.f + m + e.s.size, e.s⟩])[j]? = some u → ((wr.alloc (.cells #[.int .i64 e.f, .int .i64 e.t, .string e.s] 45)).alloc (.cells #[.int .i64 (e.f + m), .int .i64 (e.f + m + e.s.size), .string e.s] 103)).cell? ((⟨wr.heap.size + 1, 0, none⟩ : Addr).add j) = some u) := by
        have := cells_new (wr.alloc (.cells #[.int .i64 e.f, .int .i64 e.t, .string e.s] 45)) (flat [⟨e.f + m, e.f + m + e.s.size, e.s⟩]) 103
        rw [World.size_alloc] at this
        exact this
      go_wp2_with (at_builtin; (refine wpList_append_own _ rfl (.tmp 18) (.tmp 28) 78 rfl w.heap.size 103 i0 (.agg #[.int .i64 0, .int .i64 0, .string ⟨#[]⟩]) 3 32 Tryd.underlying78 hi hz0 hz1 hz2 rfl (by decide) _ _ _ rfl ((HO.out.alloc _).alloc _) ⟨wr.heap.size + 1, 0, none⟩ 1 1 (flat [⟨e.f + m, e.f + m + e.s.size, e.s⟩]) rfl rfl HNW.out (flat_oneCell _) ?_ ?_ ?_ ?_))
      case refine_1 => unfold maxLen; omega
      case refine_2 => omega
      case refine_3 => simp; omega
      intro v4 w4 hown4 hgrow4 _
      rw [← flat_append] at hown4
      have hbx : Box w4 wr.heap.size e.f e.t e.s := ((Box.new wr e.f e.t e.s).alloc _).grown hgrow4 (fun h => by have := (hlt1.out _ h).2; omega)
      have hbel4 : Below w.heap.size w w4 := ((hbel.alloc hsz _).alloc (by simp; omega) _).grown hgrow4 (by simp; omega) (fun k h => (hlt1.out k h).1)
      have HO4 : Hid (w4.ownsRow w.heap.size 103 3 v4 (p ++ ([⟨e.f + m, e.f + m + e.s.size, e.s⟩] : List Ed)).length (flat (p ++ [⟨e.f + m, e.f + m + e.s.size, e.s⟩]))) := by
        unfold Hid; rw [List.length_append]; exact hown4
      have HB4 : Hid (Below w.heap.size w w4) := hbel4
      have hsz4 := hbel4.size
      have a0 := hbx.c0
      have a1 := hbx.c1
      have a2 := hbx.c2
      clear hown4 hgrow4 hbel4 hbx c0 c1 c2 HNW HO
      go_wp2
      go_roundg (xs.length - (k + 1))
      case measure => omega
      case rel => exact ⟨k + 1, _, rfl, by omega, by go_num, by rw [HGT.out], by have := HB4.out; go_grown, by (repeat (first | exact HO4.out | refine World.ownsRow.alloc ?_ _)), by rw [List.length_append, HPK.out]; rfl, by rw [HGT.out]; exact HS2.out⟩
    · have HE : Hid (p = lay 0 xs) := by
        unfold Hid; rw [← HP.out, List.drop_eq_nil_of_le (by omega), lay, List.append_nil]
      go_wp2
      go_ret
      exact ⟨_, rfl, by rw [← HE.out]; exact HO.out, hbel⟩

theorem ret3 {a b c a' b' c' : Int} (h1 : a = a') (h2 : b = b') (h3 : c = c') : Ending.returned (.tuple #[.int .i64 a, .int .i64 b, .int .i64 c]) = Ending.returned (.tuple #[.int .i64 a', .int .i64 b', .int .i64 c']) := by
  subst h1; subst h2; subst h3; rfl

set_option maxHeartbeats 800000 in
theorem reach_any (a1 a2 : Option Addr) (c1 c2 : Nat) (put b : List Ed) (lo : Int) (w : World) (h1 : EdsA w a1 put) (h2 : EdsA w a2 b) (hl1 : put.length ≤ 65536) (hl2 : b.length ≤ 65536) (hb1 : ∀ e ∈ put, -9223372036854775808 ≤ e.t ∧ e.t ≤ 9223372036854775807) :
    Calls Tryd.prog 66 #[.slice a1 put.length c1, .slice a2 b.length c2, .int .i64 lo] w fun e w' => e = .returned (.tuple #[.int .i64 ((rch put b (put.length + b.length) 0 0 lo).1 : Nat), .int .i64 ((rch put b (put.length + b.length) 0 0 lo).2.1 : Nat), .int .i64 (rch put b (put.length + b.length) 0 0 lo).2.2]) ∧ Below w.heap.size w w' := by
  have H1 : Hid (EdsA w a1 put) := h1
  have H2 : Hid (EdsA w a2 b) := h2
  clear h1 h2
  go_enter Tryd.func66, Tryd.ntmps66
  go_wp2
  go_loopg [6, 7, 8] (put.length + b.length) (fun gk si sj sh wr => ∃ (i j : Nat) (hi : Int), gk = (put.length - i) + (b.length - j) ∧ i ≤ put.length ∧ j ≤ b.length ∧ si = .int .i64 i ∧ sj = .int .i64 j ∧ sh = .int .i64 hi ∧ rch put b (put.length + b.length) 0 0 lo = rch put b ((put.length - i) + (b.length - j)) i j hi ∧ wr = w)
  case atStart => exact ⟨0, 0, lo, by omega, Nat.zero_le _, Nat.zero_le _, rfl, rfl, rfl, by simp, rfl⟩
  case round =>
    obtain ⟨i, j, hi, rfl, hi1, hj1, rfl, rfl, rfl, hr, rfl⟩ := hrel
    have HR : Hid (rch put b (put.length + b.length) 0 0 lo = rch put b ((put.length - i) + (b.length - j)) i j hi) := hr
    clear hr
    by_cases hp : ∃ e, put[i]? = some e ∧ e.f ≤ hi
    · obtain ⟨e, he, hle⟩ := hp
      have hil := (List.getElem?_eq_some_iff.1 he).1
      rcases H1.out with h0 | ⟨pb, po, rfl, hE⟩
      · rw [h0] at hil; simp at hil
      obtain ⟨x0, x1, x2⟩ := hE.2 i e he
      have hil' : (i : Int) < (put.length : Int) := by omega
      have HS : Hid (rch put b (put.length + b.length) 0 0 lo = rch put b ((put.length - (i + 1)) + (b.length - j)) (i + 1) j (max hi e.t)) := by
        unfold Hid; rw [HR.out, show (put.length - i) + (b.length - j) = ((put.length - (i + 1)) + (b.length - j)) + 1 by omega, rch_put he hle]
      clear he hE
      rcases Int.lt_trichotomy hi e.t with hmx | hmx | hmx
      · rw [Int.max_eq_right (Int.le_of_lt hmx)] at HS
        go_wp2
        all_goals
          go_roundg (put.length - (i + 1) + (b.length - j))
          case measure => omega
          case rel => exact ⟨i + 1, j, _, rfl, by omega, hj1, by go_num, rfl, rfl, HS.out, rfl⟩
      · subst hmx
        rw [Int.max_self] at HS
        go_wp2
        all_goals
          go_roundg (put.length - (i + 1) + (b.length - j))
          case measure => omega
          case rel => exact ⟨i + 1, j, _, rfl, by omega, hj1, by go_num, rfl, rfl, HS.out, rfl⟩
      · rw [Int.max_eq_left (by omega)] at HS
        go_wp2
        all_goals
          go_roundg (put.length - (i + 1) + (b.length - j))
          case measure => omega
          case rel => exact ⟨i + 1, j, _, rfl, by omega, hj1, by go_num, rfl, rfl, HS.out, rfl⟩
    · have hpn : ∀ p, put[i]? = some p → hi < p.f := fun p hp' => by
        rcases Int.lt_or_le hi p.f with h | h
        · exact h
        · exact absurd ⟨p, hp', h⟩ hp
      have HPN : Hid (∀ p, put[i]? = some p → hi < p.f) := hpn
      have hpc : (put.length : Int) ≤ (i : Int) ∨ ((i : Int) < (put.length : Int) ∧ ∃ pb po f, a1 = some ⟨pb, po, none⟩ ∧ hi < f ∧ wr.cell? ⟨pb, po + i * 3, none⟩ = some (.int .i64 f)) := by
        by_cases hil : i < put.length
        · refine .inr ⟨by omega, ?_⟩
          rcases H1.out with h0 | ⟨pb, po, ha, hE⟩
          · rw [h0] at hil; simp at hil
          · exact ⟨pb, po, _, ha, hpn _ (List.getElem?_eq_getElem hil), (hE.2 i _ (List.getElem?_eq_getElem hil)).1⟩
        · exact .inl (by omega)
      clear hp hpn
      by_cases hb : ∃ e, b[j]? = some e ∧ e.f ≤ hi
      · obtain ⟨e, he, hle⟩ := hb
        have hjl := (List.getElem?_eq_some_iff.1 he).1
        rcases H2.out with h0 | ⟨bb, bo, rfl, hE⟩
        · rw [h0] at hjl; simp at hjl
        obtain ⟨x0, x1, x2⟩ := hE.2 j e he
        have hjl' : (j : Int) < (b.length : Int) := by omega
        have HS : Hid (rch put b (put.length + b.length) 0 0 lo = rch put b ((put.length - i) + (b.length - (j + 1))) i (j + 1) (max hi e.t)) := by
          unfold Hid; rw [HR.out, show (put.length - i) + (b.length - j) = ((put.length - i) + (b.length - (j + 1))) + 1 by omega, rch_b HPN.out he hle]
        clear he hE
        rcases Int.lt_trichotomy hi e.t with hmx | hmx | hmx
        · rw [Int.max_eq_right (Int.le_of_lt hmx)] at HS
          rcases hpc with g1 | ⟨g1, pb, po, f, rfl, g2, g3⟩
          all_goals
            go_wp2
            all_goals
              go_roundg (put.length - i + (b.length - (j + 1)))
              case measure => omega
              case rel => exact ⟨i, j + 1, _, rfl, hi1, by omega, rfl, by go_num, rfl, HS.out, rfl⟩
        · subst hmx
          rw [Int.max_self] at HS
          rcases hpc with g1 | ⟨g1, pb, po, f, rfl, g2, g3⟩
          all_goals
            go_wp2
            all_goals
              go_roundg (put.length - i + (b.length - (j + 1)))
              case measure => omega
              case rel => exact ⟨i, j + 1, _, rfl, hi1, by omega, rfl, by go_num, rfl, HS.out, rfl⟩
        · rw [Int.max_eq_left (by omega)] at HS
          rcases hpc with g1 | ⟨g1, pb, po, f, rfl, g2, g3⟩
          all_goals
            go_wp2
            all_goals
              go_roundg (put.length - i + (b.length - (j + 1)))
              case measure => omega
              case rel => exact ⟨i, j + 1, _, rfl, hi1, by omega, rfl, by go_num, rfl, HS.out, rfl⟩
      · have hbn : ∀ p, b[j]? = some p → hi < p.f := fun p hp' => by
          rcases Int.lt_or_le hi p.f with h | h
          · exact h
          · exact absurd ⟨p, hp', h⟩ hb
        have hbc : (b.length : Int) ≤ (j : Int) ∨ ((j : Int) < (b.length : Int) ∧ ∃ pb po f, a2 = some ⟨pb, po, none⟩ ∧ hi < f ∧ wr.cell? ⟨pb, po + j * 3, none⟩ = some (.int .i64 f)) := by
          by_cases hjl : j < b.length
          · refine .inr ⟨by omega, ?_⟩
            rcases H2.out with h0 | ⟨pb, po, ha, hE⟩
            · rw [h0] at hjl; simp at hjl
            · exact ⟨pb, po, _, ha, hbn _ (List.getElem?_eq_getElem hjl), (hE.2 j _ (List.getElem?_eq_getElem hjl)).1⟩
          · exact .inl (by omega)
        have HS : Hid (rch put b (put.length + b.length) 0 0 lo = (i, j, hi)) := by
          unfold Hid; rw [HR.out, rch_stop HPN.out hbn]
        clear hb hbn
        rcases hpc with g1 | ⟨g1, pb, po, f, rfl, g2, g3⟩
        all_goals
          rcases hbc with k1 | ⟨k1, qb, qo, q, rfl, k2, k3⟩
          all_goals
            go_wp2
            go_ret3
            exact ⟨ret3 (by rw [HS.out]) (by rw [HS.out]) (by rw [HS.out]), Below.refl _ _⟩
end Go.Proofs.YteolfolkolpehaaDoor

namespace Go.Proofs.YteolfolkolpehaaDoor
open Go.ChangeShapes Go.WideShapes Go.ChangeAt Go.RowKit
set_option linter.unusedVariables false

/-- all boxes of edits stand -/
def KB (w w' : World) : Prop := ∀ g f t s, Box w g f t s → Box w' g f t s
theorem KB.refl (w : World) : KB w w := fun _ _ _ _ h => h
theorem KB.trans {a b c : World} (h : KB a b) (k : KB b c) : KB a c := fun g f t s x => k g f t s (h g f t s x)
theorem KB.alloc {a b : World} (h : KB a b) (o : Obj) : KB a (b.alloc o) := fun g f t s x => (h g f t s x).alloc o
theorem KB.own {a b c : World} {base n : Nat} {v : Value} {xs : List Value} (h : KB a b) (ho : b.ownsRow base 5 1 v n xs) (hg : b.grownBy c v.ownBlock) : KB a c := fun g f t s x =>
  (h g f t s x).grown hg (own_ne_box ho (h g f t s x) (by decide))

theorem KB.others {a b c : World} (h : KB a b) (k : Lib.OthersKept 5 none b c) : KB a c := fun g f t s x =>
  k g _ (h g f t s x) (fun e => by cases e) (fun c fz e => by cases e)
theorem KB.below {a b c : World} (h : KB a b) (k : Below b.heap.size b c) : KB a c := fun g f t s x =>
  (k.block g (h g f t s x).lt).trans (h g f t s x)
end Go.Proofs.YteolfolkolpehaaDoor

namespace Go.Proofs.YteolfolkolpehaaDoor
open Go.ChangeShapes Go.WideShapes Go.ChangeAt Go.RowKit
set_option linter.unusedVariables false

theorem chk_wider {size size' L : Int} {l : List Ed} (h : chk size L l = 0) (hs : size ≤ size') : chk size' L l = 0 := by
  induction l generalizing L with
  | nil => rfl
  | cons e r ih =>
    obtain ⟨h1, h2, h3, h4, h5⟩ := chk_cons h
    rw [chk, if_pos ⟨h1, h2, by omega⟩, if_neg (by omega)]
    exact ih h5

theorem chk_later {size L : Int} {e : Ed} {r : List Ed} (h : chk size L (e :: r) = 0) : ∀ z ∈ r, e.t < z.f := by
  induction r generalizing e L with
  | nil => simp
  | cons y t ih =>
    obtain ⟨h1, h2, h3, h4, h5⟩ := chk_cons h
    obtain ⟨k1, k2, k3, k4, k5⟩ := chk_cons h5
    intro z hz
    rcases List.mem_cons.1 hz with rfl | hz
    · omega
    · have := ih h5 z hz; omega

theorem chk_first {size L : Int} {l : List Ed} (h : chk size L l = 0) : ∀ z ∈ l, L ≤ z.f := by
  cases l with
  | nil => simp
  | cons e r =>
    obtain ⟨h1, h2, h3, h4, h5⟩ := chk_cons h
    intro z hz
    rcases List.mem_cons.1 hz with rfl | hz
    · exact h4
    · have := chk_later h z hz; omega

theorem chk_up {size L L' : Int} {l : List Ed} (h : chk size L l = 0) (hL : ∀ e, l[0]? = some e → L' ≤ e.f) : chk size L' l = 0 := by
  cases l with
  | nil => rfl
  | cons e r =>
    obtain ⟨h1, h2, h3, h4, h5⟩ := chk_cons h
    have := hL e rfl
    rw [chk, if_pos ⟨h1, h2, h3⟩, if_neg (by omega)]
    exact h5

theorem chk_dropped {size L : Int} {l : List Ed} (h : chk size L l = 0) (k : Nat) : ∃ L', L ≤ L' ∧ chk size L' (l.drop k) = 0 := by
  induction k generalizing l L with
  | zero => exact ⟨L, Int.le_refl _, h⟩
  | succ k ih =>
    cases l with
    | nil => exact ⟨L, Int.le_refl _, rfl⟩
    | cons e r =>
      obtain ⟨h1, h2, h3, h4, h5⟩ := chk_cons h
      obtain ⟨L', h6, h7⟩ := ih h5
      exact ⟨L', by omega, h7⟩
end Go.Proofs.YteolfolkolpehaaDoor
