import Derived.Test.YtmnbakalcpanlaaGreatDoorTp0
import Derived.Test.YtmnbakalcpanlaaGreatDoorRs7
import Derived.BigQuiet
namespace Go.Proofs.YtmnbakalcpanlaaGreatDoor
open Go.ChangeShapes Go.WideShapes Go.ChangeAt Go.RowKit
set_option linter.unusedVariables false
set_option linter.unusedSimpArgs false

/-- names from the place i on are spelt anew: the text J, its pieces M, beside s and L -/
structure Rsp (s n J : ByteArray) (L M : List Tk) (i : Nat) : Prop where
  cut : (cut J 0).2 = none
  lst : wau J (Go.Proofs.YtmnbakalcpanlaaGreatDoor.cut J 0).1 = M
  len : M.length = L.length
  pre : ∀ j, j < i → M[j]? = L[j]?
  kin : ∀ (j : Nat) (a b : Tk), L[j]? = some a → M[j]? = some b → b.k = a.k
  txt : ∀ (j : Nat) (a b : Tk), i ≤ j → L[j]? = some a → M[j]? = some b → J.extract b.f.toNat b.t.toNat = if a.k = 2 then n else s.extract a.f.toNat a.t.toNat
theorem nms_mem (n : ByteArray) : ∀ (l : List Tk) (e : Q.Ed), e ∈ nms n l → ∃ q ∈ l, q.k = 2 ∧ e = ⟨q.f, q.t, n⟩
  | [], e, h => by simp [nms] at h
  | q :: r, e, h => by
    rw [nms] at h
    by_cases h2 : q.k = 2
    · rw [if_pos h2] at h
      rcases List.mem_cons.1 h with rfl | h
      · exact ⟨q, List.mem_cons_self .., h2, rfl⟩
      · obtain ⟨x, h1, h3⟩ := nms_mem n r e h
        exact ⟨x, List.mem_cons_of_mem _ h1, h3⟩
    · rw [if_neg h2] at h
      obtain ⟨x, h1, h3⟩ := nms_mem n r e h
      exact ⟨x, List.mem_cons_of_mem _ h1, h3⟩
theorem chk_at {size L L' : Int} {xs : List Q.Ed} (h : Q.chk size L xs = 0) (h' : ∀ e ∈ xs, L' ≤ e.f) : Q.chk size L' xs = 0 := by
  cases xs with
  | nil => rfl
  | cons e r =>
    obtain ⟨h1, h2, h3, h4, h5⟩ := Q.chk_cons h
    rw [Q.chk, if_pos ⟨h1, h2, h3⟩, if_neg (by have := h' e (List.mem_cons_self ..); omega)]
    exact h5
theorem nms_drop (n : ByteArray) {size : Int} : ∀ (l : List Tk) (L : Int) (i : Nat), Q.chk size L (nms n l) = 0 → ∃ L', Q.chk size L' (nms n (l.drop i)) = 0
  | l, L, 0, h => ⟨L, by simpa using h⟩
  | [], L, i + 1, h => ⟨L, by simpa using h⟩
  | q :: r, L, i + 1, h => by
    rw [nms] at h
    by_cases h2 : q.k = 2
    · rw [if_pos h2] at h
      obtain ⟨h1, h2, h3, h4, h5⟩ := Q.chk_cons h
      exact nms_drop n r _ i h5
    · rw [if_neg h2] at h
      exact nms_drop n r _ i h
theorem ex_same {a b : ByteArray} {f t f' t' : Nat} (ht : t ≤ a.size) (ht' : t' ≤ b.size) (hn : t' + f = t + f') (hft : f ≤ t) (h : ∀ j, f + j < t → bt b (f' + j) = bt a (f + j)) : b.extract f' t' = a.extract f t := by
  refine bt_all fun j => ?_
  rw [bt_ex _ _ _ _ ht', bt_ex _ _ _ _ ht]
  by_cases hj : f + j < t
  · rw [if_pos hj, if_pos (by omega), h j hj]
  · rw [if_neg hj, if_neg (by omega)]
theorem ex_all (n : ByteArray) : n.extract 0 n.size = n := ByteArray.extract_zero_size

theorem respell {s n : ByteArray} {L : List Tk} (hn : 0 < n.size) (hc : pce n 0 = .ok 2 n.size) (hcut : (cut s 0).2 = none) (hL : wau s (cut s 0).1 = L) :
    ∀ d i, i + d = L.length → ∃ M, Rsp s n (apB s (nms n (L.drop i))) L M i
  | 0, i, h => by
    refine ⟨L, ?_⟩
    rw [List.drop_of_length_le (by omega)]
    show Rsp s n (apB s []) L L i
    rw [apB_nil]
    refine ⟨hcut, hL, rfl, fun _ _ => rfl, fun j a b ha hb => ?_, fun j a b hj ha hb => ?_⟩
    · rw [ha] at hb; cases hb; rfl
    · have := (List.getElem?_eq_some_iff.1 ha).1; omega
  | d + 1, i, h => by
    obtain ⟨M, R⟩ := respell hn hc hcut hL d (i + 1) (by omega)
    have hchL : Chn s 0 false L := by
      have := chn_cut s s.size 0 false (by omega) (by omega) hcut (by simp)
      rwa [hL] at this
    have hiL : i < L.length := by omega
    obtain ⟨q, hq⟩ : ∃ q, L[i]? = some q := ⟨_, List.getElem?_eq_getElem hiL⟩
    obtain ⟨k, f, t, rfl, -, hft, hts, hk80⟩ := chn_all L 0 false hchL i q hq
    have hMi : M[i]? = some (⟨k, f, t⟩ : Tk) := (R.pre i (by omega)).trans hq
    have hck : Q.chk s.size 0 (nms n L) = 0 := by
      have := chk_names s n s.size 0 0 (by omega) (by omega) hcut (.inl (by omega))
      rwa [hL] at this
    have hd : L.drop i = (⟨k, f, t⟩ : Tk) :: L.drop (i + 1) := Q.drop_get hq
    have hckr : Q.chk s.size t (nms n (L.drop (i + 1))) = 0 := by
      obtain ⟨L', h'⟩ := nms_drop n L 0 (i + 1) hck
      refine chk_at h' fun e he => ?_
      obtain ⟨x, hx, -, rfl⟩ := nms_mem n _ e he
      obtain ⟨j, hj⟩ := List.mem_iff_getElem?.1 hx
      rw [List.getElem?_drop] at hj
      obtain ⟨k', f', t', rfl, g1, -, -⟩ := chn_next hchL hq hj (by omega)
      show (t : Int) ≤ (f' : Int)
      omega
    by_cases h2 : k = 2
    · subst h2
      obtain ⟨L', h'⟩ := nms_drop n L 0 i hck
      rw [hd] at h' ⊢
      rw [show nms n ((⟨((2 : Nat) : Int), f, t⟩ : Tk) :: L.drop (i + 1)) = ⟨f, t, n⟩ :: nms n (L.drop (i + 1)) by rw [nms, if_pos (by rfl)]] at h' ⊢
      obtain ⟨a1, a2, a3, a4⟩ := app_one h'
      simp only [Int.toNat_natCast] at a3 a4
      rw [← a4]
      obtain ⟨J1, hJ1⟩ : ∃ J, apB s (nms n (L.drop (i + 1))) = J := ⟨_, rfl⟩
      rw [hJ1] at R a3 ⊢
      have hRn : Rn J1 n (edE J1 n f t) f t := rn_of J1 n f t hft (by omega)
      have hsz := edE_size J1 n f t hft (by omega)
      obtain ⟨b1, b2, b3, b4, b5⟩ := Rn.list hn hc R.cut R.lst hMi (fun _ _ => hRn)
      have hchM : Chn J1 0 false M := by
        have := chn_cut J1 J1.size 0 false (by omega) (by omega) R.cut (by simp)
        rwa [R.lst] at this
      have hMl := R.len
      have hti : (M.take i).length = i := by rw [List.length_take]; omega
      have at0 : ∀ j, j < i → (M.take i ++ (⟨2, f, ((f + n.size : Nat) : Int)⟩ : Tk) :: (M.drop (i + 1)).map (mvZ (((f + n.size : Nat) : Int) - (t : Int))))[j]? = M[j]? := by
        intro j hj
        rw [List.getElem?_append_left (by omega), List.getElem?_take, if_pos hj]
      have at1 : (M.take i ++ (⟨2, f, ((f + n.size : Nat) : Int)⟩ : Tk) :: (M.drop (i + 1)).map (mvZ (((f + n.size : Nat) : Int) - (t : Int))))[i]? = some (⟨2, f, ((f + n.size : Nat) : Int)⟩ : Tk) := by
        rw [List.getElem?_append_right (by omega), hti, Nat.sub_self]; rfl
      have at2 : ∀ j, i < j → (M.take i ++ (⟨2, f, ((f + n.size : Nat) : Int)⟩ : Tk) :: (M.drop (i + 1)).map (mvZ (((f + n.size : Nat) : Int) - (t : Int))))[j]? = (M[j]?).map (mvZ (((f + n.size : Nat) : Int) - (t : Int))) := by
        intro j hj
        rw [List.getElem?_append_right (by omega), hti, show j - i = (j - (i + 1)) + 1 by omega, List.getElem?_cons_succ, List.getElem?_map, List.getElem?_drop, show i + 1 + (j - (i + 1)) = j by omega]
      refine ⟨_, ⟨b4, b5, ?_, fun j hj => ?_, fun j a b ha hb => ?_, fun j a b hj ha hb => ?_⟩⟩
      · rw [List.length_append, hti, List.length_cons, List.length_map, List.length_drop]; omega
      · rw [at0 j hj]; exact R.pre j (by omega)
      · by_cases h1 : j < i
        · rw [at0 j h1] at hb; exact R.kin j a b ha hb
        · by_cases h3 : j = i
          · subst h3
            rw [at1] at hb
            rw [hq] at ha
            cases ha; cases hb
            rfl
          · rw [at2 j (by omega)] at hb
            obtain ⟨c, hc1, rfl⟩ := Option.map_eq_some_iff.1 hb
            exact R.kin j a c ha hc1
      · by_cases h3 : j = i
        · subst h3
          rw [at1] at hb
          rw [hq] at ha
          cases ha; cases hb
          rw [if_pos (by rfl)]
          simp only [Int.toNat_natCast]
          refine (ex_same (a := n) (b := edE J1 n f t) (f := 0) (t := n.size) (Nat.le_refl _) (by omega) (by omega) (by omega) fun j hj => ?_).trans (ex_all n)
          rw [Nat.zero_add]
          exact hRn.two j (by omega)
        · rw [at2 j (by omega)] at hb
          obtain ⟨c, hc1, rfl⟩ := Option.map_eq_some_iff.1 hb
          have hx := R.txt j a c (by omega) ha hc1
          rw [← hx]
          obtain ⟨k', f', t', rfl, g1, g2, g3⟩ := chn_next hchM hMi hc1 (by omega)
          have e1 : (mvZ (((f + n.size : Nat) : Int) - (t : Int)) (⟨(k' : Int), (f' : Int), (t' : Int)⟩ : Tk)).f.toNat = f + n.size + (f' - t) := by unfold mvZ; simp only; omega
          have e2 : (mvZ (((f + n.size : Nat) : Int) - (t : Int)) (⟨(k' : Int), (f' : Int), (t' : Int)⟩ : Tk)).t.toNat = f + n.size + (t' - t) := by unfold mvZ; simp only; omega
          rw [e1, e2]
          simp only [Int.toNat_natCast]
          refine ex_same (a := J1) (b := edE J1 n f t) g3 (by omega) (by omega) g2 fun j hj => ?_
          have := hRn.three (f' - t + j)
          rw [show f + n.size + (f' - t) + j = f + n.size + (f' - t + j) by omega, this, show t + (f' - t + j) = f' + j by omega]
    · rw [hd]
      rw [show nms n ((⟨(k : Int), f, t⟩ : Tk) :: L.drop (i + 1)) = nms n (L.drop (i + 1)) by rw [nms, if_neg (by show ¬ (k : Int) = 2; omega)]]
      refine ⟨M, ⟨R.cut, R.lst, R.len, fun j hj => R.pre j (by omega), R.kin, fun j a b hj ha hb => ?_⟩⟩
      by_cases h3 : j = i
      · subst h3
        rw [hMi] at hb
        rw [hq] at ha
        cases ha; cases hb
        rw [if_neg (by show ¬ (k : Int) = 2; omega)]
        simp only [Int.toNat_natCast]
        have hl := Q.bytes_len s
        have hf := app_from (T := s.data.toList) (L := t) (a := 0) (b := t) (by omega) (nms n (L.drop (j + 1))) (by rw [hl]; exact hckr) (by omega) (by omega)
        simp only [List.drop_zero, Nat.sub_zero] at hf
        apply Q.bytes_ext
        rw [extract_list, extract_list, apB_list, hf]
        have ht : (s.data.toList.take t).length = t := by rw [List.length_take]; omega
        rw [List.drop_append_of_le_length (by omega), List.take_append_of_le_length (by rw [List.length_drop, ht]; omega), List.drop_take, List.take_take, Nat.min_self]
      · exact R.txt j a b (by omega) ha hb
end Go.Proofs.YtmnbakalcpanlaaGreatDoor

namespace Go.Proofs.YtmnbakalcpanlaaGreatDoor
open Go.ChangeShapes Go.WideShapes Go.ChangeAt Go.RowKit Go.Maps Go.WideMaps
set_option linter.unusedVariables false
set_option linter.unusedSimpArgs false

set_option maxRecDepth 1000000 in
theorem Identifier_any (s : ByteArray) (hs : s.size ≤ 4294967280) (w : World) (hS : Spl w) (hT : Lt w) (hM : MaxL w) :
    Calls Tryz.prog 26 #[.string s] w fun e w' => e = .returned (.bool (kIs s 2)) ∧ Below w.heap.size w w' := by
  have HI : Hid (Calls Tryz.prog 47 #[.string s, .int .u8 2] w fun e w' => e = .returned (.bool (kIs s 2)) ∧ Below w.heap.size w w') := isOf_any s 2 (by omega) hs w hS hT hM
  obtain ⟨z, hz⟩ : ∃ z, kIs s 2 = z := ⟨_, rfl⟩
  rw [hz] at HI ⊢
  clear hS hT hM hz
  go_enter Tryz.func26, Tryz.ntmps26
  go_wp2_with (go_at_call 47; (with_reducible refine HI.out.mono ?_); rintro e w3 ⟨rfl, hb3⟩; have HB3 : Hid (Below w.heap.size w w3) := hb3; clear hb3)
  go_ret
  exact ⟨rfl, HB3.out⟩

theorem bel_dr {B n : Nat} {a w : World} (h : Below B a w) : Below B a (w.drewN n) := ⟨h.os, h.tape, h.output, h.size, h.block⟩
theorem chn_head {s : ByteArray} {p : Nat} {b : Bool} {L : List Tk} {i : Nat} (h : Chn s p b (L.drop i)) (hi : i < L.length) : ∃ k t : Nat, L[i]? = some (⟨k, p, t⟩ : Tk) ∧ p ≤ t ∧ t ≤ s.size ∧ k < 80 ∧ ∃ b', Chn s t b' (L.drop (i + 1)) := by
  rw [List.drop_eq_getElem_cons hi] at h
  obtain ⟨k, t, h1, h2, h3, h4, -, -, -, h8⟩ := h
  exact ⟨k, t, by rw [List.getElem?_eq_getElem hi, h1], h2, h3, h4, _, h8⟩
theorem chn_done {s : ByteArray} {p : Nat} {b : Bool} {L : List Tk} {i : Nat} (h : Chn s p b (L.drop i)) (hi : ¬ i < L.length) : p = s.size := by
  rw [List.drop_of_length_le (by omega)] at h
  exact h

set_option maxRecDepth 1000000 in
set_option maxHeartbeats 4000000 in
theorem whole_any (s : ByteArray) (hs : s.size ≤ 4294967280) (a : Option Addr) (c : Nat) (L : List Tk) (hl : L.length ≤ 281474976710656) (hc : Chn s 0 false L) (w : World) (h : LiesA w a L) :
    Calls Tryz.prog 5 #[.string s, .slice a L.length c] w fun e w' => e = .returned (.bool true) ∧ Below w.heap.size w w' := by
  have hzz : ((s.size : Int) == (s.size : Int)) = true := by simp
  rcases h with rfl | ⟨b, o, rfl, h⟩
  · have hz : s.size = 0 := (show 0 = s.size from hc).symm
    rw [List.length_nil]
    have h00 : ((0 : Int) == (s.size : Int)) = true := by rw [hz]; rfl
    clear hz hc hzz
    go_enter Tryz.func5, Tryz.ntmps5
    go_wp2
    refine wp_loop_rounds 1 ?_
    rw [rounds_succ]
    go_wp2
    go_ret
    exact ⟨rfl, Below.refl _ _⟩
  have H : Hid (Lies w b o L) := h
  have hb : b < w.heap.size := h.1
  have HC : Hid (Chn s 0 false L) := hc
  clear h hc
  go_enter Tryz.func5, Tryz.ntmps5
  go_wp2
  go_loopw [5, 6] (fun at' i wr => ∃ (k p : Nat) (d : Bool), k ≤ L.length ∧ i = .int .i64 k ∧ at' = .int .i64 p ∧ Chn s p d (L.drop k) ∧ Below w.heap.size w wr) (fun _ i _ => L.length - (intOf i).toNat)
  case atStart => exact ⟨0, 0, false, Nat.zero_le _, rfl, rfl, HC.out, Below.refl _ _⟩
  case round =>
    obtain ⟨k, p, d, hk, rfl, rfl, hch, hbel⟩ := hrel
    have hsz := hbel.size
    by_cases hlt : k < L.length
    · obtain ⟨kk, t, he, h1, h2, h3, b', hch'⟩ := chn_head hch hlt
      obtain ⟨c0, c1, c2⟩ := H.out.tk hbel he
      have HC2 : Hid (Chn s t b' (L.drop (k + 1))) := hch'
      clear he hch hch'
      have hlt' : (k : Int) < (L.length : Int) := by omega
      have f1 : ((p : Int) != (p : Int)) = false := by simp
      have f2 : ¬ (t : Int) < (p : Int) := by omega
      have f3 : ¬ (s.size : Int) < (t : Int) := by omega
      have f4 : decide ((t : Int) < (p : Int)) = false := decide_eq_false f2
      have f5 : decide ((s.size : Int) < (t : Int)) = false := decide_eq_false f3
      go_wp2
      go_roundw
      case rel => exact ⟨k + 1, t, b', by omega, by go_num, rfl, HC2.out, hbel⟩
      case measure => simp [intOf]; omega
    · have hp := chn_done hch hlt
      subst hp
      clear hch
      go_wp2
      go_ret
      exact ⟨rfl, hbel⟩

set_option maxHeartbeats 400000 in
theorem sameTokens_any (a1 a2 : Option Addr) (c1 c2 : Nat) (xs : List Tk) (w : World) (h1 : LiesA w a1 xs) (h2 : LiesA w a2 xs) (hl : xs.length ≤ maxLen) :
    Calls Tryz.prog 10 #[.slice a1 xs.length c1, .slice a2 xs.length c2] w fun e w' => e = .returned (.bool true) ∧ Below w.heap.size w w' := by
  unfold maxLen at hl
  rcases h1 with rfl | ⟨b1, o1, rfl, h1⟩
  · rw [List.length_nil]
    go_enter Tryz.func10, Tryz.ntmps10
    go_wp2
    refine wp_loop_rounds 1 ?_
    rw [rounds_succ]
    go_wp2
    go_ret
    exact ⟨rfl, Below.refl _ _⟩
  rcases h2 with rfl | ⟨b2, o2, rfl, h2⟩
  · rw [List.length_nil]
    go_enter Tryz.func10, Tryz.ntmps10
    go_wp2
    refine wp_loop_rounds 1 ?_
    rw [rounds_succ]
    go_wp2
    go_ret
    exact ⟨rfl, Below.refl _ _⟩
  have H1 : Hid (Lies w b1 o1 xs) := h1
  have H2 : Hid (Lies w b2 o2 xs) := h2
  have hb1 : b1 < w.heap.size := h1.1
  have hb2 : b2 < w.heap.size := h2.1
  clear h1 h2
  have hne : ((xs.length : Int) != (xs.length : Int)) = false := by simp
  go_enter Tryz.func10, Tryz.ntmps10
  go_wp2
  go_loopw [5] (fun i wr => ∃ k : Nat, k ≤ xs.length ∧ i = .int .i64 k ∧ Below w.heap.size w wr) (fun i _ => xs.length - (intOf i).toNat)
  case atStart => exact ⟨0, Nat.zero_le _, rfl, Below.refl _ _⟩
  case round =>
    obtain ⟨k, hk, rfl, hbel⟩ := hrel
    have hsz := hbel.size
    by_cases hlt : k < xs.length
    · obtain ⟨e, he⟩ : ∃ e, xs[k]? = some e := ⟨_, List.getElem?_eq_getElem hlt⟩
      obtain ⟨c0, c1, c2⟩ := H1.out.tk hbel he
      obtain ⟨d0, d1, d2⟩ := H2.out.tk hbel he
      clear he
      have hlt' : (k : Int) < (xs.length : Int) := by omega
      go_wp2
      go_quiet (fail)
      go_wp2
      go_roundw
      case rel => exact ⟨k + 1, by omega, by go_num, bel_dr hbel⟩
      case measure => simp [intOf]; omega
    · go_wp2
      go_ret
      exact ⟨rfl, hbel⟩
end Go.Proofs.YtmnbakalcpanlaaGreatDoor
