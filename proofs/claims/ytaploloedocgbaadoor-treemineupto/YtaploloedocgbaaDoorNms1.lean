import Derived.Test.YtaploloedocgbaaDoorAtP
import Derived.Test.YtaploloedocgbaaDoorKd1
namespace Go.Proofs.YtaploloedocgbaaDoor
open Go.ChangeShapes Go.WideShapes Go.ChangeAt Go.RowKit
set_option linter.unusedVariables false

/-- is the i-th piece a token? -/
def tkAt (ts : List Tk) (i : Nat) : Bool := match ts[i]? with | some p => tokB p | none => false
/-- the tokens among n pieces from b on -/
def tkl (ts : List Tk) (b n : Nat) : List Int := ((List.range' b n).filter (tkAt ts)).map Int.ofNat

theorem tkl_yes {ts : List Tk} {b n : Nat} {p : Tk} (hp : ts[b + n]? = some p) (h : tokB p = true) : tkl ts b (n + 1) = tkl ts b n ++ [((b + n : Nat) : Int)] := by
  have ht : tkAt ts (b + n) = true := by unfold tkAt; rw [hp]; exact h
  unfold tkl; rw [List.range'_1_concat, List.filter_append, List.filter_cons_of_pos ht]; simp
theorem tkl_no {ts : List Tk} {b n : Nat} {p : Tk} (hp : ts[b + n]? = some p) (h : tokB p = false) : tkl ts b (n + 1) = tkl ts b n := by
  have ht : tkAt ts (b + n) = false := by unfold tkAt; rw [hp]; exact h
  unfold tkl; rw [List.range'_1_concat, List.filter_append, List.filter_cons_of_neg (by simp [ht])]; simp
theorem tkl_len (ts : List Tk) (b n : Nat) : (tkl ts b n).length ≤ n := by
  unfold tkl; rw [List.length_map]; exact Nat.le_trans (List.length_filter_le _ _) (by simp)

end Go.Proofs.YtaploloedocgbaaDoor

namespace Go.Proofs.YtaploloedocgbaaDoor
open Go.ChangeShapes Go.WideShapes Go.ChangeAt Go.RowKit
set_option linter.unusedVariables false

set_option maxHeartbeats 400000 in
theorem Kids_any (a : Option Addr) (cap : Nat) (ns : List Nd) (n : Int) (w : World) (h : LiesA w a ns) (hl : ns.length * 32 ≤ 140737488351232) (hn0 : -9223372036854775808 ≤ n) (hn1 : n ≤ 9223372036854775807) :
    Calls Tryd.prog 7 #[.agg #[.slice a ns.length cap], .int .i64 n] w fun e w' => ∃ v, e = .returned v ∧
      w'.ownsRow w.heap.size 3 1 v ((kid ns n).getD []).length (flat ((kid ns n).getD [])) ∧ Below w.heap.size w w' := by
  have H : Hid (LiesA w a ns) := h
  clear h
  go_enter Tryd.func7, Tryd.ntmps7
  go_wp2_with (first | (go_at_call 26; refine (kids_any a cap ns n _ (H.out.below ((Below.refl _ w).alloc (Nat.le_refl _) _)) hl hn0 hn1).mono ?_; rintro e w3 ⟨v, rfl, hown, hb3⟩) | fail)
  go_ret
  refine ⟨_, rfl, own_base hown (by simp), ((Below.refl _ w).alloc (Nat.le_refl _) _).trans (hb3.mono (by simp))⟩
end Go.Proofs.YtaploloedocgbaaDoor

namespace Go.Proofs.YtaploloedocgbaaDoor
open Go.ChangeShapes Go.WideShapes Go.ChangeAt Go.RowKit
set_option linter.unusedVariables false

/-- does a node's run hold a piece? -/
def hld (ns : List Nd) (a : Int) (k : Int) : Bool := match ns[k.toNat]? with | some x => decide (x.f ≤ a) && decide (a < x.e) | none => false
/-- .. that of one of some nodes? -/
def cvr (ns : List Nd) (kl : List Int) (a : Int) : Bool := kl.any (hld ns a)
/-- the tokens of a node that are none of its kids' -/
def owl (ts : List Tk) (ns : List Nd) (n : Int) : List Int :=
  if 0 ≤ n then (match ns[n.toNat]? with | none => [] | some x => (tkl ts (spB x ts.length) (spE x ts.length - spB x ts.length)).filter (fun a => !cvr ns ((kid ns n).getD []) a)) else []

theorem owl_neg {ts : List Tk} {ns : List Nd} {n : Int} (h : n < 0) : owl ts ns n = [] := by unfold owl; rw [if_neg (by omega)]
theorem owl_big {ts : List Tk} {ns : List Nd} {n : Nat} (h : ns.length ≤ n) : owl ts ns n = [] := by unfold owl; rw [if_pos (by omega), Int.toNat_natCast, List.getElem?_eq_none h]
theorem owl_at {ts : List Tk} {ns : List Nd} {n : Nat} {x : Nd} (hx : ns[n]? = some x) :
    owl ts ns n = (tkl ts (spB x ts.length) (spE x ts.length - spB x ts.length)).filter (fun a => !cvr ns ((kid ns n).getD []) a) := by unfold owl; rw [if_pos (by omega), Int.toNat_natCast, hx]

theorem cvr_step {ns : List Nd} {kl : List Int} {a : Int} {j : Nat} {y : Int} (hy : kl[j]? = some y) : cvr ns (kl.take (j + 1)) a = (cvr ns (kl.take j) a || hld ns a y) := by
  unfold cvr; rw [List.take_add_one, hy]; simp

theorem filter_step {α : Type} {xs : List α} {f : α → Bool} {k : Nat} {y : α} (hy : xs[k]? = some y) : (xs.take (k + 1)).filter f = (xs.take k).filter f ++ (if f y then [y] else []) := by
  rw [List.take_add_one, hy, List.filter_append]
  cases h : f y <;> simp [h]
end Go.Proofs.YtaploloedocgbaaDoor

namespace Go.Proofs.YtaploloedocgbaaDoor
open Go.ChangeShapes Go.WideShapes Go.ChangeAt Go.RowKit
set_option linter.unusedVariables false

theorem rtoken_any (k : Int) (w : World) : Calls Tryd.prog 55 #[.int .u8 k] w fun e w' => e = .returned (.bool (k != 0 && k != 1)) ∧ w = w' := by
  by_cases h0 : k = 0
  · subst h0
    go_enter Tryd.func55, Tryd.ntmps55
    go_wp2
    go_ret
    exact ⟨rfl, rfl⟩
  · have h0' : (k != 0) = true := by simp [h0]
    go_enter Tryd.func55, Tryd.ntmps55
    go_wp2
    go_ret
    exact ⟨by rw [h0']; rfl, rfl⟩
end Go.Proofs.YtaploloedocgbaaDoor

namespace Go.Proofs.YtaploloedocgbaaDoor
open Go.ChangeShapes Go.WideShapes Go.ChangeAt Go.RowKit
set_option linter.unusedVariables false

theorem ret_s {a b : ByteArray} (h : a = b) : Ending.returned (.string a) = .returned (.string b) := by rw [h]
end Go.Proofs.YtaploloedocgbaaDoor

namespace Go.Proofs.YtaploloedocgbaaDoor
open Go.ChangeShapes Go.WideShapes Go.ChangeAt Go.RowKit
set_option linter.unusedVariables false

/-- a piece's word -/
def wrd (s : ByteArray) (p : Tk) : ByteArray := if 0 ≤ p.f ∧ p.f ≤ p.t ∧ p.t ≤ (s.size : Int) then s.extract p.f.toNat p.t.toNat else ⟨#[]⟩

theorem wrd_yes {s : ByteArray} {k : Int} {f t : Nat} (h1 : f ≤ t) (h2 : t ≤ s.size) : wrd s ⟨k, f, t⟩ = s.extract f t := by
  unfold wrd; rw [if_pos ⟨by simp, by simp; omega, by simp; omega⟩]; simp
theorem wrd_no {s : ByteArray} {p : Tk} (h : ¬ (0 ≤ p.f ∧ p.f ≤ p.t ∧ p.t ≤ (s.size : Int))) : wrd s p = ⟨#[]⟩ := by
  unfold wrd; rw [if_neg h]

set_option maxHeartbeats 400000 in
theorem word_any (s : ByteArray) (p : Tk) (w : World) (hs : s.size ≤ 140737488351232) (hp : TkFit p) :
    Calls Tryd.prog 30 #[.string s, .agg #[.int .u8 p.k, .int .i64 p.f, .int .i64 p.t]] w fun e w' => e = .returned (.string (wrd s p)) ∧ Below w.heap.size w w' := by
  obtain ⟨k, f, t⟩ := p
  have hw : Below w.heap.size w (w.alloc (.cells #[.int .u8 k, .int .i64 f, .int .i64 t] 60)) := (Below.refl _ w).alloc (Nat.le_refl _) _
  by_cases h0 : f < 0
  · have HR : Hid (wrd s ⟨k, f, t⟩ = ⟨#[]⟩) := wrd_no (by simp only; omega)
    go_enter Tryd.func30, Tryd.ntmps30
    go_wp2
    go_ret
    exact ⟨ret_s HR.out.symm, hw⟩
  · by_cases h1 : t < f
    · have HR : Hid (wrd s ⟨k, f, t⟩ = ⟨#[]⟩) := wrd_no (by simp only; omega)
      go_enter Tryd.func30, Tryd.ntmps30
      go_wp2
      go_ret
      exact ⟨ret_s HR.out.symm, hw⟩
    · by_cases h2 : (s.size : Int) < t
      · have HR : Hid (wrd s ⟨k, f, t⟩ = ⟨#[]⟩) := wrd_no (by simp only; omega)
        go_enter Tryd.func30, Tryd.ntmps30
        go_wp2
        go_ret
        exact ⟨ret_s HR.out.symm, hw⟩
      · obtain ⟨a, rfl⟩ : ∃ k : Nat, f = k := ⟨f.toNat, by omega⟩
        obtain ⟨b, rfl⟩ : ∃ k : Nat, t = k := ⟨t.toNat, by omega⟩
        have HR : Hid (wrd s ⟨k, a, b⟩ = s.extract a b) := wrd_yes (by omega) (by omega)
        clear hp
        go_enter Tryd.func30, Tryd.ntmps30
        go_wp2
        go_ret
        exact ⟨ret_s HR.out.symm, hw⟩
end Go.Proofs.YtaploloedocgbaaDoor

namespace Go.Proofs.YtaploloedocgbaaDoor
open Go.ChangeShapes Go.WideShapes Go.ChangeAt Go.RowKit
set_option linter.unusedVariables false

set_option maxHeartbeats 400000 in
theorem rWord_any (s : ByteArray) (p : Tk) (w : World) (hs : s.size ≤ 140737488351232) (hp : TkFit p) :
    Calls Tryd.prog 33 #[.string s, .agg #[.int .u8 p.k, .int .i64 p.f, .int .i64 p.t]] w fun e w' => e = .returned (.string (wrd s p)) ∧ Below w.heap.size w w' := by
  obtain ⟨k, f, t⟩ := p
  have hw : Below w.heap.size w (w.alloc (.cells #[.int .u8 k, .int .i64 f, .int .i64 t] 60)) := (Below.refl _ w).alloc (Nat.le_refl _) _
  by_cases h0 : f < 0
  · have HR : Hid (wrd s ⟨k, f, t⟩ = ⟨#[]⟩) := wrd_no (by simp only; omega)
    go_enter Tryd.func33, Tryd.ntmps33
    go_wp2
    go_ret
    exact ⟨ret_s HR.out.symm, hw⟩
  · by_cases h1 : t < f
    · have HR : Hid (wrd s ⟨k, f, t⟩ = ⟨#[]⟩) := wrd_no (by simp only; omega)
      go_enter Tryd.func33, Tryd.ntmps33
      go_wp2
      go_ret
      exact ⟨ret_s HR.out.symm, hw⟩
    · by_cases h2 : (s.size : Int) < t
      · have HR : Hid (wrd s ⟨k, f, t⟩ = ⟨#[]⟩) := wrd_no (by simp only; omega)
        go_enter Tryd.func33, Tryd.ntmps33
        go_wp2
        go_ret
        exact ⟨ret_s HR.out.symm, hw⟩
      · obtain ⟨a, rfl⟩ : ∃ k : Nat, f = k := ⟨f.toNat, by omega⟩
        obtain ⟨b, rfl⟩ : ∃ k : Nat, t = k := ⟨t.toNat, by omega⟩
        have HR : Hid (wrd s ⟨k, a, b⟩ = s.extract a b) := wrd_yes (by omega) (by omega)
        clear hp
        go_enter Tryd.func33, Tryd.ntmps33
        go_wp2
        go_ret
        exact ⟨ret_s HR.out.symm, hw⟩
end Go.Proofs.YtaploloedocgbaaDoor

namespace Go.Proofs.YtaploloedocgbaaDoor
open Go.ChangeShapes Go.WideShapes Go.ChangeAt Go.RowKit
set_option linter.unusedVariables false

/-- is a word a name's? -/
def okW (v : ByteArray) : Bool := !v.toList.isEmpty && !(v.toList == [95])
/-- is a node an occurrence? -/
def nmB (s : ByteArray) (ts : List Tk) (x : Nd) : Bool := x.k == 45 && decide (0 ≤ x.f) && (match ts[x.f.toNat]? with | none => false | some p => p.k == 2 && okW (wrd s p))
/-- the occurrences -/
def nms (s : ByteArray) (ts : List Tk) (ns : List Nd) : List Int := (ns.filter (nmB s ts)).map (·.f)

theorem nms_yes {s : ByteArray} {ts : List Tk} {ns : List Nd} {k : Nat} {x : Nd} (hx : ns[k]? = some x) (h : nmB s ts x = true) : nms s ts (ns.take (k + 1)) = nms s ts (ns.take k) ++ [x.f] := by
  unfold nms; rw [List.take_add_one, hx]; simp [h]
theorem nms_no {s : ByteArray} {ts : List Tk} {ns : List Nd} {k : Nat} {x : Nd} (hx : ns[k]? = some x) (h : nmB s ts x = false) : nms s ts (ns.take (k + 1)) = nms s ts (ns.take k) := by
  unfold nms; rw [List.take_add_one, hx]; simp [h]
theorem nms_len (s : ByteArray) (ts : List Tk) (ns : List Nd) : (nms s ts ns).length ≤ ns.length := by
  unfold nms; rw [List.length_map]; exact List.length_filter_le _ _

set_option maxRecDepth 1000000 in
set_option maxHeartbeats 2000000 in
theorem names_any (s : ByteArray) (a1 a2 : Option Addr) (c1 c2 : Nat) (ts : List Tk) (ns : List Nd) (w : World) (h1 : LiesA w a1 ts) (h2 : LiesA w a2 ns) (hl1 : ts.length * 24 ≤ 140737488351232) (hl2 : ns.length * 32 ≤ 140737488351232)
    (hs : s.size ≤ 140737488351232) (hf1 : ∀ e ∈ ts, TkFit e) :
    Calls Tryd.prog 9 #[.string s, .slice a1 ts.length c1, .agg #[.slice a2 ns.length c2]] w fun e w' => ∃ v, e = .returned v ∧
      w'.ownsRow w.heap.size 3 1 v (nms s ts ns).length (flat (nms s ts ns)) ∧ Below w.heap.size w w' := by
  obtain ⟨i0, hi, hz0, hz1, hz2⟩ := info_parts infoInt
  have H1 : Hid (LiesA w a1 ts) := h1
  have H2 : Hid (LiesA w a2 ns) := h2
  have HF1 : Hid (∀ e ∈ ts, TkFit e) := hf1
  obtain ⟨w2, e2, hw, hs2, B0⟩ := bx1 w #[.slice a2 ns.length c2] 25
  have HB0 : Hid (Below w.heap.size w w2) := hw
  have HX0 : Hid (Bx w2 w.heap.size #[.slice a2 ns.length c2] 25) := B0
  have HS2 : Hid (w2.heap.size = w.heap.size + 1) := hs2
  have HE2 : Hid (w.alloc (.cells #[.slice a2 ns.length c2] 25) = w2) := e2
  have x0 := B0.one
  clear h1 h2 hf1 hw hs2 B0 e2
  go_enter Tryd.func9, Tryd.ntmps9
  go_upto_region 1 with fail
  rw [HE2.out]
  go_wp2
  go_loopw [7, 15] (fun v i wr => ∃ k : Nat, k ≤ ns.length ∧ i = .int .i64 k ∧ Below (w.heap.size + 1) w2 wr ∧ wr.ownsRow (w.heap.size + 1) 3 1 v (nms s ts (ns.take k)).length (flat (nms s ts (ns.take k)))) (fun _ i _ => ns.length - (intOf i).toNat)
  case atStart => exact ⟨0, Nat.zero_le _, rfl, Below.refl _ _, World.ownsRow_nil _ _ _ _⟩
  case round =>
    obtain ⟨k, hk, rfl, hbel, hown⟩ := hrel
    have HB : Hid (Below (w.heap.size + 1) w2 wr) := hbel
    have hlt1 : Hid (∀ k, u7.ownBlock = some k → w.heap.size + 1 ≤ k ∧ k < wr.heap.size) := hown.lt
    have HO : Hid (wr.ownsRow (w.heap.size + 1) 3 1 u7 (nms s ts (ns.take k)).length (flat (nms s ts (ns.take k)))) := hown
    have hwb : Below w.heap.size w wr := HB0.out.trans (hbel.mono (by omega))
    have HWB : Hid (Below w.heap.size w wr) := hwb
    have hsr : w.heap.size + 1 ≤ wr.heap.size := by have := hbel.size; have := HS2.out; omega
    have hnl : (nms s ts (ns.take k)).length ≤ k := by have := nms_len s ts (ns.take k); simp at this; omega
    clear hbel hown x0
    by_cases hlt : k < ns.length
    · obtain ⟨x, hx⟩ : ∃ e, ns[k]? = some e := ⟨_, List.getElem?_eq_getElem hlt⟩
      rcases H2.out with rfl | ⟨b2, o2, rfl, hL2⟩
      · simp at hlt
      have hb2 : b2 < wr.heap.size := by have := hL2.1; omega
      obtain ⟨d0, d1, d2, d3⟩ := hL2.nd hwb hx
      have HX : Hid (ns[k]? = some x) := hx
      clear hx hL2 hwb
      have hlt' : (k : Int) < (ns.length : Int) := by omega
      by_cases g1 : x.k = 45
      · by_cases g2 : x.f < 0
        · have HS : Hid (nms s ts (ns.take (k + 1)) = nms s ts (ns.take k)) := nms_no HX.out (by unfold nmB; rw [decide_eq_false (by omega)]; simp)
          go_wp2
          go_roundw
          case rel => exact ⟨k + 1, by omega, by go_num, HB.out.alloc hsr _, own_eq (HO.out.alloc _) HS.out.symm⟩
          case measure => simp [intOf]; omega
        · obtain ⟨m, hm⟩ : ∃ m : Nat, x.f = m := ⟨x.f.toNat, by omega⟩
          rw [hm] at d1
          clear g2
          by_cases g3 : m < ts.length
          · obtain ⟨p, hp⟩ : ∃ e, ts[m]? = some e := ⟨_, List.getElem?_eq_getElem g3⟩
            rcases H1.out with rfl | ⟨b1, o1, rfl, hL1⟩
            · simp at g3
            have hb1 : b1 < wr.heap.size := by have := hL1.1; omega
            obtain ⟨t0, t1, t2⟩ := hL1.tk HWB.out hp
            have hfit := HF1.out p (List.mem_of_getElem? hp)
            have HN : Hid (nmB s ts x = (p.k == 2 && okW (wrd s p))) := by
              unfold Hid nmB; rw [g1, hm, Int.toNat_natCast, hp]; simp
            have g3' : (m : Int) < (ts.length : Int) := by omega
            have HFT : Hid (TkFit p) := hfit
            clear hp hL1 hfit
            by_cases g4 : p.k = 2
            · rw [g4] at t0
              have HWD : Hid (nmB s ts x = okW (wrd s p)) := by unfold Hid; rw [HN.out, g4]; simp
              have HPK : Hid (p.k = 2) := g4
              clear g4 HN
              go_wp2_with fail
              refine (word_any s ⟨2, p.f, p.t⟩ _ hs ⟨by simp, HFT.out.2.1, HFT.out.2.2⟩).mono ?_
              rintro e w4 ⟨rfl, hb4⟩
              have hv : wrd s ⟨2, p.f, p.t⟩ = wrd s p := rfl
              rw [hv]
              clear hv
              have HB4 : Hid (Below (w.heap.size + 1) w2 w4) := (HB.out.alloc hsr _).trans (hb4.mono (by simp; omega))
              have HO4 : Hid (w4.ownsRow (w.heap.size + 1) 3 1 u7 (nms s ts (ns.take k)).length (flat (nms s ts (ns.take k)))) := ownsRow_below (HO.out.alloc _) hb4 (Nat.le_refl _)
              have hs4 : wr.heap.size + 1 ≤ w4.heap.size := by have := hb4.size; simpa using this
              have n1 : w4.cell? ⟨wr.heap.size, 1, none⟩ = some (.int .i64 m) := (hb4.cell (p := ⟨wr.heap.size, 1, none⟩) (by simp)).trans (by simp)
              generalize wrd s p = v at *
              clear hb4
              cases hok : okW v with
              | true =>
                have HS : Hid (nms s ts (ns.take (k + 1)) = nms s ts (ns.take k) ++ [(m : Int)]) := by
                  unfold Hid; rw [nms_yes HX.out (by rw [HWD.out]; exact hok), hm]
                unfold okW at hok
                simp only [Bool.and_eq_true, Bool.not_eq_true'] at hok
                obtain ⟨k1, k2⟩ := hok
                go_wp2_with (at_builtin; (refine wpList_append_own _ rfl (.tmp 54) (.tmp 56) 39 rfl (w.heap.size + 1) 3 i0 (.int .i64 0) 1 8 Tryd.underlying39 hi hz0 hz1 hz2 rfl (by decide) _ _ _ rfl (HO4.out.alloc _) ⟨w4.heap.size, 0, none⟩ 1 1 (flat [(m : Int)]) rfl rfl (cells_new w4 (flat [(m : Int)]) 3) (flat_oneCell _) ?_ ?_ ?_ ?_))
                case refine_1 => unfold maxLen; omega
                case refine_2 => omega
                case refine_3 => simp; omega
                intro v5 w5 hown5 hgrow5 _
                have HB5 : Hid (Below (w.heap.size + 1) w2 w5) := (HB4.out.alloc (by omega) _).grown hgrow5 (by simp; omega) (fun k h => (hlt1.out k h).1)
                have HO5 : Hid (w5.ownsRow (w.heap.size + 1) 3 1 v5 (nms s ts (ns.take k) ++ [(m : Int)]).length (flat (nms s ts (ns.take k) ++ [(m : Int)]))) := by
                  unfold Hid; rw [flat_append, List.length_append]; exact hown5
                clear hgrow5 hown5
                go_wp2
                go_roundw
                case rel => exact ⟨k + 1, by omega, by go_num, HB5.out, own_eq HO5.out HS.out.symm⟩
                case measure => simp [intOf]; omega
              | false =>
                have HS : Hid (nms s ts (ns.take (k + 1)) = nms s ts (ns.take k)) := nms_no HX.out (by rw [HWD.out]; exact hok)
                cases hem : v.toList.isEmpty with
                | true =>
                  go_wp2
                  go_roundw
                  case rel => exact ⟨k + 1, by omega, by go_num, HB4.out, own_eq HO4.out HS.out.symm⟩
                  case measure => simp [intOf]; omega
                | false =>
                  have k2 : (v.toList == [95]) = true := by unfold okW at hok; rw [hem] at hok; simpa using hok
                  go_wp2
                  go_roundw
                  case rel => exact ⟨k + 1, by omega, by go_num, HB4.out, own_eq HO4.out HS.out.symm⟩
                  case measure => simp [intOf]; omega
            · have HS : Hid (nms s ts (ns.take (k + 1)) = nms s ts (ns.take k)) := nms_no HX.out (by rw [HN.out]; simp [g4])
              have g4' : (p.k != 2) = true := by simp [g4]
              clear g4
              go_wp2
              go_roundw
              case rel => exact ⟨k + 1, by omega, by go_num, HB.out.alloc hsr _, own_eq (HO.out.alloc _) HS.out.symm⟩
              case measure => simp [intOf]; omega
          · have HS : Hid (nms s ts (ns.take (k + 1)) = nms s ts (ns.take k)) := nms_no HX.out (by unfold nmB; rw [hm, Int.toNat_natCast, List.getElem?_eq_none (by omega)]; simp)
            go_wp2
            go_roundw
            case rel => exact ⟨k + 1, by omega, by go_num, HB.out.alloc hsr _, own_eq (HO.out.alloc _) HS.out.symm⟩
            case measure => simp [intOf]; omega
      · have HS : Hid (nms s ts (ns.take (k + 1)) = nms s ts (ns.take k)) := nms_no HX.out (by unfold nmB; simp [g1])
        go_wp2
        go_roundw
        case rel => exact ⟨k + 1, by omega, by go_num, HB.out.alloc hsr _, own_eq (HO.out.alloc _) HS.out.symm⟩
        case measure => simp [intOf]; omega
    · have HS : Hid (nms s ts (ns.take k) = nms s ts ns) := by unfold Hid; rw [List.take_of_length_le (by omega)]
      clear hwb
      go_wp2
      go_ret
      exact ⟨_, rfl, own_base (own_eq HO.out HS.out) (by omega), HWB.out⟩
end Go.Proofs.YtaploloedocgbaaDoor
