import Derived.Test.YtaploloedocgbaaDoorNms2
import Derived.Test.YtaploloedocgbaaDoorUp
import Derived.Test.YtaploloedocgbaaDoorTx1
namespace Go.Proofs.YtaploloedocgbaaDoor
open Go.ChangeShapes Go.WideShapes Go.ChangeAt Go.RowKit
set_option linter.unusedVariables false

/-- one token more, by its number -/
def nxt (s : ByteArray) (ts : List Tk) (acc : List UInt8) (a : Int) : List UInt8 := match ts[a.toNat]? with | some p => stp s p acc | none => acc
def rtx (s : ByteArray) (ts : List Tk) (l : List Int) : List UInt8 := l.foldl (nxt s ts) []

theorem rtx_txt (s : ByteArray) (ts : List Tk) (b n : Nat) (h : b + n ≤ ts.length) : rtx s ts (tkl ts b n) = txt s ts b n := by
  induction n with
  | zero => rfl
  | succ n ih =>
    obtain ⟨p, hp⟩ : ∃ e, ts[b + n]? = some e := ⟨_, List.getElem?_eq_getElem (by omega)⟩
    cases htk : tokB p with
    | true =>
      rw [tkl_yes hp htk, txt_tok hp htk, ← ih (by omega)]
      unfold rtx
      rw [List.foldl_append]
      show nxt s ts _ _ = _
      unfold nxt
      rw [Int.toNat_natCast, hp]
    | false => rw [tkl_no hp htk, txt_not hp htk, ← ih (by omega)]

theorem tkl_mem {ts : List Tk} {b n : Nat} : ∀ y ∈ tkl ts b n, ∃ j : Nat, y = j ∧ j < ts.length := by
  intro y hy
  unfold tkl at hy
  obtain ⟨j, hj, rfl⟩ := List.mem_map.1 hy
  have := (List.mem_filter.1 hj).2
  refine ⟨j, rfl, ?_⟩
  unfold tkAt at this
  rcases Nat.lt_or_ge j ts.length with h | h
  · exact h
  · rw [List.getElem?_eq_none h] at this; simp at this

theorem rtx_step {s : ByteArray} {ts : List Tk} {l : List Int} {k j : Nat} {p : Tk} (hl : l[k]? = some (j : Int)) (hp : ts[j]? = some p) : rtx s ts (l.take (k + 1)) = stp s p (rtx s ts (l.take k)) := by
  unfold rtx
  rw [List.take_add_one, hl, List.foldl_append]
  show nxt s ts _ _ = _
  unfold nxt
  rw [Int.toNat_natCast, hp]

theorem rtx_len (s : ByteArray) (ts : List Tk) (l : List Int) (k : Nat) (hk : k ≤ l.length) : (rtx s ts (l.take k)).length ≤ k * (s.size + 1) := by
  induction k with
  | zero => simp [rtx]
  | succ k ih =>
    have ih := ih (by omega)
    obtain ⟨y, hy⟩ : ∃ e, l[k]? = some e := ⟨_, List.getElem?_eq_getElem (by omega)⟩
    have h : rtx s ts (l.take (k + 1)) = nxt s ts (rtx s ts (l.take k)) y := by
      unfold rtx; rw [List.take_add_one, hy, List.foldl_append]; rfl
    rw [h, Nat.succ_mul]
    unfold nxt
    cases ts[y.toNat]? with
    | none => simp only; omega
    | some p =>
      simp only
      have := stp_le (s := s) (p := p) (acc := rtx s ts (l.take k))
      omega

theorem cat_list (a b : ByteArray) : (a ++ b).data.toList = a.data.toList ++ b.data.toList := by
  rw [ByteArray.data_append, Array.toList_append]
theorem bytes_size (a : ByteArray) : a.data.toList.length = a.size := by rw [Array.length_toList]; rfl

set_option maxRecDepth 1000000 in
set_option maxHeartbeats 4000000 in
theorem rtext_any (s : ByteArray) (a1 a2 : Option Addr) (c1 c2 : Nat) (ts : List Tk) (ns : List Nd) (n : Int) (w : World) (h1 : LiesA w a1 ts) (h2 : LiesA w a2 ns) (hl1 : ts.length ≤ 1048576) (hl2 : ns.length * 32 ≤ 140737488351232) (hs : s.size ≤ 1048576)
    (hf1 : ∀ e ∈ ts, TkFit e) (hf2 : ∀ e ∈ ns, NdFit e) (hn0 : -9223372036854775808 ≤ n) (hn1 : n ≤ 9223372036854775807) :
    Calls Tryd.prog 20 #[.string s, .slice a1 ts.length c1, .agg #[.slice a2 ns.length c2], .int .i64 n] w fun e w' => e = .returned (.string ⟨(tex s ts ns n).toArray⟩) ∧ Below w.heap.size w w' := by
  have H1 : Hid (LiesA w a1 ts) := h1
  have H2 : Hid (LiesA w a2 ns) := h2
  have HF1 : Hid (∀ e ∈ ts, TkFit e) := hf1
  have HF2 : Hid (∀ e ∈ ns, NdFit e) := hf2
  obtain ⟨w2, e2, hw, hs2, B0⟩ := bx1 w #[.slice a2 ns.length c2] 25
  have HB0 : Hid (Below w.heap.size w w2) := hw
  have HE2 : Hid (w.alloc (.cells #[.slice a2 ns.length c2] 25) = w2) := e2
  have x0 := B0.one
  clear h1 h2 hf1 hf2 hw hs2 B0 e2
  by_cases g0 : n < 0
  · have HR : Hid (tex s ts ns n = []) := tex_no (by omega)
    go_enter Tryd.func20, Tryd.ntmps20
    go_upto_region 1 with fail
    rw [HE2.out]
    go_wp2
    go_ret
    exact ⟨ret_s (by rw [HR.out]), HB0.out⟩
  obtain ⟨m, rfl⟩ : ∃ m : Nat, n = m := ⟨n.toNat, by omega⟩
  by_cases g1 : m < ns.length
  · obtain ⟨x, hx⟩ : ∃ e, ns[m]? = some e := ⟨_, List.getElem?_eq_getElem g1⟩
    have HFX : Hid (NdFit x) := HF2.out x (List.mem_of_getElem? hx)
    have HR : Hid (tex s ts ns m = rtx s ts (tkl ts (spB x ts.length) (spE x ts.length - spB x ts.length))) := by
      unfold Hid
      have h1 := spB_le x ts.length
      have h2 := spE_le x ts.length
      rw [tex_at hx, rtx_txt _ _ _ _ (by omega)]
    rcases H2.out with rfl | ⟨b2, o2, rfl, hL2⟩
    · simp at g1
    obtain ⟨d0, d1, d2, d3⟩ := hL2.nd HB0.out hx
    have g1' : (m : Int) < (ns.length : Int) := by omega
    have htl : (tkl ts (spB x ts.length) (spE x ts.length - spB x ts.length)).length ≤ ts.length := Nat.le_trans (tkl_len _ _ _) (by have := spE_le x ts.length; omega)
    have HTM : Hid (∀ y ∈ tkl ts (spB x ts.length) (spE x ts.length - spB x ts.length), ∃ j : Nat, y = j ∧ j < ts.length) := tkl_mem
    clear hx hL2
    go_enter Tryd.func20, Tryd.ntmps20
    go_upto_region 1 with fail
    rw [HE2.out]
    go_wp2_with (first
      | (go_at_call 32; refine (tokens_any x a1 c1 ts _ (H1.out.below HB0.out) (by omega) HFX.out).mono ?_; rintro e w3 ⟨v3, rfl, o3, hb3⟩; have HB3 : Hid (Below w2.heap.size w2 w3) := hb3; obtain ⟨a3, c3, rfl, q3, hq3, hnn3⟩ := own_form o3; have HL3 : Hid (LiesA w3 a3 (tkl ts (spB x ts.length) (spE x ts.length - spB x ts.length))) := q3; clear hb3 o3 q3 hq3 hnn3)
      | fail)
    have HW3 : Hid (Below w.heap.size w w3) := HB0.out.trans (HB3.out.mono HB0.out.size)
    generalize htk : tkl ts (spB x ts.length) (spE x ts.length - spB x ts.length) = tk at *
    clear htk x0 d0 d1 d2 d3 HB3
    go_loopw [10, 11] (fun v i wr => ∃ (k : Nat) (sv : ByteArray), k ≤ tk.length ∧ i = .int .i64 k ∧ v = .string sv ∧ sv.data.toList = rtx s ts (tk.take k) ∧ Below w3.heap.size w3 wr) (fun _ i _ => tk.length - (intOf i).toNat)
    case atStart => exact ⟨0, ⟨#[]⟩, Nat.zero_le _, rfl, rfl, rfl, Below.refl _ _⟩
    case round =>
      obtain ⟨k, sv, hk, rfl, rfl, hsv, hbel⟩ := hrel
      have HSV : Hid (sv.data.toList = rtx s ts (tk.take k)) := hsv
      have HBR : Hid (Below w3.heap.size w3 wr) := hbel
      have HWR : Hid (Below w.heap.size w wr) := HW3.out.trans (hbel.mono HW3.out.size)
      have hsz : sv.size ≤ 1099512676352 := by
        rw [← bytes_size, hsv]
        have h1 := rtx_len s ts tk k hk
        have h2 : k * (s.size + 1) ≤ 1048576 * 1048577 := Nat.mul_le_mul (by omega) (by omega)
        exact Nat.le_trans h1 h2
      clear hsv
      by_cases hlt : k < tk.length
      · obtain ⟨y, hy⟩ : ∃ e, tk[k]? = some e := ⟨_, List.getElem?_eq_getElem hlt⟩
        obtain ⟨j, rfl, hjl⟩ := HTM.out y (List.mem_of_getElem? hy)
        obtain ⟨p, hp⟩ : ∃ e, ts[j]? = some e := ⟨_, List.getElem?_eq_getElem hjl⟩
        have HST : Hid (rtx s ts (tk.take (k + 1)) = stp s p (rtx s ts (tk.take k))) := rtx_step hy hp
        rcases HL3.out with h0 | ⟨b3, o3, rfl, hL3⟩
        · rw [h0] at hlt; simp at hlt
        rcases H1.out with h0 | ⟨b1, o1, rfl, hL1⟩
        · rw [h0] at hjl; simp at hjl
        have ycell := hL3.int hbel hy
        obtain ⟨t0, t1, t2⟩ := hL1.tk HWR.out hp
        have HPF : Hid (TkFit p) := HF1.out p (List.mem_of_getElem? hp)
        have hlt' : (k : Int) < (tk.length : Int) := by omega
        have hjl' : (j : Int) < (ts.length : Int) := by omega
        have hwl := wrd_le s p
        have hwz : (wrd s p).size ≤ s.size := by rw [← bytes_size]; exact hwl
        clear hy hp hL3 hL1 hbel hwl
        go_upto_region 9 with (first
          | (go_at_call 33; refine (rWord_any s p _ (by omega) HPF.out).mono ?_; rintro e w7 ⟨rfl, hb7⟩; have HB7 : Hid (Below wr.heap.size wr w7) := hb7; clear hb7)
          | fail)
        have HB37 : Hid (Below w3.heap.size w3 w7) := HBR.out.trans (HB7.out.mono HBR.out.size)
        clear ycell t0 t1 t2
        cases hem : (wrd s p).toList.isEmpty with
        | true =>
          have HS : Hid ((sv ++ wrd s p).data.toList = rtx s ts (tk.take (k + 1))) := by
            unfold Hid; rw [HST.out, stp_none hem, cat_list, emp.1 hem, List.append_nil, HSV.out]
          generalize wrd s p = v at *
          go_wp2
          go_roundw
          case rel => exact ⟨k + 1, _, by omega, by go_num, rfl, HS.out, HB37.out⟩
          case measure => simp [intOf]; omega
        | false =>
          cases hse : sv.toList.isEmpty with
          | true =>
            have HS : Hid ((sv ++ wrd s p).data.toList = rtx s ts (tk.take (k + 1))) := by
              unfold Hid; rw [HST.out, stp_first hem (by rw [← HSV.out]; exact emp.1 hse), cat_list, emp.1 hse, List.nil_append]
            generalize wrd s p = v at *
            go_wp2
            go_roundw
            case rel => exact ⟨k + 1, _, by omega, by go_num, rfl, HS.out, HB37.out⟩
            case measure => simp [intOf]; omega
          | false =>
            have HS : Hid (((sv ++ (⟨#[32]⟩ : ByteArray)) ++ wrd s p).data.toList = rtx s ts (tk.take (k + 1))) := by
              unfold Hid; rw [HST.out, stp_next hem (by rw [← HSV.out]; exact emp'.1 hse), cat_list, cat_list, ← HSV.out, List.append_assoc]; rfl
            generalize wrd s p = v at *
            go_wp2
            go_roundw
            case rel => exact ⟨k + 1, _, by omega, by go_num, rfl, HS.out, HB37.out⟩
            case measure => simp [intOf]; omega
      · have HS : Hid (⟨(tex s ts ns m).toArray⟩ = sv) := by
          unfold Hid; rw [HR.out, ← List.take_of_length_le (l := tk) (i := k) (by omega), ← HSV.out]
        clear hbel
        go_wp2
        go_ret
        exact ⟨ret_s HS.out.symm, HWR.out⟩
  · have HR : Hid (tex s ts ns m = []) := tex_no (by omega)
    go_enter Tryd.func20, Tryd.ntmps20
    go_upto_region 1 with fail
    rw [HE2.out]
    go_wp2
    go_ret
    exact ⟨ret_s (by rw [HR.out]), HB0.out⟩
end Go.Proofs.YtaploloedocgbaaDoor
