import Derived.Test.YteafgddfcohclabNms
namespace Go.Proofs.Yteafgddfcohclab
open Go.ChangeShapes Go.WideShapes Go.ChangeAt Go.RowKit
set_option linter.unusedVariables false

/-- is a word a name's? -/
def okW (v : ByteArray) : Bool := !v.toList.isEmpty && !(v.toList == [95])
/-- is a node an occurrence? -/
def nmB (s : ByteArray) (ts : List Tk) (x : Nd) : Bool := x.k == 45 && decide (0 ≤ x.f) && (match ts[x.f.toNat]? with | none => false | some p => p.k == 2 && okW (wrd s p))
/-- the occurrences -/
def nms (s : ByteArray) (ts : List Tk) (ns : List Nd) : List Int := (ns.filter (nmB s ts)).map (·.f)

theorem nms_yes {s : ByteArray} {ts : List Tk} {ns : List Nd} {k : Nat} {x : Nd} (hx : ns[k]? = some x) (h : nmB s ts x = true) : nms s ts (ns.take (k + 1)) = nms s ts (ns.take k) ++ [x.f] := by
  unfold nms; rw [List.take_add_one, hx]; simp [h]
theorem nms_no {s : ByteArray} {ts : List Tk} {ns : List Nd} {k : Nat} {x : Nd} (hx : ns[k]? = some x) (h : nmB s ts x = false) : nms s ts (ns.take (k + 1)) = nms s ts (ns.take k) := by
  unfold nms; rw [List.take_add_one, hx]; simp [h]
theorem nms_len (s : ByteArray) (ts : List Tk) (ns : List Nd) : (nms s ts ns).length ≤ ns.length := by
  unfold nms; rw [List.length_map]; exact List.length_filter_le _ _

set_option maxRecDepth 1000000 in
set_option maxHeartbeats 2000000 in
theorem names_any (s : ByteArray) (a1 a2 : Option Addr) (c1 c2 : Nat) (ts : List Tk) (ns : List Nd) (w : World) (h1 : LiesA w a1 ts) (h2 : LiesA w a2 ns) (hl1 : ts.length * 24 ≤ 140737488351232) (hl2 : ns.length * 32 ≤ 140737488351232)
    (hs : s.size ≤ 140737488351232) (hf1 : ∀ e ∈ ts, TkFit e) :
    Calls Try.prog 10 #[.string s, .slice a1 ts.length c1, .agg #[.slice a2 ns.length c2]] w fun e w' => ∃ v, e = .returned v ∧
      w'.ownsRow w.heap.size 3 1 v (nms s ts ns).length (flat (nms s ts ns)) ∧ Below w.heap.size w w' := by
  obtain ⟨i0, hi, hz0, hz1, hz2⟩ := info_parts infoInt
  have H1 : Hid (LiesA w a1 ts) := h1
  have H2 : Hid (LiesA w a2 ns) := h2
  have HF1 : Hid (∀ e ∈ ts, TkFit e) := hf1
  obtain ⟨w2, e2, hw, hs2, B0⟩ := bx1 w #[.slice a2 ns.length c2] 25
  have HB0 : Hid (Below w.heap.size w w2) := hw
  have HX0 : Hid (Bx w2 w.heap.size #[.slice a2 ns.length c2] 25) := B0
  have HS2 : Hid (w2.heap.size = w.heap.size + 1) := hs2
  have HE2 : Hid (w.alloc (.cells #[.slice a2 ns.length c2] 25) = w2) := e2
  have x0 := B0.one
  clear h1 h2 hf1 hw hs2 B0 e2
  go_enter Try.func10, Try.ntmps10
  go_upto_region 1 with fail
  rw [HE2.out]
  go_wp2
  go_loopw [7, 15] (fun v i wr => ∃ k : Nat, k ≤ ns.length ∧ i = .int .i64 k ∧ Below (w.heap.size + 1) w2 wr ∧ wr.ownsRow (w.heap.size + 1) 3 1 v (nms s ts (ns.take k)).length (flat (nms s ts (ns.take k)))) (fun _ i _ => ns.length - (intOf i).toNat)
  case atStart => exact ⟨0, Nat.zero_le _, rfl, Below.refl _ _, World.ownsRow_nil _ _ _ _⟩
  case round =>
    obtain ⟨k, hk, rfl, hbel, hown⟩ := hrel
    have HB : Hid (Below (w.heap.size + 1) w2 wr) := hbel
    have hlt1 : Hid (∀ k, u7.ownBlock = some k → w.heap.size + 1 ≤ k ∧ k < wr.heap.size) := hown.lt
    have HO : Hid (wr.ownsRow (w.heap.size + 1) 3 1 u7 (nms s ts (ns.take k)).length (flat (nms s ts (ns.take k)))) := hown
    have hwb : Below w.heap.size w wr := HB0.out.trans (hbel.mono (by omega))
    have HWB : Hid (Below w.heap.size w wr) := hwb
    have hsr : w.heap.size + 1 ≤ wr.heap.size := by have := hbel.size; have := HS2.out; omega
    have hnl : (nms s ts (ns.take k)).length ≤ k := by have := nms_len s ts (ns.take k); simp at this; omega
    clear hbel hown x0
    by_cases hlt : k < ns.length
    · obtain ⟨x, hx⟩ : ∃ e, ns[k]? = some e := ⟨_, List.getElem?_eq_getElem hlt⟩
      rcases H2.out with rfl | ⟨b2, o2, rfl, hL2⟩
      · simp at hlt
      have hb2 : b2 < wr.heap.size := by have := hL2.1; omega
      obtain ⟨d0, d1, d2, d3⟩ := hL2.nd hwb hx
      have HX : Hid (ns[k]? = some x) := hx
      clear hx hL2 hwb
      have hlt' : (k : Int) < (ns.length : Int) := by omega
      by_cases g1 : x.k = 45
      · by_cases g2 : x.f < 0
        · have HS : Hid (nms s ts (ns.take (k + 1)) = nms s ts (ns.take k)) := nms_no HX.out (by unfold nmB; rw [decide_eq_false (by omega)]; simp)
          go_wp2
          go_roundw
          case rel => exact ⟨k + 1, by omega, by go_num, HB.out.alloc hsr _, own_eq (HO.out.alloc _) HS.out.symm⟩
          case measure => simp [intOf]; omega
        · obtain ⟨m, hm⟩ : ∃ m : Nat, x.f = m := ⟨x.f.toNat, by omega⟩
          rw [hm] at d1
          clear g2
          by_cases g3 : m < ts.length
          · obtain ⟨p, hp⟩ : ∃ e, ts[m]? = some e := ⟨_, List.getElem?_eq_getElem g3⟩
            rcases H1.out with rfl | ⟨b1, o1, rfl, hL1⟩
            · simp at g3
            have hb1 : b1 < wr.heap.size := by have := hL1.1; omega
            obtain ⟨t0, t1, t2⟩ := hL1.tk HWB.out hp
            have hfit := HF1.out p (List.mem_of_getElem? hp)
            have HN : Hid (nmB s ts x = (p.k == 2 && okW (wrd s p))) := by
              unfold Hid nmB; rw [g1, hm, Int.toNat_natCast, hp]; simp
            have g3' : (m : Int) < (ts.length : Int) := by omega
            have HFT : Hid (TkFit p) := hfit
            clear hp hL1 hfit
            by_cases g4 : p.k = 2
            · rw [g4] at t0
              have HWD : Hid (nmB s ts x = okW (wrd s p)) := by unfold Hid; rw [HN.out, g4]; simp
              have HPK : Hid (p.k = 2) := g4
              clear g4 HN
              go_wp2_with fail
              refine (word_any s ⟨2, p.f, p.t⟩ _ hs ⟨by simp, HFT.out.2.1, HFT.out.2.2⟩).mono ?_
              rintro e w4 ⟨rfl, hb4⟩
              have hv : wrd s ⟨2, p.f, p.t⟩ = wrd s p := rfl
              rw [hv]
              clear hv
              have HB4 : Hid (Below (w.heap.size + 1) w2 w4) := (HB.out.alloc hsr _).trans (hb4.mono (by simp; omega))
              have HO4 : Hid (w4.ownsRow (w.heap.size + 1) 3 1 u7 (nms s ts (ns.take k)).length (flat (nms s ts (ns.take k)))) := ownsRow_below (HO.out.alloc _) hb4 (Nat.le_refl _)
              have hs4 : wr.heap.size + 1 ≤ w4.heap.size := by have := hb4.size; simpa using this
              have n1 : w4.cell? ⟨wr.heap.size, 1, none⟩ = some (.int .i64 m) := (hb4.cell (p := ⟨wr.heap.size, 1, none⟩) (by simp)).trans (by simp)
              generalize wrd s p = v at *
              clear hb4
              cases hok : okW v with
              | true =>
                have HS : Hid (nms s ts (ns.take (k + 1)) = nms s ts (ns.take k) ++ [(m : Int)]) := by
                  unfold Hid; rw [nms_yes HX.out (by rw [HWD.out]; exact hok), hm]
                unfold okW at hok
                simp only [Bool.and_eq_true, Bool.not_eq_true'] at hok
                obtain ⟨k1, k2⟩ := hok
                go_wp2_with (at_builtin; (refine wpList_append_own _ rfl (.tmp 54) (.tmp 56) 30 rfl (w.heap.size + 1) 3 i0 (.int .i64 0) 1 8 Try.underlying30 hi hz0 hz1 hz2 rfl (by decide) _ _ _ rfl (HO4.out.alloc _) ⟨w4.heap.size, 0, none⟩ 1 1 (flat [(m : Int)]) rfl rfl (cells_new w4 (flat [(m : Int)]) 3) (flat_oneCell _) ?_ ?_ ?_ ?_))
                case refine_1 => unfold maxLen; omega
                case refine_2 => omega
                case refine_3 => simp; omega
                intro v5 w5 hown5 hgrow5 _
                have HB5 : Hid (Below (w.heap.size + 1) w2 w5) := (HB4.out.alloc (by omega) _).grown hgrow5 (by simp; omega) (fun k h => (hlt1.out k h).1)
                have HO5 : Hid (w5.ownsRow (w.heap.size + 1) 3 1 v5 (nms s ts (ns.take k) ++ [(m : Int)]).length (flat (nms s ts (ns.take k) ++ [(m : Int)]))) := by
                  unfold Hid; rw [flat_append, List.length_append]; exact hown5
                clear hgrow5 hown5
                go_wp2
                go_roundw
                case rel => exact ⟨k + 1, by omega, by go_num, HB5.out, own_eq HO5.out HS.out.symm⟩
                case measure => simp [intOf]; omega
              | false =>
                have HS : Hid (nms s ts (ns.take (k + 1)) = nms s ts (ns.take k)) := nms_no HX.out (by rw [HWD.out]; exact hok)
                cases hem : v.toList.isEmpty with
                | true =>
                  go_wp2
                  go_roundw
                  case rel => exact ⟨k + 1, by omega, by go_num, HB4.out, own_eq HO4.out HS.out.symm⟩
                  case measure => simp [intOf]; omega
                | false =>
                  have k2 : (v.toList == [95]) = true := by unfold okW at hok; rw [hem] at hok; simpa using hok
                  go_wp2
                  go_roundw
                  case rel => exact ⟨k + 1, by omega, by go_num, HB4.out, own_eq HO4.out HS.out.symm⟩
                  case measure => simp [intOf]; omega
            · have HS : Hid (nms s ts (ns.take (k + 1)) = nms s ts (ns.take k)) := nms_no HX.out (by rw [HN.out]; simp [g4])
              have g4' : (p.k != 2) = true := by simp [g4]
              clear g4
              go_wp2
              go_roundw
              case rel => exact ⟨k + 1, by omega, by go_num, HB.out.alloc hsr _, own_eq (HO.out.alloc _) HS.out.symm⟩
              case measure => simp [intOf]; omega
          · have HS : Hid (nms s ts (ns.take (k + 1)) = nms s ts (ns.take k)) := nms_no HX.out (by unfold nmB; rw [hm, Int.toNat_natCast, List.getElem?_eq_none (by omega)]; simp)
            go_wp2
            go_roundw
            case rel => exact ⟨k + 1, by omega, by go_num, HB.out.alloc hsr _, own_eq (HO.out.alloc _) HS.out.symm⟩
            case measure => simp [intOf]; omega
      · have HS : Hid (nms s ts (ns.take (k + 1)) = nms s ts (ns.take k)) := nms_no HX.out (by unfold nmB; simp [g1])
        go_wp2
        go_roundw
        case rel => exact ⟨k + 1, by omega, by go_num, HB.out.alloc hsr _, own_eq (HO.out.alloc _) HS.out.symm⟩
        case measure => simp [intOf]; omega
    · have HS : Hid (nms s ts (ns.take k) = nms s ts ns) := by unfold Hid; rw [List.take_of_length_le (by omega)]
      clear hwb
      go_wp2
      go_ret
      exact ⟨_, rfl, own_base (own_eq HO.out HS.out) (by omega), HWB.out⟩
end Go.Proofs.Yteafgddfcohclab
