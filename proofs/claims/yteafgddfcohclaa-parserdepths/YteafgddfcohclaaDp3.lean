import Derived.Test.YteafgddfcohclaaDp2
namespace Go.Proofs.Yteafgddfcohclaa
open Go.ChangeShapes Go.WideShapes Go.ChangeAt Go.RowKit
set_option linter.unusedVariables false

theorem ret_n {a b : Nat} (h : a = b) : Ending.returned (.int .i64 (a : Int)) = .returned (.int .i64 (b : Int)) := by rw [h]

set_option maxRecDepth 1000000 in
set_option maxHeartbeats 4000000 in
theorem depth_any (a : Option Addr) (cap : Nat) (ns : List Nd) (w : World) (h : LiesA w a ns) (hl : ns.length * 32 ≤ 140737488351232) :
    Calls Try.prog 10 #[.agg #[.slice a ns.length cap]] w fun e w' => e = .returned (.int .i64 (dpt ns : Int)) ∧ Below w.heap.size w w' := by
  obtain ⟨i0, hi, hz0, hz1, hz2⟩ := info_parts infoInt
  have HL : Hid (LiesA w a ns) := h
  obtain ⟨w2, e2, hw, hs2, B0⟩ := bx1 w #[.slice a ns.length cap] 24
  have HB0 : Hid (Below w.heap.size w w2) := hw
  have HX0 : Hid (Bx w2 w.heap.size #[.slice a ns.length cap] 24) := B0
  have HS2 : Hid (w2.heap.size = w.heap.size + 1) := hs2
  have HE2 : Hid (w.alloc (.cells #[.slice a ns.length cap] 24) = w2) := e2
  have x0 := B0.one
  clear h hw hs2 B0 e2
  go_enter Try.func10, Try.ntmps10
  go_upto_region 1 with fail
  rw [HE2.out]
  go_wp2
  go_loopw [3, 4, 11] (fun dd v i wr => ∃ (k d : Nat) (es : List Nat), k ≤ ns.length ∧ d ≤ k ∧ dd = .int .i64 d ∧ i = .int .i64 k ∧ Below (w.heap.size + 1) w2 wr ∧ wr.ownsRow (w.heap.size + 1) 3 1 v (ups es).length (flat (ups es)) ∧ ((k = 0 ∧ es = [] ∧ d = 0 ∧ v = .slice none 0 0) ∨ (1 ≤ k ∧ Opn ns k es d))) (fun _ _ i _ => ns.length - (intOf i).toNat)
  case atStart => exact ⟨0, 0, [], Nat.zero_le _, Nat.le_refl _, rfl, rfl, Below.refl _ _, World.ownsRow_nil _ _ _ _, .inl ⟨rfl, rfl, rfl, rfl⟩⟩
  case round =>
    obtain ⟨k, d, es, hk, hdk, rfl, rfl, hbel, hown, hst⟩ := hrel
    have HB : Hid (Below (w.heap.size + 1) w2 wr) := hbel
    have HO : Hid (wr.ownsRow (w.heap.size + 1) 3 1 u4 (ups es).length (flat (ups es))) := hown
    have hwb : Below w.heap.size w wr := HB0.out.trans (hbel.mono (by omega))
    have HWB : Hid (Below w.heap.size w wr) := hwb
    have y0 := (HX0.out.below hbel (by omega)).one
    have hsr : w.heap.size + 1 ≤ wr.heap.size := by have := hbel.size; have := HS2.out; omega
    have hlt0 : w.heap.size < wr.heap.size := by omega
    clear hbel hown x0
    by_cases hlt : k < ns.length
    · obtain ⟨x, hx⟩ : ∃ e, ns[k]? = some e := ⟨_, List.getElem?_eq_getElem hlt⟩
      rcases HL.out with rfl | ⟨b2, o2, rfl, hL2⟩
      · simp at hlt
      have hb2 : b2 < wr.heap.size := by have := hL2.1; omega
      obtain ⟨d0, d1, d2, d3⟩ := hL2.nd hwb hx
      have HX : Hid (ns[k]? = some x) := hx
      clear hx hL2 hwb
      have hlt' : (k : Int) < (ns.length : Int) := by omega
      obtain ⟨w3, e3, hb3, hs3, B3⟩ := bx1 wr #[.int .u8 x.k, .int .i64 x.f, .int .i64 x.e, .int .i64 x.s] 44
      have HE3 : Hid (wr.alloc (.cells #[.int .u8 x.k, .int .i64 x.f, .int .i64 x.e, .int .i64 x.s] 44) = w3) := e3
      have z0 : w3.cell? ⟨w.heap.size, 0, none⟩ = some (.slice (some ⟨b2, o2, none⟩) ns.length cap) := (hb3.cell (p := ⟨w.heap.size, 0, none⟩) hlt0).trans y0
      have z1 : w3.cell? ⟨wr.heap.size, 3, none⟩ = some (.int .i64 x.s) := B3.cell 3
      have HBX : Hid (Bx w3 wr.heap.size #[.int .u8 x.k, .int .i64 x.f, .int .i64 x.e, .int .i64 x.s] 44) := B3
      have HB3 : Hid (Below (w.heap.size + 1) w2 w3) := HB.out.trans (hb3.mono hsr)
      have HW3 : Hid (Below w.heap.size w w3) := HWB.out.trans (hb3.mono (by omega))
      have hs3' : wr.heap.size < w3.heap.size := by omega
      have HO3 : Hid (w3.ownsRow (w.heap.size + 1) 3 1 u4 (ups es).length (flat (ups es))) := ownsRow_below HO.out hb3 (Nat.le_refl _)
      clear e3 hb3 hs3 B3
      have HST : Hid ((k = 0 ∧ es = [] ∧ d = 0 ∧ u4 = .slice none 0 0) ∨ (1 ≤ k ∧ Opn ns k es d)) := hst
      clear hst
      go_wp2
      rw [HE3.out]
      clear d0 d1 d2 d3 y0
      rcases HST.out with ⟨hk0, rfl, rfl, rfl⟩ | ⟨hk1, hop⟩
      · have hx0 : Hid (ns[0]? = some x) := by unfold Hid; rw [← hk0]; exact HX.out
        refine wp_loop_rounds 1 ?_
        rw [rounds_succ]
        have HK0 : Hid (k = 0) := hk0
        by_cases hg : x.s = (ns.length : Int)
        · have HOP : Hid (Opn ns 1 [ns.length] 1) := Opn.start hx0.out hg (by omega)
          rw [hg] at z1
          clear hg
          go_wp2_with (at_builtin; (refine wpList_append_own _ rfl (.tmp 67) (.tmp 72) 33 rfl (w.heap.size + 1) 3 i0 (.int .i64 0) 1 8 Try.underlying33 hi hz0 hz1 hz2 rfl (by decide) _ _ _ rfl (HO3.out.alloc _) ⟨w3.heap.size, 0, none⟩ 1 1 (flat [(ns.length : Int)]) rfl rfl (cells_new w3 (flat [(ns.length : Int)]) 3) (flat_oneCell _) ?_ ?_ ?_ ?_))
          case refine_1 => unfold maxLen; simp [ups]
          case refine_2 => simp [ups]
          case refine_3 => omega
          intro v5 w5 hown5 hgrow5 _
          have HB5 : Hid (Below (w.heap.size + 1) w2 w5) := (HB3.out.alloc (by omega) _).grown hgrow5 (by simp; omega) (fun k h => by cases h)
          have hown5' : w5.ownsRow (w.heap.size + 1) 3 1 v5 (ups [ns.length]).length (flat (ups [ns.length])) := hown5
          obtain ⟨a5, c5, rfl, _, _, _⟩ := own_form hown5'
          have HO5 : Hid (w5.ownsRow (w.heap.size + 1) 3 1 (.slice a5 (ups [ns.length]).length c5) (ups [ns.length]).length (flat (ups [ns.length]))) := hown5'
          clear hgrow5 hown5 hown5'
          rw [show (ups [ns.length]).length = 1 from rfl]
          go_wp2
          go_roundw
          case rel => exact ⟨1, 1, [ns.length], by omega, by omega, by go_num, by go_num, HB5.out, HO5.out, .inr ⟨by omega, HOP.out⟩⟩
          case measure => simp [intOf]; omega
        · have HR : Hid (dpt ns = 0) := dpt_bad hx0.out hg
          by_cases g1 : x.s < 1
          · go_wp2
            go_ret
            exact ⟨ret_n HR.out.symm, HW3.out⟩
          · by_cases g2 : (ns.length : Int) < x.s
            · go_wp2
              go_ret
              exact ⟨ret_n HR.out.symm, HW3.out⟩
            · have hg' : (x.s != (ns.length : Int)) = true := by simp [hg]
              go_wp2
              go_ret
              exact ⟨ret_n HR.out.symm, HW3.out⟩
      · have HOP : Hid (Opn ns k es d) := hop
        clear hop HST
        have hk1' : (0 : Int) < (k : Int) := by omega
        go_loopg [4] es.length (fun gk v wr2 => ∃ es' : List Nat, gk = es'.length ∧ w3 = wr2 ∧ w3.ownsRow (w.heap.size + 1) 3 1 v (ups es').length (flat (ups es')) ∧ Opn ns k es' d)
        case atStart => exact ⟨es, rfl, rfl, HO3.out, HOP.out⟩
        case round =>
          obtain ⟨es', rfl, rfl, hown', hop'⟩ := hrel
          obtain ⟨e, r, rfl⟩ : ∃ e r, es' = e :: r := by
            cases es' with
            | nil => have := hop'.me; simp at this
            | cons e r => exact ⟨e, r, rfl⟩
          have hul : (ups (e :: r)).length = r.length + 1 := by rw [ups_length]; rfl
          rw [hul] at hown'
          obtain ⟨g, c4, rfl⟩ : ∃ g c4, u4 = .slice (some ⟨g, 0, none⟩) (r.length + 1) c4 := by
            rcases hown'.2 with ⟨_, h0⟩ | ⟨g, c4, cur, hv, _⟩
            · omega
            · exact ⟨g, c4, hv⟩
          have hcell : w3.cell? ⟨g, r.length, none⟩ = some (.int .i64 e) := by
            have := (Lies.own (α := Int) hown').int (Below.refl _ _) (ups_top e r)
            simpa using this
          have hcap : r.length + 1 ≤ c4 := by
            rcases hown'.2 with ⟨_, h0⟩ | ⟨g', c4', cur, hv, _, _, hc, _⟩
            · omega
            · cases hv; exact hc
          have HO4 : Hid (w3.ownsRow (w.heap.size + 1) 3 1 (.slice (some ⟨g, 0, none⟩) (r.length + 1) c4) (r.length + 1) (flat (ups (e :: r)))) := hown'
          have HP : Hid (Opn ns k (e :: r) d) := hop'
          have hrd : r.length + 1 ≤ d := by have := hop'.le; simpa using this
          have hge := (hop'.ge e (by simp))
          clear hown' hop' hul
          by_cases hek : e = k
          · subst hek
            have HP' : Hid (Opn ns e r d) := HP.out.pop hlt
            have HO5 : Hid (w3.ownsRow (w.heap.size + 1) 3 1 (.slice (some ⟨g, 0, none⟩) r.length c4) (ups r).length (flat (ups r))) := by
              unfold Hid
              rw [ups_length]
              exact own_shrink (y := (e : Int)) (by rw [ups_length]) (by rw [← ups_cons]; exact HO4.out)
            clear HP
            go_wp2
            go_roundg r.length
            case measure => simp
            case rel => exact ⟨r, rfl, by trivial, HO5.out, HP'.out⟩
          · have hke : k < e := by omega
            have hek' : ((e : Int) == (k : Int)) = false := by simp; omega
            by_cases g1 : 1 ≤ x.s
            · by_cases g2 : x.s ≤ (e : Int) - k
              · obtain ⟨z, hz⟩ : ∃ z : Nat, x.s = z := ⟨x.s.toNat, by omega⟩
                have HPU : Hid (Opn ns (k + 1) ((k + z) :: e :: r) (max d (r.length + 2))) := HP.out.push hke HX.out hz (by omega) (by omega)
                rw [hz] at z1 g1 g2
                clear hz
                by_cases g3 : d < r.length + 2
                · go_wp2_with (at_builtin; (refine wpList_append_own _ rfl (.tmp 67) (.tmp 72) 33 rfl (w.heap.size + 1) 3 i0 (.int .i64 0) 1 8 Try.underlying33 hi hz0 hz1 hz2 rfl (by decide) _ _ _ rfl (HO4.out.alloc _) ⟨w3.heap.size, 0, none⟩ 1 1 (flat [((k + z : Nat) : Int)]) rfl rfl (cells_new w3 (flat [((k + z : Nat) : Int)]) 3) (flat_oneCell _) ?_ ?_ ?_ ?_))
                  case refine_1 => unfold maxLen; omega
                  case refine_2 => omega
                  case refine_3 => simp; omega
                  intro v5 w5 hown5 hgrow5 _
                  have HB5 : Hid (Below (w.heap.size + 1) w2 w5) := (HB3.out.alloc (by omega) _).grown hgrow5 (by simp; omega) (fun k h => (HO4.out.lt k h).1)
                  have hown5' : w5.ownsRow (w.heap.size + 1) 3 1 v5 (ups ((k + z) :: e :: r)).length (flat (ups ((k + z) :: e :: r))) := by
                    rw [ups_length, ups_cons (k + z), flat_append]
                    exact hown5
                  have hul : (ups ((k + z) :: e :: r)).length = r.length + 2 := by rw [ups_length]; rfl
                  obtain ⟨a5, c5, rfl, _, _, _⟩ := own_form hown5'
                  have HO5 : Hid (w5.ownsRow (w.heap.size + 1) 3 1 (.slice a5 (ups ((k + z) :: e :: r)).length c5) (ups ((k + z) :: e :: r)).length (flat (ups ((k + z) :: e :: r)))) := hown5'
                  have HU : Hid ((ups ((k + z) :: e :: r)).length = r.length + 2) := hul
                  clear hgrow5 hown5 hown5' hul
                  rw [HU.out]
                  go_wp2
                  go_roundw
                  case rel => exact ⟨k + 1, r.length + 2, (k + z) :: e :: r, by omega, by omega, by go_num, by go_num, HB5.out, by rw [HU.out] at HO5; rw [HU.out]; exact HO5.out, .inr ⟨by omega, by have := HPU.out; rw [Nat.max_eq_right (by omega)] at this; exact this⟩⟩
                  case measure => simp [intOf]; omega
                · go_wp2_with (at_builtin; (refine wpList_append_own _ rfl (.tmp 67) (.tmp 72) 33 rfl (w.heap.size + 1) 3 i0 (.int .i64 0) 1 8 Try.underlying33 hi hz0 hz1 hz2 rfl (by decide) _ _ _ rfl (HO4.out.alloc _) ⟨w3.heap.size, 0, none⟩ 1 1 (flat [((k + z : Nat) : Int)]) rfl rfl (cells_new w3 (flat [((k + z : Nat) : Int)]) 3) (flat_oneCell _) ?_ ?_ ?_ ?_))
                  case refine_1 => unfold maxLen; omega
                  case refine_2 => omega
                  case refine_3 => simp; omega
                  intro v5 w5 hown5 hgrow5 _
                  have HB5 : Hid (Below (w.heap.size + 1) w2 w5) := (HB3.out.alloc (by omega) _).grown hgrow5 (by simp; omega) (fun k h => (HO4.out.lt k h).1)
                  have hown5' : w5.ownsRow (w.heap.size + 1) 3 1 v5 (ups ((k + z) :: e :: r)).length (flat (ups ((k + z) :: e :: r))) := by
                    rw [ups_length, ups_cons (k + z), flat_append]
                    exact hown5
                  have hul : (ups ((k + z) :: e :: r)).length = r.length + 2 := by rw [ups_length]; rfl
                  obtain ⟨a5, c5, rfl, _, _, _⟩ := own_form hown5'
                  have HO5 : Hid (w5.ownsRow (w.heap.size + 1) 3 1 (.slice a5 (ups ((k + z) :: e :: r)).length c5) (ups ((k + z) :: e :: r)).length (flat (ups ((k + z) :: e :: r)))) := hown5'
                  have HU : Hid ((ups ((k + z) :: e :: r)).length = r.length + 2) := hul
                  clear hgrow5 hown5 hown5' hul
                  rw [HU.out]
                  go_wp2
                  go_roundw
                  case rel => exact ⟨k + 1, d, (k + z) :: e :: r, by omega, by omega, by go_num, by go_num, HB5.out, by rw [HU.out] at HO5; rw [HU.out]; exact HO5.out, .inr ⟨by omega, by have := HPU.out; rw [Nat.max_eq_left (by omega)] at this; exact this⟩⟩
                  case measure => simp [intOf]; omega
              · have HR : Hid (dpt ns = 0) := HP.out.bad hke HX.out (by omega)
                go_wp2
                go_ret
                exact ⟨ret_n HR.out.symm, HW3.out⟩
            · have HR : Hid (dpt ns = 0) := HP.out.bad hke HX.out (by omega)
              go_wp2
              go_ret
              exact ⟨ret_n HR.out.symm, HW3.out⟩
    · have hkl : k = ns.length := by omega
      subst hkl
      have HR : Hid (dpt ns = d) := by
        rcases hst with ⟨h0, rfl, rfl, _⟩ | ⟨hk1, hop⟩
        · unfold Hid dpt; rw [List.getElem?_eq_none (by omega)]
        · exact hop.done
      clear hwb hst
      go_wp2
      go_ret
      exact ⟨ret_n HR.out.symm, HWB.out⟩
end Go.Proofs.Yteafgddfcohclaa
