import Derived.Test.YteafgddfcohclabSp
namespace Go.Proofs.Yteafgddfcohclab
open Go.ChangeShapes Go.WideShapes Go.ChangeAt Go.RowKit
set_option linter.unusedVariables false

/-- is the i-th piece a token? -/
def tkAt (ts : List Tk) (i : Nat) : Bool := match ts[i]? with | some p => tokB p | none => false
/-- the tokens among n pieces from b on -/
def tkl (ts : List Tk) (b n : Nat) : List Int := ((List.range' b n).filter (tkAt ts)).map Int.ofNat

theorem tkl_yes {ts : List Tk} {b n : Nat} {p : Tk} (hp : ts[b + n]? = some p) (h : tokB p = true) : tkl ts b (n + 1) = tkl ts b n ++ [((b + n : Nat) : Int)] := by
  have ht : tkAt ts (b + n) = true := by unfold tkAt; rw [hp]; exact h
  unfold tkl; rw [List.range'_1_concat, List.filter_append, List.filter_cons_of_pos ht]; simp
theorem tkl_no {ts : List Tk} {b n : Nat} {p : Tk} (hp : ts[b + n]? = some p) (h : tokB p = false) : tkl ts b (n + 1) = tkl ts b n := by
  have ht : tkAt ts (b + n) = false := by unfold tkAt; rw [hp]; exact h
  unfold tkl; rw [List.range'_1_concat, List.filter_append, List.filter_cons_of_neg (by simp [ht])]; simp
theorem tkl_len (ts : List Tk) (b n : Nat) : (tkl ts b n).length ≤ n := by
  unfold tkl; rw [List.length_map]; exact Nat.le_trans (List.length_filter_le _ _) (by simp)

set_option maxRecDepth 1000000 in
set_option maxHeartbeats 2000000 in
theorem tokens_any (x : Nd) (a : Option Addr) (cap : Nat) (ts : List Tk) (w : World) (h : LiesA w a ts) (hl : ts.length * 24 ≤ 140737488351232) (hx : NdFit x) :
    Calls Try.prog 29 #[.slice a ts.length cap, .agg #[.int .u8 x.k, .int .i64 x.f, .int .i64 x.e, .int .i64 x.s]] w fun e w' => ∃ v, e = .returned v ∧
      w'.ownsRow w.heap.size 3 1 v (tkl ts (spB x ts.length) (spE x ts.length - spB x ts.length)).length (flat (tkl ts (spB x ts.length) (spE x ts.length - spB x ts.length))) ∧ Below w.heap.size w w' := by
  obtain ⟨i0, hi, hz0, hz1, hz2⟩ := info_parts infoInt
  have HL : Hid (LiesA w a ts) := h
  obtain ⟨w2, e2, hw, hs2, B0⟩ := bx1 w #[.int .u8 x.k, .int .i64 x.f, .int .i64 x.e, .int .i64 x.s] 48
  have HB0 : Hid (Below w.heap.size w w2) := hw
  have HX0 : Hid (Bx w2 w.heap.size #[.int .u8 x.k, .int .i64 x.f, .int .i64 x.e, .int .i64 x.s] 48) := B0
  have HS2 : Hid (w2.heap.size = w.heap.size + 1) := hs2
  have HE2 : Hid (w.alloc (.cells #[.int .u8 x.k, .int .i64 x.f, .int .i64 x.e, .int .i64 x.s] 48) = w2) := e2
  have x0 : w2.cell? ⟨w.heap.size, 1, none⟩ = some (.int .i64 x.f) := B0.cell 1
  obtain ⟨_, hxf, hxe, _⟩ := hx
  unfold In64 at hxf hxe
  clear h hw hs2 B0 e2
  have hc : x.f < 0 ∨ 0 ≤ x.f := by omega
  obtain ⟨f, hf⟩ : ∃ f : Nat, x.f.toNat = f := ⟨_, rfl⟩
  have HF : Hid (x.f.toNat = f) := hf
  have hf1 : (f : Int) ≤ 9223372036854775807 := by omega
  clear hf
  have hmax : x.f < 0 → f = 0 := fun h => by have := HF.out; omega
  have hmax2 : 0 ≤ x.f → x.f = (f : Int) := fun h => by have := HF.out; omega
  have HM1 : Hid (x.f < 0 → f = 0) := hmax
  have HM2 : Hid (0 ≤ x.f → x.f = (f : Int)) := hmax2
  clear hmax hmax2
  rcases hc with hc | hc
  all_goals
    go_enter Try.func29, Try.ntmps29
    go_upto_region 1 with fail
    rw [HE2.out]
    go_wp2
    go_loopw [5, 6] (fun v i wr => ∃ (k : Nat), f ≤ k ∧ (k = f ∨ ((k : Int) ≤ x.e ∧ k ≤ ts.length)) ∧ i = .int .i64 k ∧ Below (w.heap.size + 1) w2 wr ∧ wr.ownsRow (w.heap.size + 1) 3 1 v (tkl ts f (k - f)).length (flat (tkl ts f (k - f)))) (fun _ i _ => ts.length - (intOf i).toNat)
    case atStart => exact ⟨f, Nat.le_refl _, .inl rfl, by first | (rw [HM1.out hc]; rfl) | (rw [HM2.out hc]), Below.refl _ _, by rw [Nat.sub_self]; exact World.ownsRow_nil _ _ _ _⟩
    case round =>
      obtain ⟨k, hk, hke, rfl, hbel, hown⟩ := hrel
      have HB : Hid (Below (w.heap.size + 1) w2 wr) := hbel
      have hlt1 : Hid (∀ k, u5.ownBlock = some k → w.heap.size + 1 ≤ k ∧ k < wr.heap.size) := hown.lt
      have HO : Hid (wr.ownsRow (w.heap.size + 1) 3 1 u5 (tkl ts f (k - f)).length (flat (tkl ts f (k - f)))) := hown
      have hwb : Below w.heap.size w wr := HB0.out.trans (hbel.mono (by omega))
      have HWB : Hid (Below w.heap.size w wr) := hwb
      have hsr : w.heap.size + 1 ≤ wr.heap.size := by have := hbel.size; have := HS2.out; omega
      have hnl : (tkl ts f (k - f)).length ≤ k - f := tkl_len _ _ _
      have y0 : wr.cell? ⟨w.heap.size, 2, none⟩ = some (.int .i64 x.e) := (HX0.out.below hbel (by omega)).cell 2
      clear hbel hown x0
      have hfin : ¬ ((k : Int) < x.e ∧ k < ts.length) → tkl ts f (k - f) = tkl ts (spB x ts.length) (spE x ts.length - spB x ts.length) := by
        intro h
        have hfx := HF.out
        have hn : k - f = spE x ts.length - spB x ts.length := by unfold spE spB; omega
        rw [hn]
        by_cases h0 : spE x ts.length - spB x ts.length = 0
        · rw [h0]; simp [tkl]
        · have : spB x ts.length = f := by unfold spE spB at h0; unfold spB; omega
          rw [this]
      have HFIN : Hid (¬ ((k : Int) < x.e ∧ k < ts.length) → tkl ts f (k - f) = tkl ts (spB x ts.length) (spE x ts.length - spB x ts.length)) := hfin
      clear hfin
      by_cases h1 : (k : Int) < x.e
      · by_cases h2 : k < ts.length
        · obtain ⟨p, hp⟩ : ∃ e, ts[k]? = some e := ⟨_, List.getElem?_eq_getElem h2⟩
          rcases HL.out with rfl | ⟨b1, o1, rfl, hL1⟩
          · simp at h2
          obtain ⟨t0, t1, t2⟩ := hL1.tk hwb hp
          have h2' : (k : Int) < (ts.length : Int) := by omega
          have hp' : ts[f + (k - f)]? = some p := by rw [show f + (k - f) = k by omega]; exact hp
          have HP : Hid (ts[f + (k - f)]? = some p) := hp'
          have hkk : k + 1 - f = k - f + 1 := by omega
          have HKK : Hid (k + 1 - f = k - f + 1) := hkk
          clear hp hL1 hwb hp' hkk
          cases htk : tokB p with
          | true =>
            have HS : Hid (tkl ts f (k + 1 - f) = tkl ts f (k - f) ++ [(k : Int)]) := by
              unfold Hid; rw [HKK.out, tkl_yes HP.out htk]; congr 2; omega
            have HT : Hid ((p.k != 0 && p.k != 1) = true) := htk
            clear htk
            go_wp2_with (first | (go_at_call 38; refine (rtoken_any p.k _).mono ?_; rintro e w3 ⟨rfl, rfl⟩; rw [HT.out]) | (at_builtin; (refine wpList_append_own _ rfl (.tmp 28) (.tmp 30) 30 rfl (w.heap.size + 1) 3 i0 (.int .i64 0) 1 8 Try.underlying30 hi hz0 hz1 hz2 rfl (by decide) _ _ _ rfl (HO.out.alloc _) ⟨wr.heap.size, 0, none⟩ 1 1 (flat [(k : Int)]) rfl rfl (cells_new wr (flat [(k : Int)]) 3) (flat_oneCell _) ?_ ?_ ?_ ?_)))
            case refine_1 => unfold maxLen; omega
            case refine_2 => omega
            case refine_3 => simp; omega
            intro v5 w5 hown5 hgrow5 _
            have HB5 : Hid (Below (w.heap.size + 1) w2 w5) := (HB.out.alloc hsr _).grown hgrow5 (by simp; omega) (fun k h => (hlt1.out k h).1)
            have HO5 : Hid (w5.ownsRow (w.heap.size + 1) 3 1 v5 (tkl ts f (k - f) ++ [(k : Int)]).length (flat (tkl ts f (k - f) ++ [(k : Int)]))) := by
              unfold Hid; rw [flat_append, List.length_append]; exact hown5
            clear hgrow5 hown5
            go_wp2
            go_roundw
            case rel => exact ⟨k + 1, by omega, .inr ⟨by omega, by omega⟩, by go_num, HB5.out, own_eq HO5.out HS.out.symm⟩
            case measure => simp [intOf]; omega
          | false =>
            have HS : Hid (tkl ts f (k + 1 - f) = tkl ts f (k - f)) := by
              unfold Hid; rw [HKK.out, tkl_no HP.out htk]
            have HT : Hid ((p.k != 0 && p.k != 1) = false) := htk
            clear htk
            go_wp2_with (first | (go_at_call 38; refine (rtoken_any p.k _).mono ?_; rintro e w3 ⟨rfl, rfl⟩; rw [HT.out]) | fail)
            go_roundw
            case rel => exact ⟨k + 1, by omega, .inr ⟨by omega, by omega⟩, by go_num, HB.out, own_eq HO.out HS.out.symm⟩
            case measure => simp [intOf]; omega
        · have h2' : decide ((k : Int) < (ts.length : Int)) = false := by simp; omega
          have HS := HFIN.out (by omega)
          have HSS : Hid (tkl ts f (k - f) = tkl ts (spB x ts.length) (spE x ts.length - spB x ts.length)) := HS
          clear hwb HS
          go_wp2
          go_ret
          exact ⟨_, rfl, own_base (own_eq HO.out HSS.out) (by omega), HWB.out⟩
      · have HS := HFIN.out (by omega)
        have HSS : Hid (tkl ts f (k - f) = tkl ts (spB x ts.length) (spE x ts.length - spB x ts.length)) := HS
        clear hwb HS
        go_wp2
        go_ret
        exact ⟨_, rfl, own_base (own_eq HO.out HSS.out) (by omega), HWB.out⟩
end Go.Proofs.Yteafgddfcohclab
