import Derived.Test.YtgijcbipnjmhgaaSr7
import Derived.Test.YtgijcbipnjmhgaaSr8
import Derived.Test.YtgijcbipnjmhgaaSra
import Derived.Test.YtgijcbipnjmhgaaSrb
namespace Go.Proofs.Ytgijcbipnjmhgaa
open Go.ChangeShapes Go.WideShapes Go.ChangeAt Go.RowKit
set_option linter.unusedVariables false
set_option linter.unusedSimpArgs false

def IsB (v : Value) : Prop := ∃ t : Bool, v = .bool t
set_option maxRecDepth 1000000 in
set_option maxHeartbeats 8000000 in
theorem pdq_any (m : Nat) : ∀ (B g n c a b L : Nat) (xs : List Hn) (w : World), Row B 21 g n c w xs → b - a ≤ m → a ≤ b → b ≤ n → L ≤ 1000 → n ≤ 70368744177664 →
    Calls Try.prog 64 #[.slice (some ⟨g, 0, none⟩) n c, .int .i64 (a : Int), .int .i64 (b : Int), .int .i64 (L : Int)] w fun e w' => (∃ x, e = .returned x) ∧ ∃ ys, Sp B g n c w xs w' ys := by
  induction m using Nat.strongRecOn with
  | ind m ih =>
  intro B g n c a b L xs w h hm hab hb hL hn
  have IH : Hid (∀ (B g n c a2 b2 L : Nat) (xs : List Hn) (w : World), Row B 21 g n c w xs → b2 - a2 < b - a → a2 ≤ b2 → b2 ≤ n → L ≤ 1000 → n ≤ 70368744177664 → Calls Try.prog 64 #[.slice (some ⟨g, 0, none⟩) n c, .int .i64 (a2 : Int), .int .i64 (b2 : Int), .int .i64 (L : Int)] w fun e w' => (∃ x, e = .returned x) ∧ ∃ ys, Sp B g n c w xs w' ys) := fun B g n c a2 b2 L xs w h1 h2 h3 h4 h5 h6 => ih (b2 - a2) (by omega) B g n c a2 b2 L xs w h1 (Nat.le_refl _) h3 h4 h5 h6
  have HS : Hid (Sp B g n c w xs w xs) := Sp.first h
  clear h ih
  go_enter Try.func64, Try.ntmps64
  go_wp2
  go_loopg [1, 2, 3, 8, 9] (b - a) (fun gk sa sb sl s8 s9 wr => ∃ a2 b2 L2 : Nat, gk = b2 - a2 ∧ sa = .int .i64 (a2 : Int) ∧ sb = .int .i64 (b2 : Int) ∧ sl = .int .i64 (L2 : Int) ∧ IsB s8 ∧ IsB s9 ∧ (a ≤ a2 ∧ a2 ≤ b2) ∧ b2 ≤ b ∧ L2 ≤ 1000 ∧ b2 ≤ n ∧ ∃ zs, Sp B g n c w xs wr zs)
  case atStart => exact ⟨a, b, L, rfl, rfl, rfl, rfl, ⟨_, rfl⟩, ⟨_, rfl⟩, by omega, by omega, by omega, by omega, _, HS.out⟩
  case round =>
    obtain ⟨a2, b2, L2, hgk, rfl, rfl, rfl, ⟨t8, rfl⟩, ⟨t9, rfl⟩, hab2, hbb, hL2, hbn, zs0, hS⟩ := hrel
    clear HS
    have HS : Hid (Sp B g n c w xs wr zs0) := hS
    clear hS
    obtain ⟨l, hl⟩ : ∃ l : Nat, b2 - a2 = l := ⟨_, rfl⟩
    have kl : IntKind.i64.wrap ((b2 : Int) - (a2 : Int)) = (l : Int) := by rw [IntWalk.i64_in _ ⟨by omega, by omega⟩]; omega
    by_cases h12 : l ≤ 12
    · have h12' : (l : Int) ≤ 12 := by omega
      go_wp2_with (go_at_call 77; (with_reducible refine (insert_any B g n c a2 b2 zs0 wr HS.out.row (by omega) (by omega) hn).mono ?_); rintro e v1 ⟨⟨x, rfl⟩, ys, hp1, hr1, ho1⟩; have S1 : Hid (Sp B g n c w xs v1 ys) := HS.out.of hp1 hr1 ho1; clear hp1 hr1 ho1)
      refine bodyPost_ret (results_none rfl _ _ _) rfl ?_
      exact ⟨⟨_, rfl⟩, _, S1.out⟩
    · have h12' : ¬ (l : Int) ≤ 12 := by omega
      by_cases hL0 : L2 = 0
      · subst hL0
        go_wp2_with (go_at_call 78; (with_reducible refine (heap_any B g n c a2 b2 zs0 wr HS.out.row (by omega) (by omega) hn).mono ?_); rintro e v1 ⟨⟨x, rfl⟩, ys, hp1, hr1, ho1⟩; have S1 : Hid (Sp B g n c w xs v1 ys) := HS.out.of hp1 hr1 ho1; clear hp1 hr1 ho1)
        refine bodyPost_ret (results_none rfl _ _ _) rfl ?_
        exact ⟨⟨_, rfl⟩, _, S1.out⟩
      · have hL0' : ¬ (L2 : Int) = 0 := by omega
        have hL0b : ((L2 : Int) == 0) = false := by simp; omega
        go_upto_if 35 with fail
        go_cut [3] (fun s wc => ∃ L3 : Nat, s = .int .i64 (L3 : Int) ∧ L3 ≤ 1000 ∧ ∃ zs, Sp B g n c w xs wc zs)
        case first =>
          cases t8 with
          | true =>
            go_wp2_with fail
            go_meet
            exact ⟨L2, rfl, by omega, _, HS.out⟩
          | false =>
            have rl : IntKind.i64.wrap ((L2 : Int) - 1) = ((L2 - 1 : Nat) : Int) := by rw [IntWalk.i64_in _ ⟨by omega, by omega⟩]; omega
            go_wp2_with (go_at_call 79; (with_reducible refine (brk_any B g n c a2 b2 zs0 wr HS.out.row (by omega) (by omega) hn).mono ?_); rintro e v1 ⟨⟨x, rfl⟩, ys, hs1⟩; have S1 : Hid (Sp B g n c w xs v1 ys) := HS.out.then hs1; clear hs1)
            go_meet
            exact ⟨L2 - 1, rfl, by omega, _, S1.out⟩
        case rest =>
          obtain ⟨L3, rfl, hL3, zs, hS⟩ := hcut
          clear HS
          have HS : Hid (Sp B g n c w xs wc zs) := hS
          clear hS hL0 hL0b
          go_upto_if 50 with (go_at_call 80; (with_reducible refine (pivot_any B g n c a2 b2 zs wc HS.out.row (by omega) (by omega) hn).mono ?_); rintro e v1 ⟨p0, t0, rfl, hp0, ht0, hr1, hb1⟩; have S1 : Hid (Sp B g n c w xs v1 zs) := HS.out.below hb1; clear hr1 hb1)
          clear HS
          have HS : Hid (Sp B g n c w xs v1 zs) := S1.out
          clear S1
          go_cut [11, 12] (fun s1 s2 wc => ∃ p t : Nat, s1 = .int .i64 (p : Int) ∧ s2 = .int .i64 (t : Int) ∧ (a2 ≤ p ∧ p < b2) ∧ t ≤ 2 ∧ ∃ zs, Sp B g n c w xs wc zs)
          case first =>
            by_cases ht2 : t0 = 2
            · subst ht2
              obtain ⟨y1, hy1⟩ : ∃ x : Nat, b2 - 1 = x := ⟨_, rfl⟩
              obtain ⟨y2, hy2⟩ : ∃ x : Nat, p0 - a2 = x := ⟨_, rfl⟩
              obtain ⟨y3, hy3⟩ : ∃ x : Nat, y1 - y2 = x := ⟨_, rfl⟩
              have r1 : IntKind.i64.wrap ((b2 : Int) - 1) = (y1 : Int) := by rw [IntWalk.i64_in _ ⟨by omega, by omega⟩]; omega
              have r2 : IntKind.i64.wrap ((p0 : Int) - (a2 : Int)) = (y2 : Int) := by rw [IntWalk.i64_in _ ⟨by omega, by omega⟩]; omega
              have r3 : IntKind.i64.wrap ((y1 : Int) - (y2 : Int)) = (y3 : Int) := by rw [IntWalk.i64_in _ ⟨by omega, by omega⟩]; omega
              have HY : Hid (a2 ≤ y3 ∧ y3 < b2) := by unfold Hid; omega
              clear hy1 hy2 hy3
              go_wp2_with (go_at_call 81; (with_reducible refine (rev_any B g n c a2 b2 zs v1 HS.out.row (by omega) (by omega) hn).mono ?_); rintro e v3 ⟨⟨x, rfl⟩, ys, hp1, hr1, ho1⟩; have S1 : Hid (Sp B g n c w xs v3 ys) := HS.out.of hp1 hr1 ho1; clear hp1 hr1 ho1)
              go_meet
              exact ⟨y3, 1, rfl, rfl, HY.out, by omega, _, S1.out⟩
            · have ht2' : ¬ (t0 : Int) = 2 := by omega
              have ht2b : ((t0 : Int) == 2) = false := by simp; omega
              go_wp2_with fail
              go_meet
              exact ⟨p0, t0, rfl, rfl, hp0, ht0, _, HS.out⟩
          case rest =>
            obtain ⟨p, t, rfl, rfl, hp, ht, zs, hS⟩ := hcut
            clear HS
            have HS : Hid (Sp B g n c w xs wc zs) := hS
            clear hS
            go_upto_region 15 with fail
            go_cut [68] (fun s wc => IsB s ∧ ∃ zs, Sp B g n c w xs wc zs)
            case first =>
              by_cases ht1 : t = 1
              · subst ht1
                cases t8 <;> cases t9 <;> (go_wp2_with fail; go_meet; exact ⟨⟨_, rfl⟩, _, HS.out⟩)
              · have ht1' : ¬ (t : Int) = 1 := by omega
                have ht1b : ((t : Int) == 1) = false := by simp; omega
                cases t8 <;> cases t9 <;> (go_wp2_with fail; go_meet; exact ⟨⟨_, rfl⟩, _, HS.out⟩)
            case rest =>
              obtain ⟨⟨t68, rfl⟩, zs, hS⟩ := hcut
              clear HS
              have HS : Hid (Sp B g n c w xs wc zs) := hS
              clear hS
              go_upto_if 68 with fail
              go_cut [] (fun wc => ∃ zs, Sp B g n c w xs wc zs)
              case first =>
                cases t68 with
                | false =>
                  go_wp2_with fail
                  go_meet
                  exact ⟨_, HS.out⟩
                | true =>
                  go_upto_if 72 with (go_at_call 82; (with_reducible refine (pins_any B g n c a2 b2 zs wc HS.out.row (by omega) (by omega) hn).mono ?_); rintro e v1 ⟨t72, rfl, ys, hs1⟩; have S1 : Hid (Sp B g n c w xs v1 ys) := HS.out.then hs1; clear hs1)
                  cases t72 with
                  | false =>
                    go_wp2_with fail
                    go_meet
                    exact ⟨_, S1.out⟩
                  | true =>
                    go_wp2
                    refine bodyPost_ret (results_none rfl _ _ _) rfl ?_
                    exact ⟨⟨_, rfl⟩, _, S1.out⟩
              case rest =>
                obtain ⟨zs, hS⟩ := hcut
                clear HS
                have HS : Hid (Sp B g n c w xs wc zs) := hS
                clear hS
                have m1 : IntKind.i64.wrap ((a2 : Int) - 1) = ((a2 : Int) - 1) := IntWalk.i64_in _ ⟨by omega, by omega⟩
                go_upto_region 17 with fail
                go_cut [87] (fun s wc => IsB s ∧ ∃ zs, Sp B g n c w xs wc zs)
                case first =>
                  obtain ⟨am, ham⟩ : ∃ x : Nat, a2 - 1 = x := ⟨_, rfl⟩
                  obtain ⟨X, F, hX, hF, onto⟩ := class_of (fun v => Below wc.heap.size wc v) (Below.refl _ wc)
                  have HF : Hid (∀ y, Below wc.heap.size wc (F y)) := hF
                  have HO : Hid (∀ v, Below wc.heap.size wc v → ∃ x, v = F x) := fun v h => by obtain ⟨x, hx⟩ := onto v h; exact ⟨x, hx.symm⟩
                  by_cases hgd : 0 < a2
                  · have hgd' : (0 : Int) < (a2 : Int) := by omega
                    obtain ⟨xp, hxp⟩ := HS.out.at (i := am) (by omega)
                    obtain ⟨xq, hxq⟩ := HS.out.at (i := p) (by omega)
                    have cp : ∀ q, (F q).cell? ⟨g, am, none⟩ = some (.int .i32 xp.v) := fun q => (HS.out.below (hF q)).row.get hxp
                    have cq : ∀ q, (F q).cell? ⟨g, p, none⟩ = some (.int .i32 xq.v) := fun q => (HS.out.below (hF q)).row.get hxq
                    have tp : ((am : Nat) : Int) < (n : Int) := by omega
                    have tq : ((p : Nat) : Int) < (n : Int) := by omega
                    have kam : IntKind.i64.wrap ((a2 : Int) - 1) = (am : Int) := by rw [m1]; omega
                    clear m1
                    clear hxp hxq
                    go_upto_region 17 with fail
                    refine region_class F (by kernel_rfl) (by kernel_rfl) (by obtain ⟨x, hx⟩ := HO.out _ (Below.refl _ _).drew; exact ⟨x, hx.symm⟩) ?_
                    repeat (go_big_quiet_step (first | (go_at_call 83; with_reducible refine (less_any xp.v xq.v _).mono ?_; rintro e z5 ⟨rfl, rfl⟩; exact ⟨rfl, HO.out _ (HF.out _)⟩)))
                    clear cp cq
                    refine wpQuiet_nil ?_
                    rintro _ ⟨nq, rfl⟩
                    obtain ⟨z0, hz0⟩ : ∃ z, F nq = z := ⟨_, rfl⟩
                    have SZ : Hid (Sp B g n c w xs z0 zs) := HS.out.below (hz0 ▸ HF.out nq)
                    rw [hz0]
                    clear hz0 HF HO HS hF onto
                    by_cases hlt : xp.v < xq.v
                    · rw [show decide (xp.v < xq.v) = true from decide_eq_true hlt]
                      go_wp2_with fail
                      go_meet
                      exact ⟨⟨_, rfl⟩, _, SZ.out⟩
                    · rw [show decide (xp.v < xq.v) = false from decide_eq_false hlt]
                      go_wp2_with fail
                      go_meet
                      exact ⟨⟨_, rfl⟩, _, SZ.out⟩
                  · have hgd' : ¬ (0 : Int) < (a2 : Int) := by omega
                    go_upto_region 17 with fail
                    refine region_class F (by kernel_rfl) (by kernel_rfl) (by obtain ⟨x, hx⟩ := HO.out _ (Below.refl _ _).drew; exact ⟨x, hx.symm⟩) ?_
                    repeat (go_big_quiet_step (fail))
                    refine wpQuiet_nil ?_
                    rintro _ ⟨nq, rfl⟩
                    obtain ⟨z0, hz0⟩ : ∃ z, F nq = z := ⟨_, rfl⟩
                    have SZ : Hid (Sp B g n c w xs z0 zs) := HS.out.below (hz0 ▸ HF.out nq)
                    rw [hz0]
                    clear hz0 HF HO HS hF onto
                    go_wp2_with fail
                    go_meet
                    exact ⟨⟨_, rfl⟩, _, SZ.out⟩
                case rest =>
                  obtain ⟨⟨t87, rfl⟩, zs, hS⟩ := hcut
                  clear HS m1
                  have HS : Hid (Sp B g n c w xs wc zs) := hS
                  clear hS
                  cases t87 with
                  | true =>
                    go_wp2_with (go_at_call 84; (with_reducible refine (peq_any B g n c a2 b2 p zs wc HS.out.row (by omega) (by omega) (by omega) hn).mono ?_); rintro e v1 ⟨mid, rfl, hmid, ys, hp1, hr1, ho1⟩; have S1 : Hid (Sp B g n c w xs v1 ys) := HS.out.of hp1 hr1 ho1; clear hp1 hr1 ho1)
                    go_roundg (b2 - mid)
                    case measure => omega
                    case rel => exact ⟨mid, b2, L3, rfl, rfl, rfl, rfl, ⟨t8, rfl⟩, ⟨t9, rfl⟩, by omega, by omega, by omega, by omega, _, S1.out⟩
                  | false =>
                    obtain ⟨e8, he8⟩ : ∃ e : Nat, l / 8 = e := ⟨_, rfl⟩
                    have q1 : IntKind.i64.wrap ((l : Int).tdiv 8) = (e8 : Int) := by rw [Int.tdiv_eq_ediv_of_nonneg (by omega), IntWalk.i64_in _ ⟨by omega, by omega⟩]; omega
                    have q2 : IntKind.i64.wrap ((l : Int) / 8) = (e8 : Int) := by rw [IntWalk.i64_in _ ⟨by omega, by omega⟩]; omega
                    have PT : Hid (Calls Try.prog 85 #[.slice (some ⟨g, 0, none⟩) n c, .int .i64 (a2 : Int), .int .i64 (b2 : Int), .int .i64 (p : Int)] wc fun e w' => ∃ (j : Nat) (v : Value), e = .returned (.tuple #[.int .i64 (j : Int), v]) ∧ IsB v ∧ (a2 ≤ j ∧ j < b2) ∧ ∃ ys, Sp B g n c wc zs w' ys) := (part_any B g n c a2 b2 p zs wc HS.out.row (by omega) (by omega) (by omega) hn).mono (fun e w' ⟨j, t, h1, h2, h3⟩ => ⟨j, .bool t, h1, ⟨t, rfl⟩, h2, h3⟩)
                    go_upto_region 21 with (go_at_call 85; (with_reducible refine PT.out.mono ?_); rintro e v1 ⟨mid, bv, rfl, hbv, hmid, ys, hs1⟩; have S1 : Hid (Sp B g n c w xs v1 ys) := HS.out.then hs1; clear hs1)
                    clear HS PT
                    obtain ⟨x1, hx1⟩ : ∃ x : Nat, mid - a2 = x := ⟨_, rfl⟩
                    obtain ⟨x2, hx2⟩ : ∃ x : Nat, b2 - mid = x := ⟨_, rfl⟩
                    obtain ⟨m1, hm1⟩ : ∃ x : Nat, mid + 1 = x := ⟨_, rfl⟩
                    have r1 : IntKind.i64.wrap ((mid : Int) - (a2 : Int)) = (x1 : Int) := by rw [IntWalk.i64_in _ ⟨by omega, by omega⟩]; omega
                    have r2 : IntKind.i64.wrap ((b2 : Int) - (mid : Int)) = (x2 : Int) := by rw [IntWalk.i64_in _ ⟨by omega, by omega⟩]; omega
                    have r3 : IntKind.i64.wrap ((mid : Int) + 1) = (m1 : Int) := by rw [IntWalk.i64_in _ ⟨by omega, by omega⟩]; omega
                    have IL : Hid (Calls Try.prog 64 #[.slice (some ⟨g, 0, none⟩) n c, .int .i64 (a2 : Int), .int .i64 (mid : Int), .int .i64 (L3 : Int)] v1 fun e w' => (∃ x, e = .returned x) ∧ ∃ ys2, Sp B g n c v1 ys w' ys2) := IH.out B g n c a2 mid L3 ys v1 S1.out.row (by omega) (by omega) (by omega) (by omega) hn
                    have IR : Hid (Calls Try.prog 64 #[.slice (some ⟨g, 0, none⟩) n c, .int .i64 (m1 : Int), .int .i64 (b2 : Int), .int .i64 (L3 : Int)] v1 fun e w' => (∃ x, e = .returned x) ∧ ∃ ys2, Sp B g n c v1 ys w' ys2) := IH.out B g n c m1 b2 L3 ys v1 S1.out.row (by omega) (by omega) (by omega) (by omega) hn
                    have HQ : Hid (mid - a2 = x1 ∧ b2 - mid = x2 ∧ mid + 1 = m1) := ⟨hx1, hx2, hm1⟩
                    clear hx1 hx2 hm1
                    by_cases hlr : x1 < x2
                    · have hlr' : (x1 : Int) < (x2 : Int) := by omega
                      go_wp2_with (go_at_call 64; (with_reducible refine (IL.out).mono ?_); rintro e v2 ⟨⟨x, rfl⟩, ys2, hs2⟩; have S2 : Hid (Sp B g n c w xs v2 ys2) := S1.out.then hs2; clear hs2)
                      go_roundg (b2 - m1)
                      case measure => have := HQ.out; omega
                      case rel => exact ⟨m1, b2, L3, rfl, rfl, rfl, rfl, ⟨_, rfl⟩, hbv, by have := HQ.out; omega, by have := HQ.out; omega, by omega, by omega, _, S2.out⟩
                    · have hlr' : ¬ (x1 : Int) < (x2 : Int) := by omega
                      go_wp2_with (go_at_call 64; (with_reducible refine (IR.out).mono ?_); rintro e v2 ⟨⟨x, rfl⟩, ys2, hs2⟩; have S2 : Hid (Sp B g n c w xs v2 ys2) := S1.out.then hs2; clear hs2)
                      go_roundg (mid - a2)
                      case measure => omega
                      case rel => exact ⟨a2, mid, L3, rfl, rfl, rfl, rfl, ⟨_, rfl⟩, hbv, by omega, by omega, by omega, by omega, _, S2.out⟩
end Go.Proofs.Ytgijcbipnjmhgaa
