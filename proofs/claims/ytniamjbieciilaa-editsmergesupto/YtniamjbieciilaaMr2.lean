import Derived.Test.YtniamjbieciilaaMr1
namespace Go.Proofs.Ytniamjbieciilaa
open Go.ChangeShapes Go.WideShapes Go.ChangeAt Go.RowKit
set_option linter.unusedVariables false

/-- A region that draws its order, over a class of worlds: every operation yields the same in each of them and stays among them (a callee may make memory of its own). -/
theorem region_class {P : Program} {X : Type} (F : X → World) {id : Nat} {Q : Exit → Act → World → Prop} {a : Act} {w : World} {l : List Oper} (hm : P.follows .mixedOrders = true) (hB : Region.lexB .any l.toArray = true)
    (hx : ∃ x, F x = w.drew) (h : wpQuiet P l.toArray (fun w' => ∃ n, w' = F n) (fun a' => ∀ w', (∃ n, w' = F n) → Q .normal a' w') l a) : (Code.region id l.toArray true).wp P Q a w :=
  wp_region_quiet (C := fun w' => ∃ n, w' = F n) hm hB (by obtain ⟨x, hx⟩ := hx; exact ⟨x, hx.symm⟩) (by simpa using h)

/-- the worlds of which D holds, as a row of worlds -/
theorem class_of (D : World → Prop) {w : World} (hw : D w) : ∃ (X : Type) (F : X → World), Nonempty X ∧ (∀ x, D (F x)) ∧ ∀ v, D v → ∃ x, F x = v :=
  ⟨{v : World // D v}, Subtype.val, ⟨⟨w, hw⟩⟩, fun x => x.2, fun v h => ⟨⟨v, h⟩, rfl⟩⟩

/-- what is known of the pieces next to where it stands -/
def NoA (a b : List Ed) (i k n : Nat) : Prop := ∀ (x : Ed), a[i]? = some x → ∀ (m : Nat) (y : Ed), k - 1 ≤ m → m < n → b[m]? = some y → meet x y = false
def NoB (a b : List Ed) (i k n : Nat) : Prop := ∀ (y : Ed), b[k]? = some y → ∀ (m : Nat) (x : Ed), i - 1 ≤ m → m < n → a[m]? = some x → meet x y = false

theorem merge_bad {a b : List Ed} (ha : Good a) (hb : Good b) {x y : Ed} (hx : x ∈ a) (hy : y ∈ b) (h : meet x y = true) : mrg a b = [] ∧ mrgE a b = 11 := by
  have := meet_found (good_mem ha) (good_mem hb) hx hy h
  unfold mrg mrgE
  rw [if_pos this, if_pos this]
  exact ⟨rfl, rfl⟩

set_option maxRecDepth 1000000 in
set_option maxHeartbeats 4000000 in
theorem rmerge_good (size : Int) (a1 a2 : Option Addr) (c1 c2 : Nat) (a b : List Ed) (w : World) (hs0 : -9223372036854775808 ≤ size) (hs1 : size ≤ 9223372036854775807) (h1 : EdsA w a1 a) (h2 : EdsA w a2 b)
    (hv1 : val62 size a = 0) (hv2 : val62 size b = 0) (hT : tots a + tots b ≤ 1048576) :
    Calls Try.prog 15 #[.int .i64 size, .slice a1 a.length c1, .slice a2 b.length c2] w fun e w' => ∃ a' cap', e = .returned (.tuple #[.slice a' (mrg a b).length cap', .int .i64 (mrgE a b)]) ∧ EdsA w' a' (mrg a b) ∧ (a' = none → (mrg a b).length = 0 ∧ cap' = 0) ∧ Below w.heap.size w w' := by
  obtain ⟨i0, hi0, hz0, hz1, hz2⟩ := info_parts infoEd
  have hla := vld_len (val62_ok hv1).2.2
  have hlb := vld_len (val62_ok hv2).2.2
  have HGA : Hid (Good a) := good_of (vld_chk (val62_ok hv1).2.2).1
  have HGB : Hid (Good b) := good_of (vld_chk (val62_ok hv2).2.2).1
  have H1 : Hid (EdsA w a1 a) := h1
  have H2 : Hid (EdsA w a2 b) := h2
  have HV1 : Hid (∀ v, Below w.heap.size w v → Calls Try.prog 29 #[.int .i64 size, .slice a1 a.length c1] v fun e w' => e = .returned (.int .i64 0) ∧ Below v.heap.size v w') := fun v hv => by
    have := rValid_all size a1 c1 a v hs0 hs1 (h1.below hv) (by unfold maxLen; omega)
    rw [hv1] at this; exact this
  have HV2 : Hid (∀ v, Below w.heap.size w v → Calls Try.prog 29 #[.int .i64 size, .slice a2 b.length c2] v fun e w' => e = .returned (.int .i64 0) ∧ Below v.heap.size v w') := fun v hv => by
    have := rValid_all size a2 c2 b v hs0 hs1 (h2.below hv) (by unfold maxLen; omega)
    rw [hv2] at this; exact this
  clear h1 h2 hv1 hv2
  go_enter Try.func15, Try.ntmps15
  go_wp2_with (first
    | (go_at_call 29; (with_reducible refine (HV1.out _ (Below.refl _ _)).mono ?_); rintro e w3 ⟨rfl, hb3⟩; have HB3 : Hid (Below w.heap.size w w3) := hb3; clear hb3)
    | (go_at_call 29; (with_reducible refine (HV2.out _ HB3.out).mono ?_); rintro e w4 ⟨rfl, hb4⟩; have HB4 : Hid (Below w.heap.size w w4) := HB3.out.trans (hb4.mono HB3.out.size); clear hb4))
  rename_i K hK
  have HK := (show Hid _ from hK)
  clear hK
  go_loopg [9, 10, 11] (a.length + b.length) (fun gm sv si sk wr => ∃ (i k : Nat) (all : List Ed), gm = a.length + b.length - (i + k) ∧ si = .int .i64 (i : Int) ∧ sk = .int .i64 (k : Int) ∧ Below w.heap.size w wr ∧ wr.ownsRow w.heap.size 33 3 sv all.length (flat all) ∧ RSt a b i k all)
  case atStart => exact ⟨0, 0, [], by omega, rfl, rfl, HB4.out, World.ownsRow_nil _ _ _ _, rst_start a b⟩
  case round =>
    obtain ⟨wo, rfl⟩ : ∃ wo, wo = wr := ⟨_, rfl⟩
    obtain ⟨i, k, all, rfl, rfl, rfl, hbel, hown, hst⟩ := hrel
    have HB : Hid (Below w.heap.size w wo) := hbel
    have HO : Hid (wo.ownsRow w.heap.size 33 3 u9 all.length (flat all)) := hown
    have HST : Hid (RSt a b i k all) := hst
    have hia := hst.hi
    have hkb := hst.hk
    have hall : all.length ≤ 131072 := by have := hst.len; omega
    clear hbel hown hst
    by_cases hi1 : i < a.length
    · have hi1' : (i : Int) < (a.length : Int) := by omega
      obtain ⟨x, hx⟩ : ∃ x, a[i]? = some x := ⟨_, List.getElem?_eq_getElem hi1⟩
      have HX : Hid (a[i]? = some x) := hx
      have hmx : max ((k : Int) - 1) 0 = ((k - 1 : Nat) : Int) := by omega
      rcases H1.out with h0 | ⟨ba, oa, rfl, hEA⟩
      · rw [h0] at hi1; simp at hi1
      have HEA : Hid (Eds w ba oa a) := hEA
      clear hx hEA
      go_wp2
      clear hmx
      go_loopg [12] (b.length + 3 - (k - 1)) (fun gn sn wr => ∃ n : Nat, gn = b.length + 3 - n ∧ k - 1 ≤ n ∧ n ≤ b.length ∧ sn = .int .i64 (n : Int) ∧ Below w.heap.size w wr ∧ wr.ownsRow w.heap.size 33 3 u9 all.length (flat all) ∧ NoA a b i k n)
      case atStart => exact ⟨k - 1, rfl, Nat.le_refl _, by omega, rfl, HB.out, HO.out, fun x hx m y h1 h2 => by omega⟩
      case round =>
        obtain ⟨n, rfl, hn1, hn2, rfl, hbel, hown, hno⟩ := hrel
        have HBW : Hid (Below w.heap.size w wr) := hbel
        have HOW : Hid (wr.ownsRow w.heap.size 33 3 u9 all.length (flat all)) := hown
        have HNO : Hid (NoA a b i k n) := hno
        clear hbel hown hno
        by_cases hn : n < k + 2 ∧ n < b.length
        · have hmin : (n : Int) < min ((k : Int) + 2) (b.length : Int) := by omega
          have hnb : (n : Int) < (b.length : Int) := by omega
          obtain ⟨y, hy⟩ : ∃ y, b[n]? = some y := ⟨_, List.getElem?_eq_getElem hn.2⟩
          have HY : Hid (b[n]? = some y) := hy
          rcases H2.out with h0 | ⟨bb, ob, rfl, hEB⟩
          · have := hn.2; rw [h0] at this; simp at this
          have HEB : Hid (Eds w bb ob b) := hEB
          clear hy hEB
          obtain ⟨X, F, hX, hF, onto⟩ := class_of (fun v => Below w.heap.size w v ∧ v.ownsRow w.heap.size 33 3 u9 all.length (flat all)) ⟨HBW.out, HOW.out⟩
          have HF : Hid (∀ z, Below w.heap.size w (F z) ∧ (F z).ownsRow w.heap.size 33 3 u9 all.length (flat all)) := hF
          have HOO : Hid (∀ v, Below w.heap.size w v ∧ v.ownsRow w.heap.size 33 3 u9 all.length (flat all) → ∃ z, v = F z) := fun v h => by obtain ⟨z, hz⟩ := onto v h; exact ⟨z, hz.symm⟩
          have HON : Hid (∀ z v, Below (F z).heap.size (F z) v → ∃ y, v = F y) := fun z v h => HOO.out v ⟨(hF z).1.trans (h.mono (hF z).1.size), ownsRow_below (hF z).2 h (Nat.le_refl _)⟩
          have f0 : ∀ z, (F z).cell? ⟨ba, oa + i * 3, none⟩ = some (.int .i64 x.f) := fun z => (HEA.out.cells (hF z).1 HX.out).1
          have f1 : ∀ z, (F z).cell? ⟨ba, oa + i * 3 + 1, none⟩ = some (.int .i64 x.t) := fun z => (HEA.out.cells (hF z).1 HX.out).2.1
          have f2 : ∀ z, (F z).cell? ⟨ba, oa + i * 3 + 2, none⟩ = some (.string x.s) := fun z => (HEA.out.cells (hF z).1 HX.out).2.2
          have g0 : ∀ z, (F z).cell? ⟨bb, ob + n * 3, none⟩ = some (.int .i64 y.f) := fun z => (HEB.out.cells (hF z).1 HY.out).1
          have g1 : ∀ z, (F z).cell? ⟨bb, ob + n * 3 + 1, none⟩ = some (.int .i64 y.t) := fun z => (HEB.out.cells (hF z).1 HY.out).2.1
          have g2 : ∀ z, (F z).cell? ⟨bb, ob + n * 3 + 2, none⟩ = some (.string y.s) := fun z => (HEB.out.cells (hF z).1 HY.out).2.2
          clear hF onto
          cases hm : meet x y with
          | true =>
            have HM : Hid (meet x y = true) := hm
            obtain ⟨hr1, hr2⟩ := merge_bad HGA.out HGB.out (List.mem_of_getElem? HX.out) (List.mem_of_getElem? HY.out) hm
            have HR1 : Hid (mrg a b = []) := hr1
            have HR2 : Hid (mrgE a b = 11) := hr2
            clear hm hr1 hr2
            go_upto_region 13 with fail
            refine region_class F (by kernel_rfl) (by kernel_rfl) (by obtain ⟨z, hz⟩ := HOO.out _ ⟨HBW.out.drew, HOW.out.drew⟩; exact ⟨z, hz.symm⟩) ?_
            repeat (go_big_quiet_step (first | (go_at_call 30; (refine (rMeet_any x y _).mono ?_); rintro e w5 ⟨rfl, hb5⟩; rw [HM.out]; exact ⟨rfl, HON.out _ _ hb5⟩)))
            refine wpQuiet_nil ?_
            rintro _ ⟨nq, rfl⟩
            go_wp2
            go_ret2
            rw [HR1.out, HR2.out]
            exact ⟨none, 0, rfl, .inl rfl, fun _ => ⟨rfl, rfl⟩, (HF.out _).1⟩
          | false =>
            have HM : Hid (meet x y = false) := hm
            clear hm
            go_upto_region 13 with fail
            refine region_class F (by kernel_rfl) (by kernel_rfl) (by obtain ⟨z, hz⟩ := HOO.out _ ⟨HBW.out.drew, HOW.out.drew⟩; exact ⟨z, hz.symm⟩) ?_
            repeat (go_big_quiet_step (first | (go_at_call 30; (refine (rMeet_any x y _).mono ?_); rintro e w5 ⟨rfl, hb5⟩; rw [HM.out]; exact ⟨rfl, HON.out _ _ hb5⟩)))
            refine wpQuiet_nil ?_
            rintro _ ⟨nq, rfl⟩
            go_wp2
            go_roundg (b.length + 3 - (n + 1))
            case measure => omega
            case rel =>
              refine ⟨n + 1, rfl, by omega, by omega, by go_num, (HF.out _).1, (HF.out _).2, fun x' hx' m y' h1 h2 hy' => ?_⟩
              by_cases e : m = n
              · subst e
                rw [HX.out] at hx'; cases hx'
                rw [HY.out] at hy'; cases hy'
                exact HM.out
              · exact HNO.out x' hx' m y' h1 (by omega) hy'
        · have hne : n = n := rfl
          have HNA : Hid (∀ (m : Nat) (y : Ed), k - 1 ≤ m → m ≤ k + 1 → b[m]? = some y → meet x y = false) := fun m y h1 h2 h3 => HNO.out x HX.out m y h1 (by have := (List.getElem?_eq_some_iff.1 h3).1; omega) h3
          have HBA : Hid (Below w.heap.size w wr) := HBW.out
          have HOA : Hid (wr.ownsRow w.heap.size 33 3 u9 all.length (flat all)) := HOW.out
          have hmin : ¬ (n : Int) < min ((k : Int) + 2) (b.length : Int) := by omega
          have hmx : max ((i : Int) - 1) 0 = ((i - 1 : Nat) : Int) := by omega
          obtain ⟨wa, rfl⟩ : ∃ wa, wa = wr := ⟨_, rfl⟩
          clear HBW HOW HNO
          go_wp2
          clear hmx hmin
          go_loopg [13] (a.length + 3 - (i - 1)) (fun gn sn wr => ∃ n : Nat, gn = a.length + 3 - n ∧ i - 1 ≤ n ∧ n ≤ a.length ∧ sn = .int .i64 (n : Int) ∧ Below w.heap.size w wr ∧ wr.ownsRow w.heap.size 33 3 u9 all.length (flat all) ∧ NoB a b i k n)
          case atStart => exact ⟨i - 1, rfl, Nat.le_refl _, by omega, rfl, HBA.out, HOA.out, fun y hy m x h1 h2 => by omega⟩
          case round =>
            obtain ⟨n, rfl, hn3, hn4, rfl, hbel, hown, hno⟩ := hrel
            have HBW : Hid (Below w.heap.size w wr) := hbel
            have HOW : Hid (wr.ownsRow w.heap.size 33 3 u9 all.length (flat all)) := hown
            have HNP : Hid (NoB a b i k n) := hno
            clear hbel hown hno
            by_cases hkl : k < b.length
            · obtain ⟨y, hy⟩ : ∃ y, b[k]? = some y := ⟨_, List.getElem?_eq_getElem hkl⟩
              have HY : Hid (b[k]? = some y) := hy
              have hkl' : (k : Int) < (b.length : Int) := by omega
              rcases H2.out with h0 | ⟨bb, ob, rfl, hEB⟩
              · rw [h0] at hkl; simp at hkl
              have HEB : Hid (Eds w bb ob b) := hEB
              clear hy hEB
              by_cases hn : n < i + 2 ∧ n < a.length
              · have hmin : (n : Int) < min ((i : Int) + 2) (a.length : Int) := by omega
                have hna : (n : Int) < (a.length : Int) := by omega
                obtain ⟨xn, hxn⟩ : ∃ x, a[n]? = some x := ⟨_, List.getElem?_eq_getElem hn.2⟩
                have HXn : Hid (a[n]? = some xn) := hxn
                clear hxn
                obtain ⟨X, F, hX, hF, onto⟩ := class_of (fun v => Below w.heap.size w v ∧ v.ownsRow w.heap.size 33 3 u9 all.length (flat all)) ⟨HBW.out, HOW.out⟩
                have HF : Hid (∀ z, Below w.heap.size w (F z) ∧ (F z).ownsRow w.heap.size 33 3 u9 all.length (flat all)) := hF
                have HOO : Hid (∀ v, Below w.heap.size w v ∧ v.ownsRow w.heap.size 33 3 u9 all.length (flat all) → ∃ z, v = F z) := fun v h => by obtain ⟨z, hz⟩ := onto v h; exact ⟨z, hz.symm⟩
                have HON : Hid (∀ z v, Below (F z).heap.size (F z) v → ∃ y, v = F y) := fun z v h => HOO.out v ⟨(hF z).1.trans (h.mono (hF z).1.size), ownsRow_below (hF z).2 h (Nat.le_refl _)⟩
                have f0 : ∀ z, (F z).cell? ⟨ba, oa + n * 3, none⟩ = some (.int .i64 xn.f) := fun z => (HEA.out.cells (hF z).1 HXn.out).1
                have f1 : ∀ z, (F z).cell? ⟨ba, oa + n * 3 + 1, none⟩ = some (.int .i64 xn.t) := fun z => (HEA.out.cells (hF z).1 HXn.out).2.1
                have f2 : ∀ z, (F z).cell? ⟨ba, oa + n * 3 + 2, none⟩ = some (.string xn.s) := fun z => (HEA.out.cells (hF z).1 HXn.out).2.2
                have g0 : ∀ z, (F z).cell? ⟨bb, ob + k * 3, none⟩ = some (.int .i64 y.f) := fun z => (HEB.out.cells (hF z).1 HY.out).1
                have g1 : ∀ z, (F z).cell? ⟨bb, ob + k * 3 + 1, none⟩ = some (.int .i64 y.t) := fun z => (HEB.out.cells (hF z).1 HY.out).2.1
                have g2 : ∀ z, (F z).cell? ⟨bb, ob + k * 3 + 2, none⟩ = some (.string y.s) := fun z => (HEB.out.cells (hF z).1 HY.out).2.2
                clear hF onto
                cases hm : meet xn y with
                | true =>
                  have HM : Hid (meet xn y = true) := hm
                  obtain ⟨hr1, hr2⟩ := merge_bad HGA.out HGB.out (List.mem_of_getElem? HXn.out) (List.mem_of_getElem? HY.out) hm
                  have HR1 : Hid (mrg a b = []) := hr1
                  have HR2 : Hid (mrgE a b = 11) := hr2
                  clear hm hr1 hr2
                  go_upto_region 18 with fail
                  refine region_class F (by kernel_rfl) (by kernel_rfl) (by obtain ⟨z, hz⟩ := HOO.out _ ⟨HBW.out.drew, HOW.out.drew⟩; exact ⟨z, hz.symm⟩) ?_
                  repeat (go_big_quiet_step (first | (go_at_call 30; (refine (rMeet_any xn y _).mono ?_); rintro e w5 ⟨rfl, hb5⟩; rw [HM.out]; exact ⟨rfl, HON.out _ _ hb5⟩)))
                  refine wpQuiet_nil ?_
                  rintro _ ⟨nq, rfl⟩
                  go_wp2
                  go_ret2
                  rw [HR1.out, HR2.out]
                  exact ⟨none, 0, rfl, .inl rfl, fun _ => ⟨rfl, rfl⟩, (HF.out _).1⟩
                | false =>
                  have HM : Hid (meet xn y = false) := hm
                  clear hm
                  go_upto_region 18 with fail
                  refine region_class F (by kernel_rfl) (by kernel_rfl) (by obtain ⟨z, hz⟩ := HOO.out _ ⟨HBW.out.drew, HOW.out.drew⟩; exact ⟨z, hz.symm⟩) ?_
                  repeat (go_big_quiet_step (first | (go_at_call 30; (refine (rMeet_any xn y _).mono ?_); rintro e w5 ⟨rfl, hb5⟩; rw [HM.out]; exact ⟨rfl, HON.out _ _ hb5⟩)))
                  refine wpQuiet_nil ?_
                  rintro _ ⟨nq, rfl⟩
                  go_wp2
                  go_roundg (a.length + 3 - (n + 1))
                  case measure => omega
                  case rel =>
                    refine ⟨n + 1, rfl, by omega, by omega, by go_num, (HF.out _).1, (HF.out _).2, fun y' hy' m x' h1 h2 hx' => ?_⟩
                    by_cases e : m = n
                    · subst e
                      rw [HXn.out] at hx'; cases hx'
                      rw [HY.out] at hy'; cases hy'
                      exact HM.out
                    · exact HNP.out y' hy' m x' h1 (by omega) hx'
              · have hmin : ¬ (n : Int) < min ((i : Int) + 2) (a.length : Int) := by omega
                have HNB : Hid (∀ (m : Nat) (x : Ed), i - 1 ≤ m → m ≤ i + 1 → a[m]? = some x → meet x y = false) := fun m x h1 h2 h3 => HNP.out y HY.out m x h1 (by have := (List.getElem?_eq_some_iff.1 h3).1; omega) h3
                have hkeq : ((k : Int) == (b.length : Int)) = false := beq_eq_false_iff_ne.2 (by omega)
                obtain ⟨X, F, hX, hF, onto⟩ := class_of (fun v => Below w.heap.size w v ∧ v.ownsRow w.heap.size 33 3 u9 all.length (flat all)) ⟨HBW.out, HOW.out⟩
                have HF : Hid (∀ z, Below w.heap.size w (F z) ∧ (F z).ownsRow w.heap.size 33 3 u9 all.length (flat all)) := hF
                have HOO : Hid (∀ v, Below w.heap.size w v ∧ v.ownsRow w.heap.size 33 3 u9 all.length (flat all) → ∃ z, v = F z) := fun v h => by obtain ⟨z, hz⟩ := onto v h; exact ⟨z, hz.symm⟩
                have HON : Hid (∀ z v, Below (F z).heap.size (F z) v → ∃ y, v = F y) := fun z v h => HOO.out v ⟨(hF z).1.trans (h.mono (hF z).1.size), ownsRow_below (hF z).2 h (Nat.le_refl _)⟩
                have f0 : ∀ z, (F z).cell? ⟨ba, oa + i * 3, none⟩ = some (.int .i64 x.f) := fun z => (HEA.out.cells (hF z).1 HX.out).1
                have f1 : ∀ z, (F z).cell? ⟨ba, oa + i * 3 + 1, none⟩ = some (.int .i64 x.t) := fun z => (HEA.out.cells (hF z).1 HX.out).2.1
                have f2 : ∀ z, (F z).cell? ⟨ba, oa + i * 3 + 2, none⟩ = some (.string x.s) := fun z => (HEA.out.cells (hF z).1 HX.out).2.2
                have g0 : ∀ z, (F z).cell? ⟨bb, ob + k * 3, none⟩ = some (.int .i64 y.f) := fun z => (HEB.out.cells (hF z).1 HY.out).1
                have g1 : ∀ z, (F z).cell? ⟨bb, ob + k * 3 + 1, none⟩ = some (.int .i64 y.t) := fun z => (HEB.out.cells (hF z).1 HY.out).2.1
                have g2 : ∀ z, (F z).cell? ⟨bb, ob + k * 3 + 2, none⟩ = some (.string y.s) := fun z => (HEB.out.cells (hF z).1 HY.out).2.2
                clear hF onto
                have hxl := HGA.out.le i x HX.out
                have hyl := HGB.out.le k y HY.out
                have hps := pick_same hxl hyl (HNA.out k y (by omega) (by omega) HY.out)
                cases hm : rah x y with
                | true =>
                  have HM : Hid (rah x y = true) := hm
                  have HNS : Hid (RSt a b (i + 1) k (all ++ [x])) := rst_a HGA.out HGB.out HST.out HX.out (fun y' h => by rw [HY.out] at h; cases h; rw [hm] at hps; simpa using hps.symm) (fun j y' h1 h2 => HNA.out j y' (by omega) (by omega) h2)
                  clear hm hps
                  go_upto_region 20 with fail
                  refine region_class F (by kernel_rfl) (by kernel_rfl) (by obtain ⟨z, hz⟩ := HOO.out _ ⟨HBW.out.drew, HOW.out.drew⟩; exact ⟨z, hz.symm⟩) ?_
                  repeat (go_big_quiet_step (first | (go_at_call 31; (refine (rahead_any x y _).mono ?_); rintro e w5 ⟨rfl, hb5⟩; rw [HM.out]; exact ⟨rfl, HON.out _ _ hb5⟩)))
                  refine wpQuiet_nil ?_
                  rintro _ ⟨nq, rfl⟩
                  obtain ⟨wf, ewf⟩ : ∃ wf, F nq = wf := ⟨_, rfl⟩
                  have hff := HF.out nq
                  rw [ewf] at hff
                  have HBF : Hid (Below w.heap.size w wf) := hff.1
                  have HOF : Hid (wf.ownsRow w.heap.size 33 3 u9 all.length (flat all)) := hff.2
                  have hsf := hff.1.size
                  obtain ⟨p0, p1, p2⟩ := HEA.out.cells hff.1 HX.out
                  rw [ewf]
                  clear hff ewf f0 f1 f2 g0 g1 g2
                  go_wp2_with (at_builtin; (refine wpList_append_own_any _ rfl (.tmp 113) (.tmp 118) 22 rfl w.heap.size 33 i0 (.agg #[.int .i64 0, .int .i64 0, .string ⟨#[]⟩]) 3 32 Try.underlying22 hi0 hz0 hz1 hz2 rfl (by decide) _ _ _ rfl (HOF.out.alloc _) (some ⟨wf.heap.size, 0, none⟩) 1 1 (flat [x]) rfl (by rfl) (fun h => by cases h) (fun ad had => by cases had; exact cells_new wf (flat [x]) 33) (flat_oneCell _) ?c2 ?c3 ?c4 ?_))
                  case c2 => unfold maxLen; omega
                  case c3 => omega
                  case c4 => first | omega | (simp; omega)
                  intro v9 w9 hown9 hgrow9
                  have HB9 : Hid (Below w.heap.size w w9) := (HBF.out.alloc HBF.out.size _).grown hgrow9 (by simp; omega) (fun g h => (HOF.out.lt g h).1)
                  have HO9 : Hid (w9.ownsRow w.heap.size 33 3 v9 (all ++ [x]).length (flat (all ++ [x]))) := by
                    unfold Hid; rw [flat_append, List.length_append]; exact hown9
                  clear hown9 hgrow9
                  go_wp2
                  go_roundg (a.length + b.length - (i + 1 + (k)))
                  case measure => omega
                  case rel => exact ⟨i + 1, k, all ++ [x], rfl, by go_num, by go_num, HB9.out, HO9.out, HNS.out⟩
                | false =>
                  have HM : Hid (rah x y = false) := hm
                  have HNS : Hid (RSt a b i (k + 1) (all ++ [y])) := rst_b HGA.out HGB.out HST.out HY.out (fun x' h => by rw [HX.out] at h; cases h; rw [hm] at hps; simpa using hps.symm) (fun j x' h1 h2 => HNB.out j x' (by omega) (by omega) h2)
                  clear hm hps
                  go_upto_region 20 with fail
                  refine region_class F (by kernel_rfl) (by kernel_rfl) (by obtain ⟨z, hz⟩ := HOO.out _ ⟨HBW.out.drew, HOW.out.drew⟩; exact ⟨z, hz.symm⟩) ?_
                  repeat (go_big_quiet_step (first | (go_at_call 31; (refine (rahead_any x y _).mono ?_); rintro e w5 ⟨rfl, hb5⟩; rw [HM.out]; exact ⟨rfl, HON.out _ _ hb5⟩)))
                  refine wpQuiet_nil ?_
                  rintro _ ⟨nq, rfl⟩
                  obtain ⟨wf, ewf⟩ : ∃ wf, F nq = wf := ⟨_, rfl⟩
                  have hff := HF.out nq
                  rw [ewf] at hff
                  have HBF : Hid (Below w.heap.size w wf) := hff.1
                  have HOF : Hid (wf.ownsRow w.heap.size 33 3 u9 all.length (flat all)) := hff.2
                  have hsf := hff.1.size
                  obtain ⟨p0, p1, p2⟩ := HEB.out.cells hff.1 HY.out
                  rw [ewf]
                  clear hff ewf f0 f1 f2 g0 g1 g2
                  go_wp2_with (at_builtin; (refine wpList_append_own_any _ rfl (.tmp 122) (.tmp 127) 22 rfl w.heap.size 33 i0 (.agg #[.int .i64 0, .int .i64 0, .string ⟨#[]⟩]) 3 32 Try.underlying22 hi0 hz0 hz1 hz2 rfl (by decide) _ _ _ rfl (HOF.out.alloc _) (some ⟨wf.heap.size, 0, none⟩) 1 1 (flat [y]) rfl (by rfl) (fun h => by cases h) (fun ad had => by cases had; exact cells_new wf (flat [y]) 33) (flat_oneCell _) ?c2 ?c3 ?c4 ?_))
                  case c2 => unfold maxLen; omega
                  case c3 => omega
                  case c4 => first | omega | (simp; omega)
                  intro v9 w9 hown9 hgrow9
                  have HB9 : Hid (Below w.heap.size w w9) := (HBF.out.alloc HBF.out.size _).grown hgrow9 (by simp; omega) (fun g h => (HOF.out.lt g h).1)
                  have HO9 : Hid (w9.ownsRow w.heap.size 33 3 v9 (all ++ [y]).length (flat (all ++ [y]))) := by
                    unfold Hid; rw [flat_append, List.length_append]; exact hown9
                  clear hown9 hgrow9
                  go_wp2
                  go_roundg (a.length + b.length - (i + (k + 1)))
                  case measure => omega
                  case rel => exact ⟨i, k + 1, all ++ [y], rfl, by go_num, by go_num, HB9.out, HO9.out, HNS.out⟩
            · have hkl' : ¬ (k : Int) < (b.length : Int) := by omega
              have hkeq : ((k : Int) == (b.length : Int)) = true := by simp; omega
              have hkl2 : k = b.length := by omega
              have HNS : Hid (RSt a b (i + 1) k (all ++ [x])) := rst_a HGA.out HGB.out HST.out HX.out (fun y' h => by have := (List.getElem?_eq_some_iff.1 h).1; omega) (fun j y' h1 h2 => HNA.out j y' (by omega) (by omega) h2)
              clear hkl2
              obtain ⟨X, F, hX, hF, onto⟩ := class_of (fun v => Below w.heap.size w v ∧ v.ownsRow w.heap.size 33 3 u9 all.length (flat all)) ⟨HBW.out, HOW.out⟩
              have HF : Hid (∀ z, Below w.heap.size w (F z) ∧ (F z).ownsRow w.heap.size 33 3 u9 all.length (flat all)) := hF
              have HOO : Hid (∀ v, Below w.heap.size w v ∧ v.ownsRow w.heap.size 33 3 u9 all.length (flat all) → ∃ z, v = F z) := fun v h => by obtain ⟨z, hz⟩ := onto v h; exact ⟨z, hz.symm⟩
              have HON : Hid (∀ z v, Below (F z).heap.size (F z) v → ∃ y, v = F y) := fun z v h => HOO.out v ⟨(hF z).1.trans (h.mono (hF z).1.size), ownsRow_below (hF z).2 h (Nat.le_refl _)⟩
              clear hF onto
              go_upto_region 20 with fail
              refine region_class F (by kernel_rfl) (by kernel_rfl) (by obtain ⟨z, hz⟩ := HOO.out _ ⟨HBW.out.drew, HOW.out.drew⟩; exact ⟨z, hz.symm⟩) ?_
              repeat (go_big_quiet_step (fail))
              refine wpQuiet_nil ?_
              rintro _ ⟨nq, rfl⟩
              obtain ⟨wf, ewf⟩ : ∃ wf, F nq = wf := ⟨_, rfl⟩
              have hff := HF.out nq
              rw [ewf] at hff
              have HBF : Hid (Below w.heap.size w wf) := hff.1
              have HOF : Hid (wf.ownsRow w.heap.size 33 3 u9 all.length (flat all)) := hff.2
              have hsf := hff.1.size
              obtain ⟨p0, p1, p2⟩ := HEA.out.cells hff.1 HX.out
              rw [ewf]
              clear hff ewf 
              go_wp2_with (at_builtin; (refine wpList_append_own_any _ rfl (.tmp 113) (.tmp 118) 22 rfl w.heap.size 33 i0 (.agg #[.int .i64 0, .int .i64 0, .string ⟨#[]⟩]) 3 32 Try.underlying22 hi0 hz0 hz1 hz2 rfl (by decide) _ _ _ rfl (HOF.out.alloc _) (some ⟨wf.heap.size, 0, none⟩) 1 1 (flat [x]) rfl (by rfl) (fun h => by cases h) (fun ad had => by cases had; exact cells_new wf (flat [x]) 33) (flat_oneCell _) ?c2 ?c3 ?c4 ?_))
              case c2 => unfold maxLen; omega
              case c3 => omega
              case c4 => first | omega | (simp; omega)
              intro v9 w9 hown9 hgrow9
              have HB9 : Hid (Below w.heap.size w w9) := (HBF.out.alloc HBF.out.size _).grown hgrow9 (by simp; omega) (fun g h => (HOF.out.lt g h).1)
              have HO9 : Hid (w9.ownsRow w.heap.size 33 3 v9 (all ++ [x]).length (flat (all ++ [x]))) := by
                unfold Hid; rw [flat_append, List.length_append]; exact hown9
              clear hown9 hgrow9
              go_wp2
              go_roundg (a.length + b.length - (i + 1 + (k)))
              case measure => omega
              case rel => exact ⟨i + 1, k, all ++ [x], rfl, by go_num, by go_num, HB9.out, HO9.out, HNS.out⟩
    · have hi1' : ¬ (i : Int) < (a.length : Int) := by omega
      by_cases hkl : k < b.length
      · have hkl' : (k : Int) < (b.length : Int) := by omega
        obtain ⟨y, hy⟩ : ∃ y, b[k]? = some y := ⟨_, List.getElem?_eq_getElem hkl⟩
        have HY : Hid (b[k]? = some y) := hy
        have hmx : max ((k : Int) - 1) 0 = ((k - 1 : Nat) : Int) := by omega
        rcases H2.out with h0 | ⟨bb, ob, rfl, hEB⟩
        · rw [h0] at hkl; simp at hkl
        have HEB : Hid (Eds w bb ob b) := hEB
        clear hy hEB
        go_wp2
        clear hmx
        go_loopg [12] 1 (fun gn sn wr => ∃ n : Nat, gn = 1 ∧ sn = .int .i64 (n : Int) ∧ Below w.heap.size w wr ∧ wr.ownsRow w.heap.size 33 3 u9 all.length (flat all))
        case atStart => exact ⟨k - 1, rfl, rfl, HB.out, HO.out⟩
        case round =>
          obtain ⟨n, rfl, rfl, hbel, hown⟩ := hrel
          have HBA : Hid (Below w.heap.size w wr) := hbel
          have HOA : Hid (wr.ownsRow w.heap.size 33 3 u9 all.length (flat all)) := hown
          have hmx : max ((i : Int) - 1) 0 = ((i - 1 : Nat) : Int) := by omega
          obtain ⟨wa, rfl⟩ : ∃ wa, wa = wr := ⟨_, rfl⟩
          clear hbel hown
          go_wp2
          clear hmx
          go_loopg [13] (a.length + 3 - (i - 1)) (fun gn sn wr => ∃ n : Nat, gn = a.length + 3 - n ∧ i - 1 ≤ n ∧ n ≤ a.length ∧ sn = .int .i64 (n : Int) ∧ Below w.heap.size w wr ∧ wr.ownsRow w.heap.size 33 3 u9 all.length (flat all) ∧ NoB a b i k n)
          case atStart => exact ⟨i - 1, rfl, Nat.le_refl _, by omega, rfl, HBA.out, HOA.out, fun y hy m x h1 h2 => by omega⟩
          case round =>
            obtain ⟨n, rfl, hn3, hn4, rfl, hbel, hown, hno⟩ := hrel
            have HBW : Hid (Below w.heap.size w wr) := hbel
            have HOW : Hid (wr.ownsRow w.heap.size 33 3 u9 all.length (flat all)) := hown
            have HNP : Hid (NoB a b i k n) := hno
            clear hbel hown hno
            by_cases hn : n < i + 2 ∧ n < a.length
            · have hmin : (n : Int) < min ((i : Int) + 2) (a.length : Int) := by omega
              rcases H1.out with h0 | ⟨ba, oa, rfl, hEA⟩
              · have := hn.2; rw [h0] at this; simp at this
              have HEA : Hid (Eds w ba oa a) := hEA
              clear hEA
              have hna : (n : Int) < (a.length : Int) := by omega
              obtain ⟨xn, hxn⟩ : ∃ x, a[n]? = some x := ⟨_, List.getElem?_eq_getElem hn.2⟩
              have HXn : Hid (a[n]? = some xn) := hxn
              clear hxn
              obtain ⟨X, F, hX, hF, onto⟩ := class_of (fun v => Below w.heap.size w v ∧ v.ownsRow w.heap.size 33 3 u9 all.length (flat all)) ⟨HBW.out, HOW.out⟩
              have HF : Hid (∀ z, Below w.heap.size w (F z) ∧ (F z).ownsRow w.heap.size 33 3 u9 all.length (flat all)) := hF
              have HOO : Hid (∀ v, Below w.heap.size w v ∧ v.ownsRow w.heap.size 33 3 u9 all.length (flat all) → ∃ z, v = F z) := fun v h => by obtain ⟨z, hz⟩ := onto v h; exact ⟨z, hz.symm⟩
              have HON : Hid (∀ z v, Below (F z).heap.size (F z) v → ∃ y, v = F y) := fun z v h => HOO.out v ⟨(hF z).1.trans (h.mono (hF z).1.size), ownsRow_below (hF z).2 h (Nat.le_refl _)⟩
              have f0 : ∀ z, (F z).cell? ⟨ba, oa + n * 3, none⟩ = some (.int .i64 xn.f) := fun z => (HEA.out.cells (hF z).1 HXn.out).1
              have f1 : ∀ z, (F z).cell? ⟨ba, oa + n * 3 + 1, none⟩ = some (.int .i64 xn.t) := fun z => (HEA.out.cells (hF z).1 HXn.out).2.1
              have f2 : ∀ z, (F z).cell? ⟨ba, oa + n * 3 + 2, none⟩ = some (.string xn.s) := fun z => (HEA.out.cells (hF z).1 HXn.out).2.2
              have g0 : ∀ z, (F z).cell? ⟨bb, ob + k * 3, none⟩ = some (.int .i64 y.f) := fun z => (HEB.out.cells (hF z).1 HY.out).1
              have g1 : ∀ z, (F z).cell? ⟨bb, ob + k * 3 + 1, none⟩ = some (.int .i64 y.t) := fun z => (HEB.out.cells (hF z).1 HY.out).2.1
              have g2 : ∀ z, (F z).cell? ⟨bb, ob + k * 3 + 2, none⟩ = some (.string y.s) := fun z => (HEB.out.cells (hF z).1 HY.out).2.2
              clear hF onto
              cases hm : meet xn y with
              | true =>
                have HM : Hid (meet xn y = true) := hm
                obtain ⟨hr1, hr2⟩ := merge_bad HGA.out HGB.out (List.mem_of_getElem? HXn.out) (List.mem_of_getElem? HY.out) hm
                have HR1 : Hid (mrg a b = []) := hr1
                have HR2 : Hid (mrgE a b = 11) := hr2
                clear hm hr1 hr2
                go_upto_region 18 with fail
                refine region_class F (by kernel_rfl) (by kernel_rfl) (by obtain ⟨z, hz⟩ := HOO.out _ ⟨HBW.out.drew, HOW.out.drew⟩; exact ⟨z, hz.symm⟩) ?_
                repeat (go_big_quiet_step (first | (go_at_call 30; (refine (rMeet_any xn y _).mono ?_); rintro e w5 ⟨rfl, hb5⟩; rw [HM.out]; exact ⟨rfl, HON.out _ _ hb5⟩)))
                refine wpQuiet_nil ?_
                rintro _ ⟨nq, rfl⟩
                go_wp2
                go_ret2
                rw [HR1.out, HR2.out]
                exact ⟨none, 0, rfl, .inl rfl, fun _ => ⟨rfl, rfl⟩, (HF.out _).1⟩
              | false =>
                have HM : Hid (meet xn y = false) := hm
                clear hm
                go_upto_region 18 with fail
                refine region_class F (by kernel_rfl) (by kernel_rfl) (by obtain ⟨z, hz⟩ := HOO.out _ ⟨HBW.out.drew, HOW.out.drew⟩; exact ⟨z, hz.symm⟩) ?_
                repeat (go_big_quiet_step (first | (go_at_call 30; (refine (rMeet_any xn y _).mono ?_); rintro e w5 ⟨rfl, hb5⟩; rw [HM.out]; exact ⟨rfl, HON.out _ _ hb5⟩)))
                refine wpQuiet_nil ?_
                rintro _ ⟨nq, rfl⟩
                go_wp2
                go_roundg (a.length + 3 - (n + 1))
                case measure => omega
                case rel =>
                  refine ⟨n + 1, rfl, by omega, by omega, by go_num, (HF.out _).1, (HF.out _).2, fun y' hy' m x' h1 h2 hx' => ?_⟩
                  by_cases e : m = n
                  · subst e
                    rw [HXn.out] at hx'; cases hx'
                    rw [HY.out] at hy'; cases hy'
                    exact HM.out
                  · exact HNP.out y' hy' m x' h1 (by omega) hx'
            · have hmin : ¬ (n : Int) < min ((i : Int) + 2) (a.length : Int) := by omega
              have HNB : Hid (∀ (m : Nat) (x : Ed), i - 1 ≤ m → m ≤ i + 1 → a[m]? = some x → meet x y = false) := fun m x h1 h2 h3 => HNP.out y HY.out m x h1 (by have := (List.getElem?_eq_some_iff.1 h3).1; omega) h3
              have hkeq : ((k : Int) == (b.length : Int)) = false := beq_eq_false_iff_ne.2 (by omega)
              have HNS : Hid (RSt a b i (k + 1) (all ++ [y])) := rst_b HGA.out HGB.out HST.out HY.out (fun x' h => by have := (List.getElem?_eq_some_iff.1 h).1; omega) (fun j x' h1 h2 => HNB.out j x' (by omega) (by omega) h2)
              obtain ⟨X, F, hX, hF, onto⟩ := class_of (fun v => Below w.heap.size w v ∧ v.ownsRow w.heap.size 33 3 u9 all.length (flat all)) ⟨HBW.out, HOW.out⟩
              have HF : Hid (∀ z, Below w.heap.size w (F z) ∧ (F z).ownsRow w.heap.size 33 3 u9 all.length (flat all)) := hF
              have HOO : Hid (∀ v, Below w.heap.size w v ∧ v.ownsRow w.heap.size 33 3 u9 all.length (flat all) → ∃ z, v = F z) := fun v h => by obtain ⟨z, hz⟩ := onto v h; exact ⟨z, hz.symm⟩
              have HON : Hid (∀ z v, Below (F z).heap.size (F z) v → ∃ y, v = F y) := fun z v h => HOO.out v ⟨(hF z).1.trans (h.mono (hF z).1.size), ownsRow_below (hF z).2 h (Nat.le_refl _)⟩
              clear hF onto
              go_upto_region 20 with fail
              refine region_class F (by kernel_rfl) (by kernel_rfl) (by obtain ⟨z, hz⟩ := HOO.out _ ⟨HBW.out.drew, HOW.out.drew⟩; exact ⟨z, hz.symm⟩) ?_
              repeat (go_big_quiet_step (fail))
              refine wpQuiet_nil ?_
              rintro _ ⟨nq, rfl⟩
              obtain ⟨wf, ewf⟩ : ∃ wf, F nq = wf := ⟨_, rfl⟩
              have hff := HF.out nq
              rw [ewf] at hff
              have HBF : Hid (Below w.heap.size w wf) := hff.1
              have HOF : Hid (wf.ownsRow w.heap.size 33 3 u9 all.length (flat all)) := hff.2
              have hsf := hff.1.size
              obtain ⟨p0, p1, p2⟩ := HEB.out.cells hff.1 HY.out
              rw [ewf]
              clear hff ewf
              go_wp2_with (at_builtin; (refine wpList_append_own_any _ rfl (.tmp 122) (.tmp 127) 22 rfl w.heap.size 33 i0 (.agg #[.int .i64 0, .int .i64 0, .string ⟨#[]⟩]) 3 32 Try.underlying22 hi0 hz0 hz1 hz2 rfl (by decide) _ _ _ rfl (HOF.out.alloc _) (some ⟨wf.heap.size, 0, none⟩) 1 1 (flat [y]) rfl (by rfl) (fun h => by cases h) (fun ad had => by cases had; exact cells_new wf (flat [y]) 33) (flat_oneCell _) ?c2 ?c3 ?c4 ?_))
              case c2 => unfold maxLen; omega
              case c3 => omega
              case c4 => first | omega | (simp; omega)
              intro v9 w9 hown9 hgrow9
              have HB9 : Hid (Below w.heap.size w w9) := (HBF.out.alloc HBF.out.size _).grown hgrow9 (by simp; omega) (fun g h => (HOF.out.lt g h).1)
              have HO9 : Hid (w9.ownsRow w.heap.size 33 3 v9 (all ++ [y]).length (flat (all ++ [y]))) := by
                unfold Hid; rw [flat_append, List.length_append]; exact hown9
              clear hown9 hgrow9
              go_wp2
              go_roundg (a.length + b.length - (i + (k + 1)))
              case measure => omega
              case rel => exact ⟨i, k + 1, all ++ [y], rfl, by go_num, by go_num, HB9.out, HO9.out, HNS.out⟩
      · have hkl' : ¬ (k : Int) < (b.length : Int) := by omega
        obtain ⟨he1, he2⟩ := rst_end HST.out (by omega) (by omega)
        have HE1 : Hid (all = sbs a b) := he1
        have HE2 : Hid (mtg (sbs a b) = false) := he2
        obtain ⟨a9, c9, rfl, hA9, -, -⟩ := own_form HO.out
        have HA9 : Hid (EdsA wo a9 all) := hA9
        clear he1 he2 hA9
        go_wp2
        refine HK.out _ _ ?_
        have ht : tots all ≤ 1048576 := by rw [HE1.out, tots_sbs]; exact hT
        refine rm_rest a9 c9 all w wo HB.out HA9.out hall ht (mrg a b) (mrgE a b) ?_ ?_
        · unfold mrg; rw [HE2.out, ← HE1.out]; simp
        · unfold mrgE; rw [HE2.out, ← HE1.out]; simp
end Go.Proofs.Ytniamjbieciilaa
