import Derived.Test.YtgijcbipnjmhgabGreatQf0
import Derived.Test.YtgijcbipnjmhgabGreatQo0
import Derived.Maps.RangeWalk
import Derived.Test.YtgijcbipnjmhgabGreatSp6
namespace Go.Proofs.YtgijcbipnjmhgabGreat
open Go.ChangeShapes Go.WideShapes Go.ChangeAt Go.RowKit
set_option linter.unusedVariables false
set_option linter.unusedSimpArgs false

/-- the nearest of what x needs are k away -/
def Mnd (ps : List Pr) (f x k : Nat) : Prop := (∃ z, Eg ps x z ∧ Ds ps f z k) ∧ ∀ z e, Eg ps x z → Ds ps f z e → k ≤ e
theorem Mnd.fin {ps : List Pr} {f x : Nat} (h : Mnd ps f x 0) : Nst ps f x f := by
  obtain ⟨⟨z, he, hd⟩, -⟩ := h
  have := hd.zero
  subst this
  exact ⟨he, 0, hd, fun u e hu hd2 => ⟨Nat.zero_le _, fun e0 => by subst e0; rw [hd2.zero]; exact Nat.le_refl _⟩⟩
theorem Mnd.step {ps : List Pr} {f x k y : Nat} (h : Mnd ps f x (k + 1)) (he : Eg ps x y) (hd : Ds ps f y (k + 1)) (hm : ∀ z, Eg ps x z → Ds ps f z (k + 1) → y ≤ z) : Nst ps f x y ∧ y ≠ f ∧ Mnd ps f y k := by
  refine ⟨⟨he, k + 1, hd, fun z e hz hdz => ⟨h.2 z e hz hdz, fun e2 => hm z hz (by rw [← e2]; exact hdz)⟩⟩, fun e => ?_, hd.next, fun z e hz hdz => ?_⟩
  · subst e
    have := hd.uniq (Ds.self ps y)
    omega
  · have := hd.2 _ (.cons hz hdz.1)
    omega
/-- the least of those that are k away, among the first i -/
def Lo6 (F : Nat → Nat) (k : Nat) (l : List Int) (i : Nat) (low : Int) : Prop := (low = -1 ∧ ∀ y : Nat, (y : Int) ∈ l.take i → F y ≠ k) ∨ ∃ y : Nat, low = (y : Int) ∧ (y : Int) ∈ l.take i ∧ F y = k ∧ ∀ z : Nat, (z : Int) ∈ l.take i → F z = k → y ≤ z
theorem Lo6.skip {F : Nat → Nat} {k i x : Nat} {l : List Int} {low : Int} (h : Lo6 F k l i low) (hx : l[i]? = some (x : Int)) (hs : F x ≠ k ∨ (0 ≤ low ∧ low ≤ (x : Int))) : Lo6 F k l (i + 1) low := by
  obtain ⟨hk, ek⟩ := List.getElem?_eq_some_iff.1 hx
  have hmem : ∀ z : Int, z ∈ l.take (i + 1) ↔ z ∈ l.take i ∨ z = (x : Int) := fun z => by rw [List.take_succ_eq_append_getElem hk, List.mem_append, List.mem_singleton, ek]
  rcases h with ⟨rfl, h2⟩ | ⟨y, rfl, h2, h3, h4⟩
  · refine .inl ⟨rfl, fun y hy => ?_⟩
    rcases (hmem _).1 hy with hy | hy
    · exact h2 y hy
    · have : y = x := by omega
      subst this
      rcases hs with hs | hs
      · exact hs
      · omega
  · refine .inr ⟨y, rfl, (hmem _).2 (.inl h2), h3, fun z hz hzk => ?_⟩
    rcases (hmem _).1 hz with hz | hz
    · exact h4 z hz hzk
    · have : z = x := by omega
      subst this
      rcases hs with hs | hs
      · exact absurd hzk hs
      · omega
theorem Lo6.take {F : Nat → Nat} {k i x : Nat} {l : List Int} {low : Int} (h : Lo6 F k l i low) (hx : l[i]? = some (x : Int)) (hF : F x = k) (hs : low < 0 ∨ (x : Int) < low) : Lo6 F k l (i + 1) (x : Int) := by
  obtain ⟨hk, ek⟩ := List.getElem?_eq_some_iff.1 hx
  have hmem : ∀ z : Int, z ∈ l.take (i + 1) ↔ z ∈ l.take i ∨ z = (x : Int) := fun z => by rw [List.take_succ_eq_append_getElem hk, List.mem_append, List.mem_singleton, ek]
  refine .inr ⟨x, rfl, (hmem _).2 (.inr rfl), hF, fun z hz hzk => ?_⟩
  rcases (hmem _).1 hz with hz | hz
  · rcases h with ⟨rfl, h2⟩ | ⟨y, rfl, h2, h3, h4⟩
    · exact absurd hzk (h2 z hz)
    · have := h4 z hz hzk
      omega
  · omega
set_option maxRecDepth 1000000 in
set_option maxHeartbeats 4000000 in
theorem rback_any (f n gV b best : Nat) (F : Nat → Nat) (q : List Nat) (ps : List Pr) (w : World) (hR : Rx6 w.heap.size w gV n (nd ps)) (hM : Mq w b F q) (hQ : Bq ps n f F q q.length (fun _ => False)) (hps : ∀ p ∈ ps, (0 ≤ p.a ∧ p.a < (n : Int)) ∧ (0 ≤ p.b ∧ p.b < (n : Int))) (hf : f < n) (hn : n ≤ 131072) (hm : ps.length ≤ 8796093022208) (hb : Mnd ps f f best) (hbn : best < n) :
    Calls Tryz.prog 61 #[.int .i64 (f : Int), .int .i64 (best : Int), .slice (some ⟨gV, 0, none⟩) n n, .map (some b)] w fun e w' => ∃ v, e = .returned v ∧ Below w.heap.size w w' ∧ ∃ l, w'.ownsRow w.heap.size 3 1 v ((f : Int) :: l).length (flat ((f : Int) :: l)) ∧ Cyc ps f f l := by
  obtain ⟨i0, hi0, hz0, hz1, hz2⟩ := info_parts infoIntH
  have hFr := hQ.done
  have HFR := hidH hFr
  have HMD := hidH hb
  have HMP := hidH hM
  have HPS := hidH hps
  have HRX := hidH hR
  have HBQ := hidH hQ
  obtain ⟨B, hB⟩ : ∃ B, w.heap.size = B := ⟨_, rfl⟩
  have HBE := hidH hB
  rw [hB] at HRX
  have hbB : b < B := by have := hM.lt; omega
  clear hR hM hQ hps hb hFr
  go_enter Tryz.func61, Tryz.ntmps61
  go_upto_region 2 with fail
  obtain ⟨w2, e2, hb2, hs2, X2⟩ := bx1 w #[.int .i64 (f : Int)] 3
  have O2 : Hid (w2.ownsRow B 3 1 (.slice (some ⟨B, 0, none⟩) 1 1) ([(f : Int)]).length (flat [(f : Int)])) := by
    have h1 := own_one B w (.int .i64 (f : Int)) 3 (by omega)
    rw [e2, hB] at h1
    exact h1
  have E2 : Hid (Below B w w2) := by rw [hB] at hb2; exact hb2
  rw [e2]
  clear e2 hb2 hs2 X2
  go_wp2
  go_loopg [9, 10, 11] best (fun gk s9 s10 s11 wr => ∃ (k at' : Nat) (cs : List Int) (V : Value), gk = k ∧ s9 = V ∧ s10 = .int .i64 (at' : Int) ∧ s11 = .int .i64 (k : Int) ∧ at' < n ∧ k < n ∧ cs.length + k = best ∧ wr.ownsRow B 3 1 V ((f : Int) :: cs).length (flat ((f : Int) :: cs)) ∧ Mnd ps f at' k ∧ (∀ l, Cyc ps f at' l → Cyc ps f f (cs ++ l)) ∧ Below B w wr)
  case atStart => exact ⟨best, f, [], _, rfl, rfl, rfl, rfl, hf, hbn, by simp, O2.out, HMD.out, fun l hl => hl, E2.out⟩
  case round =>
    clear O2 E2 HMD
    obtain ⟨k, at', cs, V, hgk, rfl, rfl, rfl, hat, hkn, hck, hO, hMd, hCy, hE⟩ := hrel
    have OO := hidH hO
    have MD := hidH hMd
    have CY := hidH hCy
    have EE := hidH hE
    clear hO hMd hCy hE
    by_cases hk0 : 0 < k
    · obtain ⟨k1, hk1⟩ : ∃ k1, k = k1 + 1 := ⟨k - 1, by omega⟩
      have HK1 := hidH hk1
      have kd : IntKind.i64.wrap ((k : Int) - 1) = (k1 : Int) := by rw [IntWalk.i64_in _ ⟨by omega, by omega⟩]; omega
      have hk0' : (0 : Int) < (k : Int) := by omega
      have hat' : (at' : Int) < (n : Int) := by omega
      obtain ⟨aD, cD, cD1, hrow⟩ := HRX.out.row at' hat
      obtain ⟨r, hr⟩ : ∃ r, (nd ps at').length = r := ⟨_, rfl⟩
      have hrp : r ≤ ps.length := by rw [← hr]; exact nd_len ps at'
      rw [hr] at cD1
      have HR := hidH hr
      have HROW := hidH hrow
      have cA0 := (EE.out.cell (p := ⟨gV, at', none⟩) HRX.out.lt).trans cD1
      have MP := hidH (HMP.out.block (EE.out.block b hbB))
      clear hrow hr cD1 hk1
      go_upto_region 8 with fail
      go_loopg [12, 13] r (fun g3 s12 s13 wq => ∃ (i : Nat) (low : Int), g3 = r - i ∧ s12 = .int .i64 low ∧ s13 = .int .i64 (i : Int) ∧ i ≤ r ∧ (-1 ≤ low ∧ low < (n : Int)) ∧ Lo6 F k (nd ps at') i low ∧ wq = wr)
      case atStart => exact ⟨0, -1, rfl, rfl, rfl, Nat.zero_le _, ⟨by omega, by omega⟩, .inl ⟨rfl, fun y hy => by simp at hy⟩, rfl⟩
      case round =>
        obtain ⟨i, low, hg3, rfl, rfl, hir, hlw, hLo, hw⟩ := hrel
        have hw2 := hw.symm
        subst hw2
        have LO := hidH hLo
        clear hLo hw
        by_cases hi : i < r
        · have hi' : (i : Int) < (r : Int) := by omega
          have ki : IntKind.i64.wrap ((i : Int) + 1) = ((i + 1 : Nat) : Int) := by rw [IntWalk.i64_in _ ⟨by omega, by omega⟩]; omega
          obtain ⟨y0, hy0⟩ : ∃ y, (nd ps at')[i]? = some y := ⟨_, List.getElem?_eq_getElem (by rw [HR.out]; exact hi)⟩
          have hyr := (HPS.out _ (mem_nd.1 (List.mem_of_getElem? hy0))).2
          simp only at hyr
          obtain ⟨y, rfl⟩ : ∃ y : Nat, y0 = (y : Int) := ⟨y0.toNat, by omega⟩
          have hyn : y < n := by omega
          obtain ⟨g, rfl, hg, hcl⟩ := HROW.out (by rw [HR.out]; omega)
          have cY := (EE.out.cell (p := ⟨g, i, none⟩) hg).trans (hcl i _ hy0)
          have HY0 := hidH hy0
          clear hcl hy0
          by_cases hyq : y ∈ q
          · have lk := MP.out.look_yes hyq (by omega)
            obtain ⟨v, hv⟩ : ∃ v, F y = v := ⟨_, rfl⟩
            have hvn : v ≤ n := by rw [← hv]; exact HBQ.out.done.le y hyn
            rw [hv] at lk
            have HV := hidH hv
            clear hv
            by_cases hvk : v = k
            · have hvk' : (v : Int) = (k : Int) := by omega
              have hFk : Hid (F y = k) := by have := HV.out; exact this.trans hvk
              clear hvk
              by_cases hl0 : low < 0
              · have LO2 := hidH (LO.out.take HY0.out hFk.out (.inl hl0))
                go_wp2
                go_roundg (r - (i + 1))
                case measure => omega
                case rel => exact ⟨i + 1, _, rfl, rfl, rfl, by omega, ⟨by omega, by omega⟩, LO2.out, rfl⟩
              · by_cases hl1 : (y : Int) < low
                · have LO2 := hidH (LO.out.take HY0.out hFk.out (.inr hl1))
                  go_wp2
                  go_roundg (r - (i + 1))
                  case measure => omega
                  case rel => exact ⟨i + 1, _, rfl, rfl, rfl, by omega, ⟨by omega, by omega⟩, LO2.out, rfl⟩
                · have LO2 := hidH (LO.out.skip HY0.out (.inr ⟨by omega, by omega⟩))
                  go_wp2
                  go_roundg (r - (i + 1))
                  case measure => omega
                  case rel => exact ⟨i + 1, _, rfl, rfl, rfl, by omega, hlw, LO2.out, rfl⟩
            · have hvk' : ¬ (v : Int) = (k : Int) := by omega
              have LO2 := hidH (LO.out.skip HY0.out (.inl (fun e => hvk (HV.out.symm.trans e))))
              go_wp2
              go_roundg (r - (i + 1))
              case measure => omega
              case rel => exact ⟨i + 1, _, rfl, rfl, rfl, by omega, hlw, LO2.out, rfl⟩
          · obtain ⟨c, lk⟩ := MP.out.look_no hyq (by omega)
            have hFy : F y = n := Classical.byContradiction fun h => hyq ((HBQ.out.mkd y hyn).2 h)
            have LO2 := hidH (LO.out.skip HY0.out (.inl (by omega)))
            clear hFy
            go_wp2
            go_roundg (r - (i + 1))
            case measure => omega
            case rel => exact ⟨i + 1, _, rfl, rfl, rfl, by omega, hlw, LO2.out, rfl⟩
        · have hi' : ¬ (i : Int) < (r : Int) := by omega
          have hir2 : i = r := by omega
          have FD : ∀ z, Ds ps f z k → F z = k := fun z hz => by
            have h1 := HFR.out.wy z k hz.1
            have h2 := HFR.out.ds z h1.1 (by omega)
            exact h2.uniq hz
          have hall : (nd ps at').take i = nd ps at' := List.take_of_length_le (by rw [HR.out]; omega)
          obtain ⟨y, hly, hyn, hNst, hyf, hMy⟩ : ∃ y : Nat, low = (y : Int) ∧ y < n ∧ Nst ps f at' y ∧ y ≠ f ∧ Mnd ps f y k1 := by
            have h9 := LO.out
            unfold Lo6 at h9
            rw [hall] at h9
            obtain ⟨z, hez, hdz⟩ := MD.out.1
            rcases h9 with ⟨-, h2⟩ | ⟨y, h1, h2, h3, h4⟩
            · exact absurd (FD z hdz) (h2 z (mem_nd.2 hez))
            · have hyr := (HPS.out _ (mem_nd.1 h2)).2
              simp only at hyr
              have hyn : y < n := by omega
              have hdy : Ds ps f y k := by
                have h5 := HFR.out.ds y hyn (by omega)
                rw [h3] at h5
                exact h5
              have hmd := MD.out
              have hk1 := HK1.out
              rw [hk1] at hmd hdy
              obtain ⟨a1, a2, a3⟩ := hmd.step (mem_nd.1 h2) hdy (fun z hz hdz => h4 z (mem_nd.2 hz) (FD z (by rw [hk1]; exact hdz)))
              exact ⟨y, h1, hyn, a1, a2, a3⟩
          subst hly
          have CY2 : Hid (∀ l, Cyc ps f y l → Cyc ps f f ((cs ++ [(y : Int)]) ++ l)) := fun l hl => by
            have h9 := CY.out _ (Cyc.more hNst hyf hl)
            rw [List.append_assoc]
            exact h9
          have MY := hidH hMy
          have hk9 := HK1.out
          have HK9 := hidH hk9
          clear FD hall hNst hMy hir2 hk9
          obtain ⟨p, hp⟩ : ∃ p, ((f : Int) :: cs).length = p := ⟨_, rfl⟩
          have HP := hidH hp
          have hpn : p ≤ n := by rw [List.length_cons] at hp; omega
          obtain ⟨a7, c7, hV7, -, -⟩ := own_slice OO.out
          subst hV7
          have OP : Hid (wr.ownsRow B 3 1 (.slice a7 p c7) p (flat ((f : Int) :: cs))) := by have h9 := OO.out; rw [HP.out] at h9; exact h9
          rw [hp]
          clear hp
          go_upto_region 14 with fail
          obtain ⟨zA, eA, hbA, hsA, BA⟩ := bx1 wr #[.int .i64 (y : Int)] 3
          have hBr : B ≤ wr.heap.size := by have := EE.out.size; have := HBE.out; omega
          have OA := hidH (own_belowR OP.out hbA (Nat.le_refl _))
          have EA := hidH (EE.out.trans (hbA.mono hBr))
          have NA : Hid (∀ j u, [Value.int .i64 (y : Int)][j]? = some u → zA.cell? ((⟨wr.heap.size, 0, none⟩ : Addr).add j) = some u) := by unfold Hid; rw [← eA]; exact cells_newH wr [Value.int .i64 (y : Int)] 3
          have HEA := hidH eA
          have HSA := hidH hsA
          have hBA : B ≤ zA.heap.size := by omega
          clear eA hbA hsA BA OP cA0
          go_wp2_with (at_builtin; rw [HEA.out]; refine wpList_append_lies _ rfl _ _ 32 rfl B 3 i0 (.int .i64 0) 1 8 Tryz.underlying32 hi0 hz0 hz1 hz2 rfl (by decide) (.slice a7 p c7) p (flat ((f : Int) :: cs)) rfl OA.out ⟨wr.heap.size, 0, none⟩ 1 1 [Value.int .i64 (y : Int)] rfl rfl NA.out (by intro u hu; simp at hu; subst hu; rfl) (by decide) (by unfold maxLen; omega) (by omega) hBA (wr.heap.size + 1) HSA.out ?_; intro gg cp w9 hown9 hgrow9 hat9 hlt9; have O9 := hidH hown9; have E9 := hidH (EA.out.grown hgrow9 hBA (fun g e => (OA.out.lt g e).1)); clear hown9 hgrow9 hat9 hlt9)
          go_roundg k1
          case measure => have := HK9.out; omega
          case rel => exact ⟨k1, y, cs ++ [(y : Int)], _, rfl, rfl, rfl, rfl, hyn, by have := HK9.out; omega, by have := HK9.out; rw [List.length_append, List.length_singleton]; omega, by have h9 := O9.out; rw [← List.cons_append, flat_append, List.length_append, List.length_singleton, HP.out]; exact h9, MY.out, CY2.out, E9.out⟩
    · have hk1 : k = 0 := by omega
      subst hk1
      have C0 := hidH (CY.out [] (.fin MD.out.fin))
      go_wp2
      go_ret
      exact ⟨_, rfl, by first | exact EE.out | (rw [hB]; exact EE.out), cs, by first | exact OO.out | (rw [hB]; exact OO.out), by have h9 := C0.out; rw [List.append_nil] at h9; exact h9⟩
end Go.Proofs.YtgijcbipnjmhgabGreat

namespace Go.Proofs.YtgijcbipnjmhgabGreat
open Go.ChangeShapes Go.WideShapes Go.ChangeAt Go.RowKit
open Go.Maps (Keyed int_keyed keyOf_int_mk)
set_option linter.unusedVariables false
set_option linter.unusedSimpArgs false

/-- the lows that are known before x -/
def Tl (ps : List Pr) (n x : Nat) (ms : List Int) : Prop := ∀ y : Nat, y < n → (ms[y]! = -1 ∧ ∀ z, z < x → ¬ Sam ps z y) ∨ ∃ l : Nat, l < x ∧ ms[y]! = (l : Int) ∧ Low ps y l
theorem Tl.skip {ps : List Pr} {n x : Nat} {ms : List Int} (h : Tl ps n x ms) (hx : x < n) (hv : 0 ≤ ms[x]!) : Tl ps n (x + 1) ms := fun y hy => by
  rcases h x hx with ⟨e, -⟩ | ⟨l, hl, -, hL⟩
  · rw [e] at hv; exact absurd hv (by decide)
  · rcases h y hy with ⟨e, hno⟩ | ⟨l2, h1, h2⟩
    · refine .inl ⟨e, fun z hz hs => ?_⟩
      by_cases ez : z = x
      · subst ez
        exact hno l hl (hL.1.symm.trans hs)
      · exact hno z (by omega) hs
    · exact .inr ⟨l2, by omega, h2⟩
/-- x's part is being told -/
def Tm (ps : List Pr) (n x : Nat) (ms : List Int) (dn : Nat → Prop) (ms' : List Int) : Prop := ∀ y : Nat, y < n → ((y = x ∨ (Sam ps x y ∧ dn y)) → ms'[y]! = (x : Int)) ∧ (¬ (y = x ∨ (Sam ps x y ∧ dn y)) → ms'[y]! = ms[y]!)
theorem Tm.start {ps : List Pr} {n x : Nat} {ms : List Int} {dn : Nat → Prop} (hx : x < ms.length) (hd : ∀ y, Sam ps x y → ¬ dn y) : Tm ps n x ms dn (ms.set x (x : Int)) := fun y hy => by
  rw [get_set ms x y _ hx]
  refine ⟨fun h => ?_, fun h => ?_⟩
  · rcases h with h | ⟨h1, h2⟩
    · rw [if_pos h]
    · exact absurd h2 (hd y h1)
  · rw [if_neg (fun e => h (.inl e))]
theorem Tm.put {ps : List Pr} {n x y0 : Nat} {ms ms' : List Int} {dn dn' : Nat → Prop} (h : Tm ps n x ms dn ms') (hl : y0 < ms'.length) (hs : Sam ps x y0) (hd : ∀ y, dn' y ↔ dn y ∨ y = y0) : Tm ps n x ms dn' (ms'.set y0 (x : Int)) := fun y hy => by
  rw [get_set ms' y0 y _ hl]
  refine ⟨fun k => ?_, fun k => ?_⟩
  · by_cases e : y = y0
    · rw [if_pos e]
    · rw [if_neg e]
      exact (h y hy).1 (k.imp id fun ⟨a, b⟩ => ⟨a, ((hd y).1 b).resolve_right e⟩)
  · have e : y ≠ y0 := fun e => k (.inr ⟨by rw [e]; exact hs, (hd y).2 (.inr e)⟩)
    rw [if_neg e]
    exact (h y hy).2 (fun k2 => k (k2.imp id fun ⟨a, b⟩ => ⟨a, (hd y).2 (.inl b)⟩))
theorem Tm.skip {ps : List Pr} {n x y0 : Nat} {ms ms' : List Int} {dn dn' : Nat → Prop} (h : Tm ps n x ms dn ms') (hs : ¬ Sam ps x y0) (hd : ∀ y, dn' y ↔ dn y ∨ y = y0) : Tm ps n x ms dn' ms' := fun y hy => by
  refine ⟨fun k => (h y hy).1 (k.imp id fun ⟨a, b⟩ => ⟨a, ((hd y).1 b).resolve_right fun e => hs (by rw [← e]; exact a)⟩), fun k => (h y hy).2 (fun k2 => k (k2.imp id fun ⟨a, b⟩ => ⟨a, (hd y).2 (.inl b)⟩))⟩
theorem Tm.done {ps : List Pr} {n x : Nat} {ms ms' : List Int} {dn : Nat → Prop} (h : Tl ps n x ms) (hx : x < n) (hv : ms[x]! < 0) (hm : Tm ps n x ms dn ms') (hd : ∀ y, y < n → Sam ps x y → y = x ∨ dn y) : Tl ps n (x + 1) ms' := fun y hy => by
  have hxx : ∀ z, z < x → ¬ Sam ps z x := by
    rcases h x hx with ⟨-, h1⟩ | ⟨l, -, e, -⟩
    · exact h1
    · rw [e] at hv; omega
  by_cases hs : Sam ps x y
  · refine .inr ⟨x, by omega, (hm y hy).1 ((hd y hy hs).imp id fun d => ⟨hs, d⟩), hs.symm, fun z hz => Nat.le_of_not_lt fun hlt => hxx z hlt (hs.trans hz).symm⟩
  · have hne : ¬ (y = x ∨ (Sam ps x y ∧ dn y)) := fun k => by
      rcases k with e | k
      · exact hs (by rw [e]; exact Sam.refl ps x)
      · exact hs k.1
    rw [(hm y hy).2 hne]
    rcases h y hy with ⟨e, hno⟩ | ⟨l2, h1, h2⟩
    · refine .inl ⟨e, fun z hz hs2 => ?_⟩
      by_cases ez : z = x
      · subst ez
        exact hs hs2
      · exact hno z (by omega) hs2
    · exact .inr ⟨l2, by omega, h2⟩
theorem sam_no1 {ps : List Pr} {x y : Nat} (h : (nd ps x).length = 0) (hs : Sam ps x y) : y = x := by
  cases hs.1 with
  | refl => rfl
  | step e _ =>
    have := mem_nd.2 e
    rw [List.length_eq_zero_iff.1 h] at this
    cases this
theorem sam_no2 {ps : List Pr} {x y : Nat} (h : (usr ps (x : Int)).length = 0) (hs : Sam ps x y) : y = x := by
  have h1 := hs.2.back (trn_swap ps)
  cases h1 with
  | refl => rfl
  | step e _ =>
    have := mem_usr.2 ((trn_swap ps _ _).1 e)
    rw [List.length_eq_zero_iff.1 h] at this
    cases this
theorem Bq.rch {ps : List Pr} {n f y : Nat} {F : Nat → Nat} {q : List Nat} (h : Bq ps n f F q q.length (fun _ => False)) : y ∈ q ↔ Rch ps y f := by
  constructor
  · intro hy
    have hn := h.rng y hy
    exact (h.done.ds y hn ((h.mkd y hn).1 hy)).1.rch
  · intro hr
    obtain ⟨k, hk⟩ := hr.wy
    have h1 := h.done.wy y k hk
    exact (h.mkd y h1.1).2 (by omega)
theorem lf6 (left : Lit → Bool) (y z : Nat) : ((left (.int .i64 (z : Int)) && !(Lit.int .i64 (z : Int)).sameKey (.int .i64 (y : Int))) = false) ↔ left (.int .i64 (z : Int)) = false ∨ z = y := by
  cases left (.int .i64 (z : Int)) <;> simp [Lit.sameKey] <;> omega
theorem ranges_block {P : Program} {k : TypeId} {R : Value → Option (DataW Unit × List MemPlace)} {w w' : World} {b r n : Nat} {D : DataW Unit} {left : Lit → Bool} {cnt : Nat} (h : w.ranges P k R b r n D left cnt) (hb : w'.heap[b]? = w.heap[b]?) (hr : w'.heap[r]? = w.heap[r]?) : w'.ranges P k R b r n D left cnt := by
  obtain ⟨es, clock, since, seen, c0, h1, F, hs, hD, h2, rest⟩ := h
  exact ⟨es, clock, since, seen, c0, hb.trans h1, F, hs, hD, hr.trans h2, rest⟩
set_option maxRecDepth 1000000 in
set_option maxHeartbeats 4000000 in
theorem rtogether_any (n cap : Nat) (a : Option Addr) (ps : List Pr) (w : World) (hL : LiesA w a ps) (hn : n ≤ 131072) (hm : ps.length ≤ 8796093022208) (hps : ∀ p ∈ ps, (0 ≤ p.a ∧ p.a < (n : Int)) ∧ (0 ≤ p.b ∧ p.b < (n : Int))) :
    Calls Tryz.prog 35 #[.int .i64 (n : Int), .slice a ps.length cap] w fun e w' => ∃ g, e = .returned (.slice (some ⟨g, 0, none⟩) n n) ∧ Below w.heap.size w w' ∧ ∃ ms : List Int, w'.ownsRow w.heap.size 3 1 (.slice (some ⟨g, 0, none⟩) n n) n (flat ms) ∧ ms.length = n ∧ Tl ps n n ms := by
  obtain ⟨i0, hi0, hz0, hz1, hz2⟩ := info_parts infoIntH
  have HL := hidH hL
  have HPS := hidH hps
  have HPT : Hid (∀ p ∈ ps.map swapP, (0 ≤ p.a ∧ p.a < (n : Int)) ∧ (0 ≤ p.b ∧ p.b < (n : Int))) := fun p hp => by
    obtain ⟨p', h1, rfl⟩ := List.mem_map.1 hp
    exact ⟨(hps p' h1).2, (hps p' h1).1⟩
  have QR1 := hidH (rows1R n cap a ps w hL hn hm hps)
  obtain ⟨B, hB⟩ : ∃ B, w.heap.size = B := ⟨_, rfl⟩
  have HBE := hidH hB
  clear hL hps
  go_enter Tryz.func35, Tryz.ntmps35
  go_upto_region 2 with (go_at_call 30; (with_reducible refine QR1.out.mono ?_); clear QR1; rintro e w1 ⟨rfl, hb1, hrx1⟩; have HB1 := hidH hb1; have RX1 := hidH hrx1; clear hb1 hrx1)
  have QR0 := hidH (rows0R n cap a ps w1 (HL.out.below HB1.out) hn hm HPS.out)
  rw [hB] at HB1 RX1
  go_upto_region 3 with (go_at_call 30; (with_reducible refine QR0.out.mono ?_); clear QR0; rintro e w2 ⟨rfl, hb2, hrx2⟩; have HB2 := hidH hb2; have RX2 := hidH hrx2; clear hb2 hrx2)
  obtain ⟨C, hC⟩ : ∃ C, w1.heap.size = C := ⟨_, rfl⟩
  obtain ⟨D, hD⟩ : ∃ D, w2.heap.size = D := ⟨_, rfl⟩
  have hBC : B ≤ C := by have := HB1.out.size; omega
  have hCD : C ≤ D := by have := HB2.out.size; omega
  have NX : Hid (Rx6 D w2 B n (nd ps)) := by rw [← hD]; exact (RX1.out.below HB2.out).up (by omega)
  have UX : Hid (Rx6 D w2 C n (fun x => usr ps (x : Int))) := by have h9 := RX2.out; rw [hD, hC] at h9; exact h9
  have E2 : Hid (Below B w w2) := HB1.out.trans (HB2.out.mono (by omega))
  have HDE := hidH hD
  rw [hC]
  clear RX1 RX2 HB1 HB2 hC
  go_upto_region 4 with (at_make; refine wpList_make_full _ rfl _ _ 32 rfl D 3 i0 (.int .i64 0) 1 Tryz.underlying32 hi0 hz0 hz1 _ _ _ _ n rfl rfl rfl rfl (by rw [hz2]; omega) (by unfold maxLen; omega) (by omega) ?_; intro w3 hown3 hgr3; rw [hD] at hown3 ⊢; have O3 : Hid (w3.ownsRow D 3 1 (.slice (some ⟨D, 0, none⟩) n n) n (flat (List.replicate n (0 : Int)))) := (by rw [show (Value.int .i64 0).cells = #[.int .i64 0] by rfl, rep_made] at hown3; unfold Hid; rw [show flat (List.replicate n (0 : Int)) = List.replicate n (Value.int .i64 0) by rw [flat_ints, List.map_replicate]]; exact hown3); have E3 : Hid (Below D w2 w3) := ((Below.refl _ _).grown hgr3 (by omega) (fun k h => by cases h)); clear hown3 hgr3)
  clear hD
  go_wp2
  go_loopg [8] n (fun gk s8 wr => ∃ (k : Nat) (ms : List Int), gk = n - k ∧ s8 = .int .i64 (k : Int) ∧ k ≤ n ∧ wr.ownsRow D 3 1 (.slice (some ⟨D, 0, none⟩) n n) n (flat ms) ∧ ms.length = n ∧ (∀ y : Nat, y < k → ms[y]! = -1) ∧ Below D w2 wr)
  case atStart => exact ⟨0, _, rfl, rfl, Nat.zero_le _, O3.out, by simp, fun y hy => by omega, E3.out⟩
  case round =>
    clear O3 E3
    obtain ⟨k, ms, hgk, rfl, hk, hO, hml, hms, hE⟩ := hrel
    have OM := hidH hO
    have HMS := hidH hms
    have HML := hidH hml
    have EE := hidH hE
    clear hO hms hml hE
    by_cases hkn : k < n
    · have hkn' : (k : Int) < (n : Int) := by omega
      have hkl : k < ms.length := by rw [HML.out]; exact hkn
      obtain ⟨v, hv⟩ : ∃ v, ms[k]? = some v := ⟨_, List.getElem?_eq_getElem hkl⟩
      obtain ⟨cM, fM⟩ := row_cell OM.out hv
      have kk : IntKind.i64.wrap ((k : Int) + 1) = ((k + 1 : Nat) : Int) := by rw [IntWalk.i64_in _ ⟨by omega, by omega⟩]; omega
      have O2 : Hid ((wr.setCell ⟨D, k, none⟩ (.int .i64 (-1))).ownsRow D 3 1 (.slice (some ⟨D, 0, none⟩) n n) n (flat (ms.set k (-1)))) := by
        have h1 := (World.ownsRow.stored OM.out k (.int .i64 (-1))).1
        rw [flat_setI] at h1
        exact h1
      have E4 := hidH (EE.out.setCell (p := ⟨D, k, none⟩) (Nat.le_refl _) (.int .i64 (-1)))
      have M2 : Hid (∀ y : Nat, y < k + 1 → (ms.set k (-1))[y]! = -1) := fun y hy => by
        rw [get_set ms k y _ hkl]
        by_cases e : y = k
        · rw [if_pos e]
        · rw [if_neg e]; exact HMS.out y (by omega)
      clear hv
      go_wp2
      go_roundg (n - (k + 1))
      case measure => omega
      case rel => exact ⟨k + 1, _, rfl, rfl, by omega, O2.out, by rw [List.length_set]; exact HML.out, M2.out, E4.out⟩
    · have hkn' : ¬ (k : Int) < (n : Int) := by omega
      have T0 : Hid (Tl ps n 0 ms) := fun y hy => .inl ⟨HMS.out y (by omega), fun z hz => absurd hz (Nat.not_lt_zero _)⟩
      clear HMS
      go_upto_region 9 with fail
      go_loopg [9] n (fun gk s9 wr => ∃ (x : Nat) (ms : List Int), gk = n - x ∧ s9 = .int .i64 (x : Int) ∧ x ≤ n ∧ wr.ownsRow D 3 1 (.slice (some ⟨D, 0, none⟩) n n) n (flat ms) ∧ ms.length = n ∧ Tl ps n x ms ∧ Below D w2 wr)
      case atStart => exact ⟨0, ms, rfl, rfl, Nat.zero_le _, OM.out, HML.out, T0.out, EE.out⟩
      case round =>
        clear OM HML T0 EE
        obtain ⟨x, ms, hgk2, rfl, hxn, hO, hml, hT, hE⟩ := hrel
        have OM := hidH hO
        have HML := hidH hml
        have TT := hidH hT
        have EE := hidH hE
        clear hO hml hT hE
        by_cases hx : x < n
        · have hx' : (x : Int) < (n : Int) := by omega
          have kx : IntKind.i64.wrap ((x : Int) + 1) = ((x + 1 : Nat) : Int) := by rw [IntWalk.i64_in _ ⟨by omega, by omega⟩]; omega
          have hxl : x < ms.length := by rw [HML.out]; exact hx
          obtain ⟨v, hv⟩ : ∃ v, ms[x]! = v := ⟨_, rfl⟩
          have hvx : ms[x]? = some v := by rw [List.getElem?_eq_getElem hxl, ← hv, getElem!_pos ms x hxl]
          obtain ⟨cM, fM⟩ := row_cell OM.out hvx
          have HV := hidH hv
          clear hv hvx
          by_cases hv0 : 0 ≤ v
          · have T2 := hidH (TT.out.skip hx (by rw [HV.out]; exact hv0))
            go_wp2
            go_roundg (n - (x + 1))
            case measure => omega
            case rel => exact ⟨x + 1, ms, rfl, rfl, by omega, OM.out, HML.out, T2.out, EE.out⟩
          · have O2 : Hid ((wr.setCell ⟨D, x, none⟩ (.int .i64 (x : Int))).ownsRow D 3 1 (.slice (some ⟨D, 0, none⟩) n n) n (flat (ms.set x (x : Int)))) := by
              have h1 := (World.ownsRow.stored OM.out x (.int .i64 (x : Int))).1
              rw [flat_setI] at h1
              exact h1
            have E4 := hidH (EE.out.setCell (p := ⟨D, x, none⟩) (Nat.le_refl _) (.int .i64 (x : Int)))
            go_upto_region 13 with fail
            obtain ⟨wS, hwS⟩ : ∃ wS, wr.setCell ⟨D, x, none⟩ (.int .i64 (x : Int)) = wS := ⟨_, rfl⟩
            rw [hwS] at O2 E4 ⊢
            clear hwS cM fM OM EE
            obtain ⟨a1, c1, d1, -⟩ := NX.out.row x hx
            obtain ⟨a2, c2, d2, -⟩ := UX.out.row x hx
            obtain ⟨r1, hr1⟩ : ∃ r, (nd ps x).length = r := ⟨_, rfl⟩
            obtain ⟨r2, hr2⟩ : ∃ r, (usr ps (x : Int)).length = r := ⟨_, rfl⟩
            rw [hr1] at d1
            simp only [hr2] at d2
            have HR1 := hidH hr1
            have HR2 := hidH hr2
            have cN := (E4.out.cell (p := ⟨B, x, none⟩) NX.out.lt).trans d1
            have cU := (E4.out.cell (p := ⟨C, x, none⟩) UX.out.lt).trans d2
            clear d1 d2 hr1 hr2
            have ML2 : Hid ((ms.set x (x : Int)).length = n) := by rw [Hid, List.length_set]; exact HML.out
            by_cases h10 : r1 = 0
            · subst h10
              have T2 : Hid (Tl ps n (x + 1) (ms.set x (x : Int))) := Tm.done TT.out hx (by rw [HV.out]; omega) (Tm.start (dn := fun _ => False) hxl (fun y _ h => h)) (fun y _ hs => .inl (sam_no1 HR1.out hs))
              go_wp2
              go_roundg (n - (x + 1))
              case measure => omega
              case rel => exact ⟨x + 1, _, rfl, rfl, by omega, O2.out, ML2.out, T2.out, E4.out⟩
            · have h10a : ¬ (r1 : Int) = 0 := by omega
              have h10b : ((r1 : Int) == 0) = false := by rw [beq_eq_false_iff_ne]; exact h10a
              have h10c : decide ((r1 : Int) = 0) = false := decide_eq_false h10a
              by_cases h20 : r2 = 0
              · subst h20
                have T2 : Hid (Tl ps n (x + 1) (ms.set x (x : Int))) := Tm.done TT.out hx (by rw [HV.out]; omega) (Tm.start (dn := fun _ => False) hxl (fun y _ h => h)) (fun y _ hs => .inl (sam_no2 HR2.out hs))
                go_wp2
                go_roundg (n - (x + 1))
                case measure => omega
                case rel => exact ⟨x + 1, _, rfl, rfl, by omega, O2.out, ML2.out, T2.out, E4.out⟩
              · have h20a : ¬ (r2 : Int) = 0 := by omega
                have h20b : ((r2 : Int) == 0) = false := by rw [beq_eq_false_iff_ne]; exact h20a
                have h20c : decide ((r2 : Int) = 0) = false := decide_eq_false h20a
                have hDS : D ≤ wS.heap.size := by have := E4.out.size; have := HDE.out; omega
                have QFa := hidH (rfar_any x n B (nd ps) (ps.map swapP) wS ((NX.out.below E4.out).up hDS) (fun z hz => ⟨Nat.le_trans (nd_len ps z) hm, fun y => mem_nd.trans (trn_swap ps y z).symm⟩) HPT.out hx hn)
                go_upto_region 15 with (go_at_call 60; (with_reducible refine QFa.out.mono ?_); clear QFa; rintro e wa ⟨hba, rfl, Fa, qa, hMa, hQa⟩; have HBa := hidH hba; have MA := hidH hMa; have QA := hidH hQa; clear hba hMa hQa)
                have Ea : Hid (Below D w2 wa) := E4.out.trans (HBa.out.mono hDS)
                have Oa := hidH (own_belowR O2.out HBa.out (Nat.le_refl _))
                have hDa : D ≤ wa.heap.size := by have := Ea.out.size; have := HDE.out; omega
                obtain ⟨ba, hbae⟩ : ∃ b, wS.heap.size = b := ⟨_, rfl⟩
                have hDba : D < ba := by have := (O2.out.lt D rfl).2; omega
                rw [hbae] at MA ⊢
                have hbal : ba < wa.heap.size := MA.out.lt
                have QFb := hidH (rfar_any x n C (fun x => usr ps (x : Int)) ps wa ((UX.out.below Ea.out).up hDa) (fun z hz => ⟨Nat.le_trans (usr_len ps (z : Int)) hm, fun y => mem_usr⟩) HPS.out hx hn)
                clear HBa hbae O2 E4 cN cU hDS
                go_upto_region 16 with (go_at_call 60; (with_reducible refine QFb.out.mono ?_); clear QFb; rintro e wb ⟨hbb, rfl, Fb, qb, hMb, hQb⟩; have HBb := hidH hbb; have MB := hidH hMb; have QB := hidH hQb; clear hbb hMb hQb)
                have Eb : Hid (Below D w2 wb) := Ea.out.trans (HBb.out.mono hDa)
                have Ob := hidH (own_belowR Oa.out HBb.out (Nat.le_refl _))
                have MA2 := hidH (MA.out.below HBb.out)
                obtain ⟨bb, hbbe⟩ : ∃ b, wa.heap.size = b := ⟨_, rfl⟩
                rw [hbbe] at MB hbal hDa ⊢
                have hbbl : bb < wb.heap.size := MB.out.lt
                clear HBb hbbe Oa Ea MA
                obtain ⟨Dm, m, hown, -, -, hDm, hDz⟩ := MA2.out
                have HOW := hidH hown
                have HDM := hidH hDm
                have HDZ := hidH hDz
                clear hown hDm hDz MA2
                obtain ⟨r, hrr⟩ : ∃ r, wb.heap.size = r := ⟨_, rfl⟩
                go_upto_region 17 with (at_range; refine wpList_range_own _ rfl _ 95 rfl 3 3 (int_keyed Tryz.underlying3) Tryz.underlying95 _ ba m Dm rfl HOW.out ?_; intro w0 hrg0 hg0 hs0; rw [hrr] at hrg0 hs0 ⊢; have RG0 := hidH hrg0; have E0 : Hid (Below D w2 w0) := (Eb.out.grown hg0 (by omega) (fun k h => by cases h)); have O0 : Hid (w0.ownsRow D 3 1 (.slice (some ⟨D, 0, none⟩) n n) n (flat (ms.set x (x : Int)))) := (own_same Ob.out (fun g e => hg0.block g (Ob.out.lt g e).2 (by simp))); have M0 := hidH (MB.out.block (hg0.block bb hbbl (by simp))); have HS0 := hidH hs0; clear hrg0 hg0 hs0)
                try go_frame
                have SAa : Hid (∀ y, Sam ps x y → y ∈ qa) := fun y hs => QA.out.rch.2 (hs.1.back (trn_swap ps))
                have hrD : D < r := by omega
                have hrbb : bb < r := by omega
                clear hrr hbbl
                go_loopg [12] (Go.Maps.size Dm) (fun g3 s12 wq => ∃ (left : Lit → Bool) (cnt : Nat) (ms' : List Int), g3 = cnt ∧ wq.ranges Tryz.prog 3 (plainElem Tryz.prog 3) ba r m Dm left cnt ∧ (∀ z : Int, left (.int .i64 z) = true → ∃ y : Nat, z = (y : Int) ∧ y ∈ qa) ∧ Tm ps n x ms (fun y => left (.int .i64 (y : Int)) = false) ms' ∧ ms'.length = n ∧ wq.ownsRow D 3 1 (.slice (some ⟨D, 0, none⟩) n n) n (flat ms') ∧ Mq wq bb Fb qb ∧ Below D w2 wq)
                case atStart => exact ⟨_, _, _, rfl, RG0.out, fun z hz => ⟨z.toNat, by have := HDZ.out z hz; omega, by have h1 := HDZ.out z hz; have h2 := (HDM.out z.toNat).1; rw [show ((z.toNat : Nat) : Int) = z by omega, hz] at h2; exact of_decide_eq_true h2.symm⟩, Tm.start hxl (fun y hs h => by rw [(HDM.out y).1] at h; exact absurd (SAa.out y hs) (of_decide_eq_false h)), ML2.out, O0.out, M0.out, E0.out⟩
                case round =>
                  clear RG0 O0 M0 E0 HS0 HOW HDM HDZ Ob MB Eb ML2
                  obtain ⟨left, cnt, ms', hg3, hRG, hlf, hTm, hml2, hO2, hM2, hE2⟩ := hrel
                  have RG := hidH hRG
                  have LF := hidH hlf
                  have TM := hidH hTm
                  have ML3 := hidH hml2
                  have O3 := hidH hO2
                  have M3 := hidH hM2
                  have E3 := hidH hE2
                  clear hRG hlf hTm hml2 hO2 hM2 hE2
                  go_wp2_with (at_next; refine wpList_next_ranges_ii _ rfl _ rfl 3 3 .i64 .i64 (int_keyed Tryz.underlying3) Tryz.underlying3 Tryz.underlying3 ba r m Dm left cnt rfl RG.out ?_ ?_)
                  · intro hc0 hl0
                    have T2 : Hid (Tl ps n (x + 1) ms') := Tm.done TT.out hx (by rw [HV.out]; omega) TM.out (fun y _ hs => .inr (hl0 _))
                    clear hl0
                    go_wp2
                    go_roundg (n - (x + 1))
                    case measure => omega
                    case rel => exact ⟨x + 1, _, rfl, rfl, by omega, O3.out, ML3.out, T2.out, E3.out⟩
                  · intro z c w4 cnt4 hwx hwc hlx hat hrg4 hlt hg4 hs4 hen
                    obtain ⟨y, rfl, hyqa⟩ := LF.out z hlx
                    have hyn : y < n := QA.out.rng y hyqa
                    have hrl := RG.out.lt
                    have hbl := M3.out.lt
                    have RG4 : Hid (w4.ranges Tryz.prog 3 (plainElem Tryz.prog 3) ba r m Dm (fun z => left z && !z.sameKey (.int .i64 (y : Int))) cnt4) := hrg4
                    have E5 : Hid (Below D w2 w4) := E3.out.grown hg4 (by omega) (fun k h => by cases h; omega)
                    have O5 : Hid (w4.ownsRow D 3 1 (.slice (some ⟨D, 0, none⟩) n n) n (flat ms')) := own_same O3.out (fun g e => hg4.block g (O3.out.lt g e).2 (fun h => by have e2 : D = g := (by simpa [Value.ownBlock] using e); injection h with h; omega))
                    have M5 := hidH (M3.out.block (hg4.block bb hbl (fun h => by injection h with h; omega)))
                    have LF5 : Hid (∀ u : Int, (fun z : Lit => left z && !z.sameKey (.int .i64 (y : Int))) (.int .i64 u) = true → ∃ y : Nat, u = (y : Int) ∧ y ∈ qa) := fun u hu => LF.out u ((Bool.and_eq_true _ _ ▸ hu : _ ∧ _).1)
                    have hyl : y < ms'.length := by rw [ML3.out]; exact hyn
                    obtain ⟨u, hu⟩ : ∃ u, ms'[y]? = some u := ⟨_, List.getElem?_eq_getElem hyl⟩
                    obtain ⟨cM, fM⟩ := row_cell O5.out hu
                    have hy' : (y : Int) < (n : Int) := by omega
                    clear hrg4 hg4 hs4 hat hlx hwx hwc hu RG M3 O3 E3
                    by_cases hyb : y ∈ qb
                    · have lk := M5.out.look_yes hyb (by omega)
                      have hs : Sam ps x y := ⟨(QA.out.rch.1 hyqa).turn (trn_swap ps), QB.out.rch.1 hyb⟩
                      have TM5 : Hid (Tm ps n x ms (fun z => (fun z : Lit => left z && !z.sameKey (.int .i64 (y : Int))) (.int .i64 (z : Int)) = false) (ms'.set y (x : Int))) := TM.out.put hyl hs (fun z => lf6 left y z)
                      have O6 : Hid ((w4.setCell ⟨D, y, none⟩ (.int .i64 (x : Int))).ownsRow D 3 1 (.slice (some ⟨D, 0, none⟩) n n) n (flat (ms'.set y (x : Int)))) := by
                        have h1 := (World.ownsRow.stored O5.out y (.int .i64 (x : Int))).1
                        rw [flat_setI] at h1
                        exact h1
                      have E6 := hidH (E5.out.setCell (p := ⟨D, y, none⟩) (Nat.le_refl _) (.int .i64 (x : Int)))
                      have M6 := hidH (M5.out.block (Below.heap_setCell w4 ⟨D, y, none⟩ (.int .i64 (x : Int)) bb (by show bb ≠ D; omega)))
                      have RG6 := hidH (ranges_block RG4.out (Below.heap_setCell w4 ⟨D, y, none⟩ (.int .i64 (x : Int)) ba (by show ba ≠ D; omega)) (Below.heap_setCell w4 ⟨D, y, none⟩ (.int .i64 (x : Int)) r (by show r ≠ D; omega)))
                      have ML6 : Hid ((ms'.set y (x : Int)).length = n) := by rw [Hid, List.length_set]; exact ML3.out
                      clear hs
                      go_wp2
                      go_roundg cnt4
                      case measure => omega
                      case rel => exact ⟨_, cnt4, _, rfl, RG6.out, LF5.out, TM5.out, ML6.out, O6.out, M6.out, E6.out⟩
                    · obtain ⟨c9, lk⟩ := M5.out.look_no hyb (by omega)
                      have hs : ¬ Sam ps x y := fun h => hyb (QB.out.rch.2 h.2)
                      have TM5 : Hid (Tm ps n x ms (fun z => (fun z : Lit => left z && !z.sameKey (.int .i64 (y : Int))) (.int .i64 (z : Int)) = false) ms') := TM.out.skip hs (fun z => lf6 left y z)
                      clear hs
                      go_wp2
                      go_roundg cnt4
                      case measure => omega
                      case rel => exact ⟨_, cnt4, _, rfl, RG4.out, LF5.out, TM5.out, ML3.out, O5.out, M5.out, E5.out⟩
        · have hx' : ¬ (x : Int) < (n : Int) := by omega
          have hxe : x = n := by omega
          have EW : Hid (Below B w wr) := E2.out.trans (EE.out.mono (by omega))
          have TN : Hid (Tl ps n n ms) := by have h9 := TT.out; rw [hxe] at h9; exact h9
          have OB := hidH (own_lower OM.out (show B ≤ D by omega))
          go_wp2
          go_ret
          exact ⟨D, rfl, by first | exact EW.out | (rw [hB]; exact EW.out), ms, by first | exact OB.out | (rw [hB]; exact OB.out), HML.out, TN.out⟩
end Go.Proofs.YtgijcbipnjmhgabGreat

namespace Go.Proofs.YtgijcbipnjmhgabGreat
open Go.ChangeShapes Go.WideShapes Go.ChangeAt Go.RowKit
set_option linter.unusedVariables false
set_option linter.unusedSimpArgs false

/-- the lows that the reference's Together tells, as numbers -/
def lwT (ms : List Int) (y : Nat) : Nat := (ms[y]!).toNat
theorem Tl.low {ps : List Pr} {n y : Nat} {ms : List Int} (h : Tl ps n n ms) (hy : y < n) : ms[y]! = (lwT ms y : Int) ∧ Low ps y (lwT ms y) ∧ lwT ms y < n := by
  rcases h y hy with ⟨-, hno⟩ | ⟨l, hl, e, hL⟩
  · exact absurd (Sam.refl ps y) (hno y hy)
  · have e2 : lwT ms y = l := by unfold lwT; rw [e]; omega
    rw [e2]
    exact ⟨e, hL, hl⟩
theorem Lws.same {ps : List Pr} {n : Nat} {lw lw' : Nat → Nat} (h : Lws ps n lw) (k : Lws ps n lw') {y : Nat} (hy : y < n) : lw y = lw' y := by
  have h1 := h.low y hy
  have h2 := k.low y hy
  have a := h1.2 _ h2.1
  have b := h2.2 _ h1.1
  omega
theorem btw_same {ps : List Pr} {n : Nat} {lw lw' : Nat → Nat} (hps : ∀ p ∈ ps, (0 ≤ p.a ∧ p.a < (n : Int)) ∧ (0 ≤ p.b ∧ p.b < (n : Int))) (h : ∀ y, y < n → lw y = lw' y) : btw lw ps = btw lw' ps := by
  have key : ∀ p ∈ ps, lw p.a.toNat = lw' p.a.toNat ∧ lw p.b.toNat = lw' p.b.toNat := fun p hp => by
    have := hps p hp
    exact ⟨h _ (by omega), h _ (by omega)⟩
  unfold btw
  rw [List.filter_congr (q := fun p => decide (lw' p.a.toNat ≠ lw' p.b.toNat)) (fun p hp => by rw [(key p hp).1, (key p hp).2])]
  exact List.map_congr_left fun p hp => by
    have h9 := key p (List.mem_filter.1 hp).1
    rw [h9.1, h9.2]
theorem mem1_same {n : Nat} {lw lw' : Nat → Nat} (h : ∀ y, y < n → lw y = lw' y) (z : Nat) : mem1 n lw z = mem1 n lw' z := by
  unfold mem1
  rw [List.filter_congr (q := fun y => decide (lw' y = z)) (fun y hy => by rw [h y (List.mem_range.1 hy)])]
/-- both Parts answer the same -/
theorem parts_same {ps : List Pr} {n : Nat} {lw lw' : Nat → Nat} {N : Nat → List Int} {os os' : List Int} (h : Lws ps n lw) (hN : LstR n (btw lw ps) N) (hl : Ln N n os) (h' : Lws ps n lw') (hg : Gn (fun x => (0 ≤ x ∧ x < (n : Int)) ∧ decide ((lw' x.toNat : Int) = x) = true) (fun x z => (⟨x, z⟩ : Pr) ∈ btw lw' ps) os') : pts n lw os = os'.map fun x => mem1 n lw' x.toNat := by
  have hs : ∀ y, y < n → lw y = lw' y := fun y hy => h.same h' hy
  have e : los lw os = os' := by
    refine Gn.uniq ((los_gn h hN hl).congr (fun x => ?_) (fun x hx z => ?_)) hg
    · refine and_congr_right fun hx => ?_
      rw [hs x.toNat (by omega)]
    · rw [btw_same h.rng hs]
  rw [pts_los, e]
  exact List.map_congr_left fun x _ => mem1_same hs _
/-- who belongs where, as pairs -/
def mps (lw : Nat → Nat) (k : Nat) : List Pr := (List.range k).map fun y => ⟨(lw y : Int), (y : Int)⟩
theorem mps_snoc (lw : Nat → Nat) (k : Nat) : mps lw (k + 1) = mps lw k ++ [⟨(lw k : Int), (k : Int)⟩] := by
  unfold mps
  rw [List.range_succ, List.map_append]
  rfl
theorem nd_mps (n : Nat) (lw : Nat → Nat) (z : Nat) : nd (mps lw n) z = mem1 n lw z := by
  unfold nd mps mem1
  rw [List.filter_map, List.map_map]
  rw [List.filter_congr (q := fun y => decide (lw y = z)) (fun y hy => by
    show decide (((lw y : Nat) : Int) = (z : Int)) = decide (lw y = z)
    rw [decide_eq_decide]
    omega)]
  rfl
end Go.Proofs.YtgijcbipnjmhgabGreat
