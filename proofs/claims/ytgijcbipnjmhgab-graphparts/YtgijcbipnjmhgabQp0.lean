import Derived.Test.YtgijcbipnjmhgabGx2
import Derived.Maps.Own
import Derived.Maps.OwnOps
import Derived.Maps.OwnSet
import Derived.Maps.Views
import Derived.Test.YtgijcbipnjmhgabGq2
import Derived.Maps.RangeWalk
import Derived.Test.YtgijcbipnjmhgabFa3
namespace Go.Proofs.Ytgijcbipnjmhgab
open Go.ChangeShapes Go.WideShapes Go.ChangeAt Go.RowKit
open Go.Maps (Keyed int_keyed keyOf_int_mk)
set_option linter.unusedVariables false
set_option linter.unusedSimpArgs false

theorem zeroI6 (w : World) : (zeroValue 3).run Try.prog w = .ok (.int .i64 0) w := by kernel_rfl
theorem wfN6 {x : Nat} (h : x ≤ 9223372036854775807) : (Lit.int .i64 (x : Int)).wf = true := by simp [Lit.wf, IntKind.min, IntKind.max, IntKind.bits, IntKind.signed]; omega
/-- a map that tells how far each of q is -/
def Mq (w : World) (b : Nat) (F : Nat → Nat) (q : List Nat) : Prop := ∃ (D : DataW Unit) (m : Nat), w.ownsMap Try.prog 3 (plainElem Try.prog 3) b m D ∧ m ≤ q.length ∧ (∃ es, D = .map es) ∧ (∀ x : Nat, Go.Maps.has D (.int .i64 (x : Int)) = decide (x ∈ q) ∧ (x ∈ q → D.atKey (.int .i64 (x : Int)) (.lit (.int .i64 0)) = .lit (.int .i64 (F x : Int)))) ∧ ∀ z : Int, Go.Maps.has D (.int .i64 z) = true → 0 ≤ z
theorem Mq.block {w w' : World} {b : Nat} {F : Nat → Nat} {q : List Nat} (h : Mq w b F q) (hb : w'.heap[b]? = w.heap[b]?) : Mq w' b F q := by
  obtain ⟨D, m, ⟨es, cl, h1, h2⟩, h3⟩ := h
  exact ⟨D, m, ⟨es, cl, hb.trans h1, h2⟩, h3⟩
theorem Mq.lt {w : World} {b : Nat} {F : Nat → Nat} {q : List Nat} (h : Mq w b F q) : b < w.heap.size := by
  obtain ⟨D, m, h1, -⟩ := h
  exact h1.lt
theorem Mq.below {w w' : World} {b : Nat} {F : Nat → Nat} {q : List Nat} (h : Mq w b F q) (hb : Below w.heap.size w w') : Mq w' b F q := h.block (hb.block b h.lt)
theorem Mq.look {w : World} {b x : Nat} {F : Nat → Nat} {q : List Nat} (h : Mq w b F q) (hx : x ∈ q) (hl : x ≤ 9223372036854775807) : (Instr.lookup 78 (.map (some b)) (.int .i64 (x : Int)) false).run Try.prog w = .ok (.int .i64 (F x : Int)) w := by
  obtain ⟨D, m, h1, -, h2, h3, -⟩ := h
  obtain ⟨c, hr, hat, hw⟩ := h1.lookup_int (int_keyed Try.underlying3) Try.underlying78 Try.underlying3 (zeroI6 w) (keyOf_int_mk Try.underlying3 (wfN6 hl))
  rw [(h3 x).2 hx] at hat
  cases hat
  exact hr
theorem Mq.look_yes {w : World} {b x : Nat} {F : Nat → Nat} {q : List Nat} (h : Mq w b F q) (hx : x ∈ q) (hl : x ≤ 9223372036854775807) : (Instr.lookup 78 (.map (some b)) (.int .i64 (x : Int)) true).run Try.prog w = .ok (.tuple #[.int .i64 (F x : Int), .bool true]) w := by
  obtain ⟨D, m, h1, -, h2, h3, -⟩ := h
  obtain ⟨v, ps, hr, hv⟩ := h1.look_ok (int_keyed Try.underlying3) Try.underlying78 (zeroI6 w) (plainElem_int Try.underlying3 (by decide)) (keyOf_int_mk Try.underlying3 (wfN6 hl))
  obtain ⟨c, rfl, hc, hwc⟩ := plainElem_int_inv Try.underlying3 hv
  have hat := congrArg Prod.fst hc
  simp only at hat
  rw [(h3 x).2 hx] at hat
  cases hat
  rw [(h3 x).1, decide_eq_true hx] at hr
  exact hr
theorem Mq.look_no {w : World} {b x : Nat} {F : Nat → Nat} {q : List Nat} (h : Mq w b F q) (hx : x ∉ q) (hl : x ≤ 9223372036854775807) : ∃ c : Int, (Instr.lookup 78 (.map (some b)) (.int .i64 (x : Int)) true).run Try.prog w = .ok (.tuple #[.int .i64 c, .bool false]) w := by
  obtain ⟨D, m, h1, -, h2, h3, -⟩ := h
  obtain ⟨v, ps, hr, hv⟩ := h1.look_ok (int_keyed Try.underlying3) Try.underlying78 (zeroI6 w) (plainElem_int Try.underlying3 (by decide)) (keyOf_int_mk Try.underlying3 (wfN6 hl))
  obtain ⟨c, rfl, hc, hwc⟩ := plainElem_int_inv Try.underlying3 hv
  rw [(h3 x).1, decide_eq_false hx] at hr
  exact ⟨c, hr⟩
theorem Mq.put {w : World} {b x v : Nat} {F : Nat → Nat} {q : List Nat} (h : Mq w b F q) (hl : x ≤ 9223372036854775807) (hv : v ≤ 9223372036854775807) (hq : q.length < maxLen) : ∃ w', (Instr.mapUpdate 78 (.map (some b)) (.int .i64 (x : Int)) (.int .i64 (v : Int))).run Try.prog w = .ok () w' ∧ Mq w' b (fun z => if z = x then v else F z) (q ++ [x]) ∧ w.grownBy w' (some b) := by
  obtain ⟨D, m, h1, hm, h2, h3, h4⟩ := h
  obtain ⟨w', hr, ho, hg⟩ := h1.update (int_keyed Try.underlying3) Try.underlying78 (Nat.lt_of_le_of_lt hm hq) (keyOf_int_mk Try.underlying3 (wfN6 hl)) (plainElem_int Try.underlying3 (wfN6 hv))
  refine ⟨w', hr, ⟨_, _, ho, by rw [List.length_append, List.length_singleton]; omega, Go.Maps.IsMap.put h2 _ _, fun y => ?_, fun z hz => ?_⟩, hg⟩
  rotate_left
  · by_cases e : z = (x : Int)
    · omega
    · have hne : (Lit.int .i64 z) ≠ Lit.int .i64 (x : Int) := by intro h; simp at h; omega
      rw [Go.Maps.has_put_other hne] at hz
      exact h4 z hz
  by_cases e : y = x
  · subst e
    exact ⟨by rw [Go.Maps.has_put_same h2 (by trivial)]; simp, fun _ => by rw [Go.Maps.atKey_put_same h2 (by trivial)]; simp⟩
  · have hne : (Lit.int .i64 (y : Int)) ≠ Lit.int .i64 (x : Int) := by intro h; simp at h; omega
    refine ⟨by rw [Go.Maps.has_put_other hne, (h3 y).1]; simp [e], fun hy => ?_⟩
    rw [Go.Maps.atKey_put_other hne]
    show _ = DataW.lit (Lit.int .i64 (((if y = x then v else F y : Nat)) : Int))
    rw [if_neg e]
    exact (h3 y).2 ((List.mem_append.1 hy).resolve_right (by simpa using e))
theorem Mq.made (w : World) (F : Nat → Nat) : Mq (w.alloc (.map #[] 0)) w.heap.size F [] := ⟨_, 0, World.ownsMap_made _ _ _ _, Nat.le_refl _, ⟨_, rfl⟩, fun x => ⟨by simp [Go.Maps.has], fun h => by cases h⟩, fun z hz => by simp [Go.Maps.has] at hz⟩
theorem Mq.ne {w : World} {b B e k n : Nat} {v : Value} {xs : List Value} {F : Nat → Nat} {q : List Nat} (h : Mq w b F q) (ho : w.ownsRow B e k v n xs) : v.ownBlock ≠ some b := by
  obtain ⟨D, m, ⟨es, cl, h1, h2⟩, h3⟩ := h
  rcases ho.2 with ⟨hv, h0⟩ | ⟨g, c, cur, hv, hg, hh, -⟩
  · rw [hv]; simp [Value.ownBlock]
  · rw [hv]
    intro e
    simp [Value.ownBlock] at e
    subst e
    rw [h1] at hh
    cases hh
/-- far's world: the map, the row that is looked at, the next one -/
structure Fq (B b : Nat) (w : World) (F : Nat → Nat) (q : List Nat) (V6 : Value) (row : List Nat) (V7 : Value) (nx : List Nat) : Prop where
  mp : Mq w b F q
  ro : w.ownsRow B 3 1 V6 row.length (flat (qI row))
  nx : w.ownsRow B 3 1 V7 nx.length (flat (qI nx))
  ap : ∀ g, V6.ownBlock = some g → V7.ownBlock ≠ some g
theorem Fq.below {B b : Nat} {w w' : World} {F : Nat → Nat} {q row nx : List Nat} {V6 V7 : Value} (h : Fq B b w F q V6 row V7 nx) (hb : Below w.heap.size w w') : Fq B b w' F q V6 row V7 nx :=
  ⟨h.mp.below hb, own_belowR h.ro hb (Nat.le_refl _), own_belowR h.nx hb (Nat.le_refl _), h.ap⟩
theorem Fq.upd {B b : Nat} {w w' : World} {F F' : Nat → Nat} {q q' row nx : List Nat} {V6 V7 : Value} (h : Fq B b w F q V6 row V7 nx) (hm : Mq w' b F' q') (hg : w.grownBy w' (some b)) : Fq B b w' F' q' V6 row V7 nx :=
  ⟨hm, own_same h.ro (fun g e => hg.block g (h.ro.lt g e).2 (fun e2 => h.mp.ne h.ro (by rw [e, e2]))), own_same h.nx (fun g e => hg.block g (h.nx.lt g e).2 (fun e2 => h.mp.ne h.nx (by rw [e, e2]))), h.ap⟩
theorem Fq.push {B b y : Nat} {w w' : World} {F : Nat → Nat} {q row nx : List Nat} {V6 V7 V' : Value} (h : Fq B b w F q V6 row V7 nx) (ho : w'.ownsRow B 3 1 V' (nx.length + 1) (flat (qI nx) ++ [.int .i64 (y : Int)])) (hg : w.grownBy w' V7.ownBlock) (hn : V'.ownBlock = V7.ownBlock ∨ ∃ g, V'.ownBlock = some g ∧ w.heap.size ≤ g) : Fq B b w' F q V6 row V' (nx ++ [y]) := by
  refine ⟨h.mp.block (hg.block b h.mp.lt (fun e => h.mp.ne h.nx e.symm)), own_same h.ro (fun g e => hg.block g (h.ro.lt g e).2 (fun e2 => h.ap g e e2.symm)), ?_, fun g e e2 => ?_⟩
  · rw [List.length_append, List.length_singleton, qI, List.map_append, flat_append]
    exact ho
  · rcases hn with e3 | ⟨g', e3, hg2⟩
    · rw [e3] at e2; exact h.ap g e e2
    · rw [e3] at e2
      injection e2 with e2
      have := (h.ro.lt g e).2
      omega
set_option maxRecDepth 1000000 in
set_option maxHeartbeats 4000000 in
theorem rfar_any (f n gV : Nat) (R : Nat → List Int) (ps : List Pr) (w : World) (hR : Rx6 w.heap.size w gV n R) (hm : ∀ x, x < n → (R x).length ≤ 8796093022208 ∧ ∀ y, y ∈ R x ↔ (⟨y, (x : Int)⟩ : Pr) ∈ ps) (hps : ∀ p ∈ ps, (0 ≤ p.a ∧ p.a < (n : Int)) ∧ (0 ≤ p.b ∧ p.b < (n : Int))) (hf : f < n) (hn : n ≤ 131072) :
    Calls Try.prog 52 #[.int .i64 (f : Int), .slice (some ⟨gV, 0, none⟩) n n] w fun e w' => Below w.heap.size w w' ∧ e = .returned (.map (some w.heap.size)) ∧ ∃ F q, Mq w' w.heap.size F q ∧ Bq ps n f F q q.length (fun _ => False) := by
  obtain ⟨i0, hi0, hz0, hz1, hz2⟩ := info_parts infoIntH
  have hmm := @run_makeMap Try.prog
  have HRX := hidH hR
  have HM := hidH hm
  have HPS := hidH hps
  obtain ⟨B, hB⟩ : ∃ B, w.heap.size = B := ⟨_, rfl⟩
  rw [hB] at HRX
  have M0 : Mq (w.alloc (.map #[] 0)) B (fun y => if y = f then 0 else n) [] := by rw [← hB]; exact Mq.made w _
  obtain ⟨w1, hr1, hM1, hg1⟩ := M0.put (x := f) (v := 0) (by omega) (by omega) (by unfold maxLen; simp)
  have M1 : Hid (Mq w1 B (fun y => if y = f then 0 else n) [f]) := by
    have h9 := hM1
    rw [show (fun z => if z = f then 0 else (fun y => if y = f then 0 else n) z) = (fun y => if y = f then 0 else n) from funext fun z => by by_cases e : z = f; (simp [e]); (simp [e])] at h9
    exact h9
  have E1 : Hid (Below B w w1) := (((Below.refl B w).alloc (by omega) _).grown hg1 (by simp; omega) (fun k h => by cases h; exact Nat.le_refl _))
  have hr2 : (Instr.mapUpdate 78 (.map (some B)) (.int .i64 (f : Int)) (.int .i64 0)).run Try.prog (w.alloc (.map #[] 0)) = .ok () w1 := hr1
  clear hR hm hps M0 hM1 hg1 hr1
  go_enter Try.func52, Try.ntmps52
  go_upto_region 3 with fail
  obtain ⟨w2, e2, hb2, hs2, X2⟩ := bx1 w1 #[.int .i64 (f : Int)] 3
  have hw1B : B < w1.heap.size := M1.out.lt
  have M2 := hidH (M1.out.below hb2)
  have E2 := hidH (E1.out.trans (hb2.mono (Nat.le_of_lt hw1B)))
  have O2 : Hid (w2.ownsRow B 3 1 (.slice (some ⟨w1.heap.size, 0, none⟩) 1 1) ([f] : List Nat).length (flat (qI [f]))) := by
    have h1 := own_one B w1 (.int .i64 (f : Int)) 3 (Nat.le_of_lt hw1B)
    rw [e2] at h1
    exact h1
  rw [e2]
  clear e2 hb2 hs2 X2 M1 E1 hr2 hmm
  go_loopg [6] (n + 1) (fun gk s6 wr => ∃ (o : Nat) (V : Value) (row : List Nat) (F : Nat → Nat) (q : List Nat), gk = n + 1 - o ∧ s6 = V ∧ q.drop o = row ∧ o ≤ q.length ∧ Mq wr B F q ∧ wr.ownsRow B 3 1 V row.length (flat (qI row)) ∧ Bq ps n f F q o (fun _ => False) ∧ Below B w wr)
  case atStart => exact ⟨0, _, [f], _, [f], rfl, rfl, rfl, Nat.zero_le _, M2.out, O2.out, Bq.start hf, E2.out⟩
  case round =>
    clear M2 O2 E2
    obtain ⟨o, V, row, F, q0, hgk, rfl, hdr, hoq, hM, hO, hQ, hE⟩ := hrel
    have MM := hidH hM
    have OO := hidH hO
    have BQ := hidH hQ
    have EE := hidH hE
    have HDR := hidH hdr
    have hfew := hQ.few
    clear hM hO hQ hE
    obtain ⟨aV, cV, hV, haV, -⟩ := own_slice OO.out
    subst hV
    obtain ⟨m, hmq⟩ : ∃ m, row.length = m := ⟨_, rfl⟩
    have HMQ := hidH hmq
    have hom : q0.length = o + m := by rw [← hmq, ← hdr, List.length_drop]; omega
    have OO2 : Hid (wr.ownsRow B 3 1 (.slice aV m cV) m (flat (qI row))) := by have h9 := OO.out; rw [hmq] at h9; exact h9
    rw [hmq] at haV OO ⊢
    clear hdr hmq
    by_cases hm0 : 0 < m
    · have hm0' : (0 : Int) < (m : Int) := by omega
      obtain ⟨g6, rfl⟩ := haV hm0
      have FQ0 : Hid (Fq B B wr F (q0 ++ []) (.slice (some ⟨g6, 0, none⟩) m cV) row (.slice none 0 0) []) := ⟨by rw [List.append_nil]; exact MM.out, by rw [HMQ.out]; exact OO2.out, World.ownsRow_nil _ _ _ _, fun g e => by simp [Value.ownBlock]⟩
      have BQ0 : Hid (Bq ps n f F (q0 ++ []) (o + 0) (fun _ => False)) := by rw [List.append_nil]; exact BQ.out
      have ROW : Hid (∀ (i x : Nat), row[i]? = some x → ∀ nx, (q0 ++ nx)[o + i]? = some x) := fun i x hx nx => by
        have h9 := hx
        rw [← HDR.out, List.getElem?_drop] at h9
        rw [List.getElem?_append_left (List.getElem?_eq_some_iff.1 h9).1]
        exact h9
      clear MM BQ OO OO2
      go_wp2
      go_loopg [7, 8] m (fun g2 s7 s8 wq => ∃ (i : Nat) (V7 : Value) (nx : List Nat) (F : Nat → Nat), g2 = m - i ∧ s7 = V7 ∧ s8 = .int .i64 (i : Int) ∧ i ≤ m ∧ Fq B B wq F (q0 ++ nx) (.slice (some ⟨g6, 0, none⟩) m cV) row V7 nx ∧ Bq ps n f F (q0 ++ nx) (o + i) (fun _ => False) ∧ Below B w wq)
      case atStart => exact ⟨0, _, [], F, rfl, rfl, rfl, Nat.zero_le _, FQ0.out, BQ0.out, EE.out⟩
      case round =>
        clear FQ0 BQ0 EE
        obtain ⟨i, V7, nx, F, hg2, rfl, rfl, hi, hFq, hBq, hE⟩ := hrel
        have FQ := hidH hFq
        have BQ := hidH hBq
        have EE := hidH hE
        clear hFq hBq hE
        by_cases him : i < m
        · have him' : (i : Int) < (m : Int) := by omega
          have ki : IntKind.i64.wrap ((i : Int) + 1) = ((i + 1 : Nat) : Int) := by rw [IntWalk.i64_in _ ⟨by omega, by omega⟩]; omega
          obtain ⟨x, hx⟩ : ∃ x, row[i]? = some x := ⟨_, List.getElem?_eq_getElem (by rw [HMQ.out]; exact him)⟩
          have HX := hidH (ROW.out i x hx)
          have HXR := hidH hx
          have hxn : x < n := BQ.out.rng x (List.mem_of_getElem? (HX.out nx))
          have hxn' : (x : Int) < (n : Int) := by omega
          obtain ⟨aD, cD, cD1, hrow⟩ := HRX.out.row x hxn
          obtain ⟨r, hr⟩ : ∃ r, (R x).length = r := ⟨_, rfl⟩
          have hrp : r ≤ 8796093022208 := by rw [← hr]; exact (HM.out x hxn).1
          rw [hr] at cD1
          have HR := hidH hr
          have HROW := hidH hrow
          have HCD := hidH cD1
          clear hx hrow hr cD1
          go_upto_region 9 with fail
          go_loopg [7, 9] r (fun g3 s7 s9 wq => ∃ (k : Nat) (V7 : Value) (nx : List Nat) (F : Nat → Nat), g3 = r - k ∧ s7 = V7 ∧ s9 = .int .i64 (k : Int) ∧ k ≤ r ∧ Fq B B wq F (q0 ++ nx) (.slice (some ⟨g6, 0, none⟩) m cV) row V7 nx ∧ Bq ps n f F (q0 ++ nx) (o + i) (fun z => (z : Int) ∈ (R x).take k) ∧ Below B w wq)
          case atStart => exact ⟨0, _, nx, F, rfl, rfl, rfl, Nat.zero_le _, FQ.out, BQ.out.weak (fun z hz => by simp at hz), EE.out⟩
          case round =>
            clear FQ BQ EE
            obtain ⟨k, V7, nx, F, hg3, rfl, rfl, hk, hFq, hBq, hE⟩ := hrel
            have FQ := hidH hFq
            have BQ := hidH hBq
            have EE := hidH hE
            have hfew2 := hBq.few
            clear hFq hBq hE
            have cX := (row_cell (n := m) (by have h9 := FQ.out.ro; rw [HMQ.out] at h9; exact h9) (qI_get HXR.out)).1
            have cD0 := (EE.out.cell (p := ⟨gV, x, none⟩) HRX.out.lt).trans HCD.out
            by_cases hkr : k < r
            · have hkr' : (k : Int) < (r : Int) := by omega
              have kk : IntKind.i64.wrap ((k : Int) + 1) = ((k + 1 : Nat) : Int) := by rw [IntWalk.i64_in _ ⟨by omega, by omega⟩]; omega
              obtain ⟨y0, hy0⟩ : ∃ y, (R x)[k]? = some y := ⟨_, List.getElem?_eq_getElem (by rw [HR.out]; exact hkr)⟩
              have hye := ((HM.out x hxn).2 y0).1 (List.mem_of_getElem? hy0)
              have hyr := (HPS.out _ hye).1
              simp only at hyr
              obtain ⟨y, rfl⟩ : ∃ y : Nat, y0 = (y : Int) := ⟨y0.toNat, by omega⟩
              have hyn : y < n := by omega
              obtain ⟨g, rfl, hg, hcl⟩ := HROW.out (by rw [HR.out]; omega)
              have cY := (EE.out.cell (p := ⟨g, k, none⟩) hg).trans (hcl k _ hy0)
              have HY0 := hidH hy0
              have HYE := hidH hye
              clear hcl hy0 hye hyr
              by_cases hyq : y ∈ q0 ++ nx
              · have lk := FQ.out.mp.look_yes hyq (by omega)
                have BQ2 := hidH ((BQ.out.have hyn ((BQ.out.mkd y hyn).1 hyq)).weak (dn' := fun z => (z : Int) ∈ (R x).take (k + 1)) (fun z hz => (take_mem HY0.out hz).imp id (fun e => by omega)))
                go_wp2
                go_roundg (r - (k + 1))
                case measure => omega
                case rel => exact ⟨k + 1, _, nx, F, rfl, rfl, rfl, by omega, FQ.out, BQ2.out, EE.out⟩
              · obtain ⟨c, lk⟩ := FQ.out.mp.look_no hyq (by omega)
                have hFy : F y = n := Classical.byContradiction fun h => hyq ((BQ.out.mkd y hyn).2 h)
                obtain ⟨hvn, hqn, bq2⟩ := BQ.out.new (HX.out nx) hyn hFy HYE.out
                have lx := FQ.out.mp.look (x := x) (List.mem_of_getElem? (HX.out nx)) (by omega)
                obtain ⟨wM, hrM, hMM, hgM⟩ := FQ.out.mp.put (x := y) (v := F x + 1) (by omega) (by omega) (by unfold maxLen; omega)
                obtain ⟨v, hv⟩ : ∃ v, F x = v := ⟨_, rfl⟩
                have hrM2 : (Instr.mapUpdate 78 (.map (some B)) (.int .i64 (y : Int)) (.int .i64 ((v : Int) + 1))).run Try.prog wr = .ok () wM := by rw [← hv]; exact hrM
                rw [hv] at lx hvn
                have kv : IntKind.i64.wrap ((v : Int) + 1) = (v : Int) + 1 := by rw [IntWalk.i64_in _ ⟨by omega, by omega⟩]
                have FM := hidH (FQ.out.upd hMM hgM)
                have EM : Hid (Below B w wM) := EE.out.grown hgM (by have := FQ.out.mp.lt; omega) (fun g e => by cases e; exact Nat.le_refl _)
                have BQ2 : Hid (Bq ps n f (fun z => if z = y then F x + 1 else F z) (q0 ++ (nx ++ [y])) (o + i) (fun z => (z : Int) ∈ (R x).take (k + 1))) := by rw [← List.append_assoc]; exact bq2.weak (fun z hz => (take_mem HY0.out hz).imp id (fun e => by omega))
                clear hrM hMM hgM bq2 hFy hv
                obtain ⟨a7, c7, hV7, -, -⟩ := own_slice FQ.out.nx
                subst hV7
                go_upto_region 15 with fail
                obtain ⟨p, hp⟩ : ∃ p, nx.length = p := ⟨_, rfl⟩
                have HP := hidH hp
                have hpn : p ≤ n := by rw [List.length_append, hp] at hfew2; omega
                obtain ⟨zA, eA, hbA, hsA, BA⟩ := bx1 wM #[.int .i64 (y : Int)] 3
                have FA := hidH (FM.out.below hbA)
                have hBM : B ≤ wM.heap.size := Nat.le_of_lt FM.out.mp.lt
                have EA := hidH (EM.out.trans (hbA.mono hBM))
                have NA : Hid (∀ j u, [Value.int .i64 (y : Int)][j]? = some u → zA.cell? ((⟨wM.heap.size, 0, none⟩ : Addr).add j) = some u) := by unfold Hid; rw [← eA]; exact cells_newH wM [Value.int .i64 (y : Int)] 3
                have HEA := hidH eA
                have HSA := hidH hsA
                have hBA : B ≤ zA.heap.size := by omega
                have OA : Hid (zA.ownsRow B 3 1 (.slice a7 p c7) p (flat (qI nx))) := by have h9 := FA.out.nx; rw [HP.out] at h9; exact h9
                rw [hp] at FA ⊢
                clear eA hbA hsA BA hp FM EM FQ lk lx hrM2 cX cD0 cY
                go_wp2_with (at_builtin; rw [HEA.out]; refine wpList_append_lies _ rfl _ _ 24 rfl B 3 i0 (.int .i64 0) 1 8 Try.underlying24 hi0 hz0 hz1 hz2 rfl (by decide) (.slice a7 p c7) p (flat (qI nx)) rfl OA.out ⟨wM.heap.size, 0, none⟩ 1 1 [Value.int .i64 (y : Int)] rfl rfl NA.out (by intro u hu; simp at hu; subst hu; rfl) (by decide) (by unfold maxLen; omega) (by omega) hBA (wM.heap.size + 1) HSA.out ?_; intro gg cp w9 hown9 hgrow9 hat9 hlt9; have F9 := hidH (FA.out.push (V' := .slice (some ⟨gg, 0, none⟩) (p + 1) cp) (y := y) (by rw [HP.out]; exact hown9) hgrow9 (by have h7 := HSA.out; rcases hat9 with e | e; exact .inl e.symm; exact .inr ⟨gg, rfl, by omega⟩)); have E9 := hidH (EA.out.grown hgrow9 hBA (fun g e => (OA.out.lt g e).1)); clear hown9 hgrow9 hat9 hlt9)
                go_roundg (r - (k + 1))
                case measure => omega
                case rel => exact ⟨k + 1, _, nx ++ [y], _, rfl, rfl, rfl, by omega, by rw [← List.append_assoc]; exact F9.out, BQ2.out, E9.out⟩
            · have hkr' : ¬ (k : Int) < (r : Int) := by omega
              have BQ2 : Hid (Bq ps n f F (q0 ++ nx) (o + (i + 1)) (fun _ => False)) := BQ.out.next (HX.out nx) (fun z hz => by rw [List.take_of_length_le (by rw [HR.out]; omega)]; exact ((HM.out x hxn).2 _).2 hz)
              go_wp2
              go_roundg (m - (i + 1))
              case measure => omega
              case rel => exact ⟨i + 1, _, nx, F, rfl, rfl, rfl, by omega, FQ.out, BQ2.out, EE.out⟩
        · have him' : ¬ (i : Int) < (m : Int) := by omega
          have hi2 : i = m := by omega
          have BQ2 : Hid (Bq ps n f F (q0 ++ nx) (o + m) (fun _ => False)) := by have h9 := BQ.out; rw [hi2] at h9; exact h9
          have hfew2 := BQ.out.few
          go_wp2
          go_roundg (n + 1 - (o + m))
          case measure => rw [List.length_append] at hfew2; omega
          case rel => exact ⟨o + m, _, nx, F, q0 ++ nx, rfl, rfl, by rw [List.drop_append_of_le_length (by omega), List.drop_of_length_le (by omega), List.nil_append], by rw [List.length_append]; omega, FQ.out.mp, FQ.out.nx, BQ2.out, EE.out⟩
    · have hm0' : ¬ (0 : Int) < (m : Int) := by omega
      have hoq2 : o = q0.length := by omega
      go_wp2
      go_ret
      exact ⟨by first | exact EE.out | (rw [hB]; exact EE.out), by first | rfl | rw [hB], F, q0, by first | exact MM.out | (rw [hB]; exact MM.out), by have h9 := BQ.out; rw [hoq2] at h9; exact h9⟩
end Go.Proofs.Ytgijcbipnjmhgab

namespace Go.Proofs.Ytgijcbipnjmhgab
open Go.ChangeShapes Go.WideShapes Go.ChangeAt Go.RowKit
set_option linter.unusedVariables false
set_option linter.unusedSimpArgs false

theorem Gn.noc {ps : List Pr} {S : Int → Prop} {os : List Int} (h : Gn S (fun x z => (⟨x, z⟩ : Pr) ∈ ps) os) {x : Nat} (hx : (x : Int) ∈ os) : ¬ OnC ps x := by
  have hin : ∀ u v : Nat, Eg ps u v → (u : Int) ∈ os → (v : Int) ∈ os := fun u v he hu => by
    obtain ⟨i, hi⟩ := List.getElem?_of_mem hu
    obtain ⟨l1, e1⟩ := List.getElem?_eq_some_iff.1 hi
    have hsp : os = os.take i ++ (u : Int) :: os.drop (i + 1) := by rw [← e1, List.getElem_cons_drop, List.take_append_drop]
    exact List.mem_of_mem_take ((h.gd _ _ _ hsp).1.2.2 _ he)
  have key : ∀ u v : Nat, Rch ps u v → (u : Int) ∈ os → ∀ i j : Nat, os[i]? = some (u : Int) → os[j]? = some (v : Int) → j ≤ i := by
    intro u v huv
    induction huv with
    | refl u =>
      intro hu i j hi hj
      have := at_uniq h.nodup hi hj
      omega
    | step e _ ih =>
      intro hu i j hi hj
      rename_i x y z _
      have hy := hin x y e hu
      obtain ⟨k, hk⟩ := List.getElem?_of_mem hy
      have h1 := ih hy k j hk hj
      have h2 := h.before hi hk e
      omega
  rintro ⟨z, he, hr⟩
  have hz := hin x z he hx
  obtain ⟨i, hi⟩ := List.getElem?_of_mem hx
  obtain ⟨k, hk⟩ := List.getElem?_of_mem hz
  have h1 := key z x hr hz k i hk hi
  have h2 := h.before hi hk he
  omega
theorem OnC.next {ps : List Pr} {x : Nat} (h : OnC ps x) : ∃ z, Eg ps x z ∧ OnC ps z := by
  obtain ⟨z, he, hr⟩ := h
  refine ⟨z, he, ?_⟩
  by_cases e : z = x
  · subst e; exact ⟨z, he, hr⟩
  · obtain ⟨u, hu, hru⟩ := hr.first e
    exact ⟨u, hu, hru.trans (.step he (.refl _))⟩
open Classical in
theorem gn_all {ps : List Pr} {n : Nat} {os : List Int} (hr : ∀ p ∈ ps, (0 ≤ p.a ∧ p.a < (n : Int)) ∧ (0 ≤ p.b ∧ p.b < (n : Int))) (h : Gn (fun x => 0 ≤ x ∧ x < (n : Int)) (fun x z => (⟨x, z⟩ : Pr) ∈ ps) os) (hno : ∀ x, ¬ OnC ps x) : ∀ c x : Nat, x < n → cntR ps n x ≤ c → (x : Int) ∈ os := by
  intro c
  induction c using Nat.strongRecOn with
  | ind c ih =>
  intro x hx hc
  apply Classical.byContradiction
  intro hxo
  have h1 := h.no (x : Int)
  have h2 : ∃ z, (⟨(x : Int), z⟩ : Pr) ∈ ps ∧ z ∉ os := by
    apply Classical.byContradiction
    intro h3
    refine h1 ⟨⟨by omega, by omega⟩, hxo, fun z hz => ?_⟩
    apply Classical.byContradiction
    intro h4
    exact h3 ⟨z, hz, h4⟩
  obtain ⟨z0, he, hzo⟩ := h2
  have hr1 := hr _ he
  simp only at hr1
  obtain ⟨z, rfl⟩ : ∃ z : Nat, z0 = (z : Int) := ⟨z0.toNat, by omega⟩
  have hlt : cntR ps n z < cntR ps n x := by
    unfold cntR
    refine filter_lt (fun y hy => ?_) ⟨x, List.mem_range.2 hx, ?_, ?_⟩
    · rw [decide_eq_true_eq] at hy ⊢; exact .step he hy
    · rw [decide_eq_true_eq]; exact .refl _
    · rw [decide_eq_false_iff_not]; exact fun hb => hno x ⟨z, he, hb⟩
  exact hzo (ih (cntR ps n z) (by omega) z (by omega) (Nat.le_refl _))
theorem Lz.lower {B B' bL gC s : Nat} {w : World} {S : Nat → Prop} (h : Lz B bL gC s w S) (hb : B' ≤ B) : Lz B' bL gC s w S :=
  ⟨h.box, by obtain ⟨cs, h1, h2⟩ := h.row; exact ⟨cs, own_lower h1 hb, h2⟩, Nat.le_trans hb h.le, h.s1, h.s2, h.pw⟩
/-- the line-up with what stands in line beside it -/
structure Qv (B bL gC s gm n : Nat) (w : World) (S : Nat → Prop) (ms : List Int) (O : Value) (os : List Int) : Prop where
  q : Qw B bL gC s gm n w S ms
  ou : w.ownsRow B 3 1 O os.length (flat os)
  e1 : O.ownBlock ≠ some gm
  e2 : O.ownBlock ≠ some gC
theorem Qv.below {B bL gC s gm n : Nat} {w w' : World} {S : Nat → Prop} {ms os : List Int} {O : Value} (h : Qv B bL gC s gm n w S ms O os) (hb : Below w.heap.size w w') : Qv B bL gC s gm n w' S ms O os :=
  ⟨h.q.below hb, own_belowR h.ou hb (Nat.le_refl _), h.e1, h.e2⟩
theorem Qv.put {B bL gC s gm n : Nat} {w w' : World} {S S' : Nat → Prop} {ms os : List Int} {O : Value} (h : Qv B bL gC s gm n w S ms O os) (hz : Lz B bL gC s w' S') (ho : One gC w w') : Qv B bL gC s gm n w' S' ms O os :=
  ⟨h.q.put hz ho, own_same h.ou (fun g e => ho.keep g (h.ou.lt g e).2 (fun e2 => h.e2 (by rw [e, e2]))), h.e1, h.e2⟩
theorem Qv.set {B bL gC s gm n : Nat} {w : World} {S : Nat → Prop} {ms os : List Int} {O : Value} (h : Qv B bL gC s gm n w S ms O os) (y : Nat) (v : Int) : Qv B bL gC s gm n (w.setCell ⟨gm, y, none⟩ (.int .i64 v)) S (ms.set y v) O os :=
  ⟨h.q.set y v, ownsRow_setCell_other h.ou (a := ⟨gm, y, none⟩) h.e1 _, h.e1, h.e2⟩
theorem Qv.congr {B bL gC s gm n : Nat} {w : World} {S S' : Nat → Prop} {ms os : List Int} {O : Value} (h : Qv B bL gC s gm n w S ms O os) (hS : ∀ y, S y ↔ S' y) : Qv B bL gC s gm n w S' ms O os :=
  ⟨⟨h.q.lz.congr (fun y _ => hS y), h.q.mi, h.q.d1⟩, h.ou, h.e1, h.e2⟩
theorem Qv.push {B bL gC s gm n : Nat} {w w' : World} {S : Nat → Prop} {ms os : List Int} {O O' : Value} {x : Int} (h : Qv B bL gC s gm n w S ms O os) (ho : w'.ownsRow B 3 1 O' (os.length + 1) (flat os ++ [.int .i64 x])) (hg : w.grownBy w' O.ownBlock) (hn : O'.ownBlock = O.ownBlock ∨ ∃ g, O'.ownBlock = some g ∧ w.heap.size ≤ g) : Qv B bL gC s gm n w' S ms O' (os ++ [x]) := by
  have hbl : O.ownBlock ≠ some bL := fun e => h.q.lz.box.neR h.ou (by decide) e rfl
  obtain ⟨cs, k1, -⟩ := h.q.lz.row
  refine ⟨h.q.grw hg hbl h.e2 h.e1, ?_, ?_, ?_⟩
  · rw [List.length_append, List.length_singleton, flat_append]; exact ho
  · rcases hn with e | ⟨g, e, hg2⟩
    · rw [e]; exact h.e1
    · rw [e]; intro e2; injection e2 with e2; have := (h.q.mi.lt gm rfl).2; omega
  · rcases hn with e | ⟨g, e, hg2⟩
    · rw [e]; exact h.e2
    · rw [e]; intro e2; injection e2 with e2; have := (k1.lt gC rfl).2; omega
/-- what the reference's Order answers -/
def OrG (B n : Nat) (ps : List Pr) (w : World) (v u : Value) (E : Int) : Prop :=
  (E = 0 ∧ u = .slice none 0 0 ∧ ∃ os, Gn (fun x => 0 ≤ x ∧ x < (n : Int)) (fun x z => (⟨x, z⟩ : Pr) ∈ ps) os ∧ os.length = n ∧ w.ownsRow B 3 1 v os.length (flat os)) ∨
  (E = 73 ∧ v = .slice none 0 0 ∧ ∃ (f : Nat) (l : List Int), w.ownsRow B 3 1 u ((f : Int) :: l).length (flat ((f : Int) :: l)) ∧ Fst ps f ∧ Cyc ps f f l)
set_option maxRecDepth 1000000 in
set_option maxHeartbeats 4000000 in
theorem rorder_any (n cap : Nat) (a : Option Addr) (ps : List Pr) (w : World) (hL : LiesA w a ps) (hm : ps.length ≤ 8796093022208) (ht : things (n : Int) ps = true)
    (CY : ∀ (wq : World) (gm : Nat) (ms : List Int), Below w.heap.size w wq → wq.ownsRow w.heap.size 3 1 (.slice (some ⟨gm, 0, none⟩) n n) n (flat ms) → (∀ x, x < n → OnC ps x → ms[x]! ≠ 0) → (∃ x, OnC ps x) → Calls Try.prog 32 #[.int .i64 (n : Int), .slice a ps.length cap, .slice (some ⟨gm, 0, none⟩) n n] wq fun e w' => ∃ v, e = .returned v ∧ Below wq.heap.size wq w' ∧ ∃ (f : Nat) (l : List Int), w'.ownsRow wq.heap.size 3 1 v ((f : Int) :: l).length (flat ((f : Int) :: l)) ∧ Fst ps f ∧ Cyc ps f f l) :
    Calls Try.prog 16 #[.int .i64 (n : Int), .slice a ps.length cap] w fun e w' => ∃ v u E, e = .returned (.tuple #[v, u, .int .i64 E]) ∧ Below w.heap.size w w' ∧ OrG w.heap.size n ps w' v u E := by
  obtain ⟨hn, hps⟩ := things_spec ht
  obtain ⟨i0, hi0, hz0, hz1, hz2⟩ := info_parts infoIntH
  have HL := hidH hL
  have HPS := hidH hps
  have HCY := hidH CY
  have QB : Hid (Calls Try.prog 26 #[.int .i64 (n : Int), .slice a ps.length cap] w fun e w' => e = .returned (.bool false) ∧ w' = w) := by have h9 := rbad_any (n : Int) a cap ps w hL (by omega); rw [ht] at h9; exact h9
  obtain ⟨B, hB⟩ : ∃ B, w.heap.size = B := ⟨_, rfl⟩
  have QR := hidH (rows0R n cap a ps w hL hn hm hps)
  clear hL hps ht CY
  go_enter Try.func16, Try.ntmps16
  go_upto_region 4 with (first
    | (go_at_call 26; (with_reducible refine QB.out.mono ?_); clear QB; rintro e w1 ⟨rfl, hw⟩; have hw2 := hw.symm; clear hw; subst hw2)
    | (go_at_call 28; (with_reducible refine QR.out.mono ?_); clear QR; rintro e w2 ⟨rfl, hb2, hrx⟩; have HB2 := hidH hb2; have RX := hidH hrx; clear hb2 hrx))
  obtain ⟨C, hC⟩ : ∃ C, w2.heap.size = C := ⟨_, rfl⟩
  have hBC : B ≤ C := by have := HB2.out.size; omega
  have HCE := hidH hC
  have HBE := hidH hB
  rw [hC, hB] at RX
  rw [hB] at HB2
  go_upto_region 5 with (at_make; refine wpList_make_full _ rfl _ _ 24 rfl C 3 i0 (.int .i64 0) 1 Try.underlying24 hi0 hz0 hz1 _ _ _ _ n rfl rfl rfl rfl (by rw [hz2]; omega) (by unfold maxLen; omega) (by omega) ?_; intro w3 hown3 hgr3; rw [hC] at hown3 ⊢; have O3 : Hid (w3.ownsRow C 3 1 (.slice (some ⟨C, 0, none⟩) n n) n (flat (List.replicate n (0 : Int)))) := (by rw [show (Value.int .i64 0).cells = #[.int .i64 0] by rfl, rep_made] at hown3; unfold Hid; rw [show flat (List.replicate n (0 : Int)) = List.replicate n (Value.int .i64 0) by rw [flat_ints, List.map_replicate]]; exact hown3); have E3 : Hid (Below C w2 w3) := ((Below.refl _ _).grown hgr3 (by omega) (fun k h => by cases h)); clear hown3 hgr3)
  go_wp2
  go_loopg [9] ps.length (fun gk s9 wr => ∃ (k : Nat) (ms : List Int), gk = ps.length - k ∧ s9 = .int .i64 (k : Int) ∧ k ≤ ps.length ∧ wr.ownsRow C 3 1 (.slice (some ⟨C, 0, none⟩) n n) n (flat ms) ∧ ms.length = n ∧ (∀ y : Nat, y < n → ms[y]! = (cnE (ps.take k) [] (y : Int) : Int)) ∧ Below C w2 wr)
  case atStart => exact ⟨0, _, rfl, rfl, Nat.zero_le _, O3.out, by simp, fun y hy => by rw [getElem!_pos _ _ (by simpa using hy)]; simp [cnE], E3.out⟩
  case round =>
    clear O3 E3
    obtain ⟨k, ms, hgk, rfl, hk, hO, hml, hms, hE⟩ := hrel
    have OM := hidH hO
    have HMS := hidH hms
    have HML := hidH hml
    have EE := hidH hE
    clear hO hms hml hE
    by_cases hkp : k < ps.length
    · have hkp' : (k : Int) < (ps.length : Int) := by omega
      obtain ⟨p, hp⟩ : ∃ p, ps[k]? = some p := ⟨_, List.getElem?_eq_getElem hkp⟩
      obtain ⟨gs, o, hs, hLi⟩ : ∃ b o, a = some ⟨b, o, none⟩ ∧ Lies w b o ps := by
        rcases HL.out with h | h
        · rw [h] at hkp; exact absurd hkp (Nat.not_lt_zero _)
        · exact h
      subst hs
      have HCT := hidH (fun y => cnE_take hp y)
      obtain ⟨pa, pb⟩ := p
      have hrp := HPS.out _ (List.mem_of_getElem? hp)
      simp only at hrp
      obtain ⟨x, rfl⟩ : ∃ x : Nat, pa = (x : Int) := ⟨pa.toNat, by omega⟩
      have hxn : x < n := by omega
      obtain ⟨d0, -⟩ := (hLi.below (by rw [HBE.out]; exact HB2.out.trans (EE.out.mono hBC)) hLi.1).pr hp
      simp only at d0
      have hxl : x < ms.length := by rw [HML.out]; exact hxn
      obtain ⟨v, hv⟩ : ∃ v, ms[x]! = v := ⟨_, rfl⟩
      have hvx : ms[x]? = some v := by rw [List.getElem?_eq_getElem hxl, ← hv, getElem!_pos ms x hxl]
      obtain ⟨cM, fM⟩ := row_cell OM.out hvx
      have hvb : 0 ≤ v ∧ v ≤ (ps.length : Int) := by
        rw [← hv, HMS.out x hxn]
        have := cnE_le (ps.take k) [] (x : Int)
        rw [List.length_take] at this
        omega
      have kk : IntKind.i64.wrap ((k : Int) + 1) = ((k + 1 : Nat) : Int) := by rw [IntWalk.i64_in _ ⟨by omega, by omega⟩]; omega
      have kv : IntKind.i64.wrap (v + 1) = v + 1 := by rw [IntWalk.i64_in _ ⟨by omega, by omega⟩]
      have hx0 : (0 : Int) ≤ (x : Int) := by omega
      have hx1 : (x : Int) < (n : Int) := by omega
      have O2 : Hid ((wr.setCell ⟨C, x, none⟩ (.int .i64 (v + 1))).ownsRow C 3 1 (.slice (some ⟨C, 0, none⟩) n n) n (flat (ms.set x (v + 1)))) := by
        have h1 := (World.ownsRow.stored OM.out x (.int .i64 (v + 1))).1
        rw [flat_setI] at h1
        exact h1
      have E2 := hidH (EE.out.setCell (p := ⟨C, x, none⟩) (Nat.le_refl _) (.int .i64 (v + 1)))
      have M2 : Hid (∀ y : Nat, y < n → (ms.set x (v + 1))[y]! = (cnE (ps.take (k + 1)) [] (y : Int) : Int)) := fun y hy => by
        rw [get_set ms x y _ hxl, HCT.out]
        by_cases e : y = x
        · subst e; rw [if_pos rfl, if_pos rfl, ← hv, HMS.out y hy]; simp
        · rw [if_neg e, if_neg (by simp only; omega), HMS.out y hy]; simp
      clear hp hLi hrp hv hvx
      go_wp2
      go_roundg (ps.length - (k + 1))
      case measure => omega
      case rel => exact ⟨k + 1, _, rfl, rfl, by omega, O2.out, by rw [List.length_set]; exact HML.out, M2.out, E2.out⟩
    · have hkp' : ¬ (k : Int) < (ps.length : Int) := by omega
      have hk2 : k = ps.length := by omega
      have HMF : Hid (∀ y : Nat, y < n → ms[y]! = (cnE ps [] (y : Int) : Int)) := by have h9 := HMS.out; rw [hk2, List.take_length] at h9; exact h9
      obtain ⟨w4, hw4⟩ : ∃ w4, w4 = wr := ⟨wr, rfl⟩
      subst hw4
      have QN := hidH (newLows_any n w4 hn)
      obtain ⟨D, hD⟩ : ∃ D, w4.heap.size = D := ⟨_, rfl⟩
      have hCD : C < D := by have := (OM.out.lt C rfl).2; omega
      rw [hD] at QN
      clear HMS hgk hk hkp hk2
      go_upto_region 10 with (first
        | (go_at_call 29; (with_reducible refine QN.out.mono ?_); clear QN; rintro e w5 ⟨hb5, bL, rfl, s, hns, hz⟩; have E5 := hidH (EE.out.trans (hb5.mono (Nat.le_of_lt hCD))); have Q5 : Hid (Qw C bL D s C n w5 (fun y => y < 0 ∧ ms[y]! = 0) ms) := ⟨(hz.lower (Nat.le_of_lt hCD)).congr (fun y _ => ⟨fun h => h.elim, fun h => absurd h.1 (Nat.not_lt_zero _)⟩), own_belowR OM.out hb5 (by omega), by omega⟩; have hns' := hns; clear hb5 hz))
      go_wp2
      go_loopg [11] n (fun gk si wq => ∃ i : Nat, gk = n - i ∧ si = .int .i64 (i : Int) ∧ i ≤ n ∧ Qw C bL D s C n wq (fun y => y < i ∧ ms[y]! = 0) ms ∧ Below C w2 wq)
      case atStart => exact ⟨0, rfl, rfl, Nat.zero_le _, Q5.out, E5.out⟩
      case round =>
        clear Q5 E5
        obtain ⟨i, hgk, rfl, hi, hQ, hE⟩ := hrel
        have QW := hidH hQ
        have EI := hidH hE
        clear hQ hE
        by_cases hin : i < n
        · have hin' : (i : Int) < (n : Int) := by omega
          have ki : IntKind.i64.wrap ((i : Int) + 1) = ((i + 1 : Nat) : Int) := by rw [IntWalk.i64_in _ ⟨by omega, by omega⟩]; omega
          obtain ⟨cM, -⟩ := QW.out.get hin
          obtain ⟨v, hv⟩ : ∃ v, ms[i]! = v := ⟨_, rfl⟩
          have HV := hidH hv
          rw [hv] at cM
          clear hv
          by_cases hv0 : v = 0
          · subst hv0
            have PT := hidH (put_in C bL D s i _ wr QW.out.lz (by omega) (fun h => absurd h.1 (Nat.lt_irrefl _)))
            go_wp2_with (go_at_call 30; (with_reducible refine PT.out.mono ?_); clear PT; rintro e w6 ⟨⟨r, rfl⟩, hz6, ho6⟩; have Q6 : Hid (Qw C bL D s C n w6 (fun y => y < i + 1 ∧ ms[y]! = 0) ms) := (have q := QW.out.put hz6 ho6; ⟨q.lz.congr (fun y _ => ⟨fun h => h.elim (fun h => ⟨by omega, h.2⟩) (fun h => by subst h; exact ⟨by omega, HV.out⟩), fun h => by by_cases e : y = i; (exact .inr e); (exact .inl ⟨by omega, h.2⟩)⟩), q.mi, q.d1⟩); have E6 := hidH (EI.out.trans (ho6.bel.mono (Nat.le_of_lt hCD))); clear hz6 ho6)
            go_roundg (n - (i + 1))
            case measure => omega
            case rel => exact ⟨i + 1, rfl, rfl, by omega, Q6.out, E6.out⟩
          · have hv1 : (v == 0) = false := by rw [beq_eq_false_iff_ne]; exact hv0
            have Q6 : Hid (Qw C bL D s C n wr (fun y => y < i + 1 ∧ ms[y]! = 0) ms) := ⟨QW.out.lz.congr (fun y _ => ⟨fun h => ⟨by omega, h.2⟩, fun h => ⟨by by_cases e : y = i; (subst e; exact absurd (HV.out.symm.trans h.2) hv0); (omega), h.2⟩⟩), QW.out.mi, QW.out.d1⟩
            go_wp2
            go_roundg (n - (i + 1))
            case measure => omega
            case rel => exact ⟨i + 1, rfl, rfl, by omega, Q6.out, EI.out⟩
        · have hin' : ¬ (i : Int) < (n : Int) := by omega
          have hi2 : i = n := by omega
          subst hi2
          have LR0 : Hid (Lr ps i (fun _ => true) [] (fun y => y < i ∧ ms[y]! = 0) ms []) := (Lr.start QW.out.mlen HMF.out).congr (fun y => ⟨fun h => ⟨h.1, h.2.2⟩, fun h => ⟨h.1, rfl, h.2⟩⟩)
          have QL := hidH (least_any C bL D s _ wr QW.out.lz)
          go_upto_region 17 with (first
            | (go_at_call 31; (with_reducible refine QL.out.mono ?_); clear QL; rintro e w6 ⟨hw6, z, rfl, hle⟩; have hw7 := hw6.symm; clear hw6; subst hw7; have LE := hidH hle; clear hle))
          have Q0 : Hid (Qv C bL D s C i wr (fun y => y < i ∧ ms[y]! = 0) ms (.slice none 0 0) []) := ⟨QW.out, World.ownsRow_nil _ _ _ _, by simp [Value.ownBlock], by simp [Value.ownBlock]⟩
          clear QW HMF
          go_wp2
          go_loopg [12, 13] (i + 1) (fun gk s12 s13 wq => ∃ (S : Nat → Prop) (ms : List Int) (O : Value) (os : List Int) (z : Int), gk = i + 1 - os.length ∧ s12 = O ∧ s13 = .int .i64 z ∧ Qv C bL D s C i wq S ms O os ∧ Lr ps i (fun _ => true) os S ms [] ∧ Lea s S z ∧ Below C w2 wq)
          case atStart => exact ⟨_, ms, _, [], z, rfl, rfl, rfl, Q0.out, LR0.out, LE.out, EI.out⟩
          case round =>
            clear Q0 LR0 LE EI
            obtain ⟨S, ms, O, os, z, hgk3, rfl, rfl, hQ, hLr, hLe, hE⟩ := hrel
            have QV := hidH hQ
            have LR := hidH hLr
            have LE := hidH hLe
            have EI := hidH hE
            obtain ⟨hno, hrg, hosn⟩ := hLr.few
            clear hQ hLr hLe hE
            by_cases hz : 0 ≤ z
            · obtain ⟨x, rfl, hxs, hSx, hmin⟩ : ∃ x : Nat, z = (x : Int) ∧ x < s ∧ S x ∧ ∀ y, y < s → S y → x ≤ y := by
                rcases LE.out with ⟨h, -⟩ | h
                · omega
                · exact h
              have hxi : x < i := ((LR.out.rdy x).1 hSx).1
              have hxi' : (x : Int) < (i : Int) := by omega
              have LP := hidH (LR.out.pop (fun p hp => (HPS.out p hp).1) (fun _ _ => rfl) hSx (fun y hy => hmin y (by have := ((LR.out.rdy y).1 hy).1; omega) hy))
              have PT := hidH (put_out C bL D s x S wr QV.out.q.lz hxs hSx)
              obtain ⟨aO, cO, hO, -, -⟩ := own_slice QV.out.ou
              subst hO
              obtain ⟨q, hq⟩ : ∃ q, os.length = q := ⟨_, rfl⟩
              have HQ := hidH hq
              have hqi : q < i := by
                have h9 := LP.out.few.2.2
                rw [List.length_append, List.length_singleton, hq] at h9
                omega
              rw [hq] at hgk3 QV ⊢
              clear LE hSx hmin hq hno hrg hosn LR
              go_upto_region 20 with (first
                | (go_at_call 30; (with_reducible refine PT.out.mono ?_); clear PT; rintro e w7 ⟨⟨r, rfl⟩, hz7, ho7⟩; have Q7 := hidH (QV.out.put hz7 ho7); have E7 := hidH (EI.out.trans (ho7.bel.mono (Nat.le_of_lt hCD))); clear hz7 ho7 QV))
              obtain ⟨zA, eA, hbA, hsA, BA⟩ := bx1 w7 #[.int .i64 (x : Int)] 3
              have QA := hidH (Q7.out.below hbA)
              have hC7 : C ≤ w7.heap.size := by have := E7.out.size; have := HCE.out; omega
              have EA := hidH (E7.out.trans (hbA.mono hC7))
              have NA : Hid (∀ j u, [Value.int .i64 (x : Int)][j]? = some u → zA.cell? ((⟨w7.heap.size, 0, none⟩ : Addr).add j) = some u) := by unfold Hid; rw [← eA]; exact cells_newH w7 [Value.int .i64 (x : Int)] 3
              have HEA := hidH eA
              have HSA := hidH hsA
              have hBA : C ≤ zA.heap.size := by omega
              have OA : Hid (zA.ownsRow C 3 1 (.slice aO q cO) q (flat os)) := by have h9 := QA.out.ou; rw [HQ.out] at h9; exact h9
              clear eA hbA hsA BA Q7
              go_upto_region 21 with (at_builtin; rw [HEA.out]; refine wpList_append_lies _ rfl _ _ 24 rfl C 3 i0 (.int .i64 0) 1 8 Try.underlying24 hi0 hz0 hz1 hz2 rfl (by decide) (.slice aO q cO) q (flat os) rfl OA.out ⟨w7.heap.size, 0, none⟩ 1 1 [Value.int .i64 (x : Int)] rfl rfl NA.out (by intro u hu; simp at hu; subst hu; rfl) (by decide) (by unfold maxLen; omega) (by omega) hBA (w7.heap.size + 1) HSA.out ?_; intro gg cp w9 hown9 hgrow9 hat9 hlt9; have Q9 := hidH (QA.out.push (O' := .slice (some ⟨gg, 0, none⟩) (q + 1) cp) (x := (x : Int)) (by rw [HQ.out]; exact hown9) hgrow9 (by have h7 := HSA.out; rcases hat9 with e | e; exact .inl e.symm; exact .inr ⟨gg, rfl, by omega⟩)); have E9 := hidH (EA.out.grown hgrow9 hBA (fun g e => (OA.out.lt g e).1)); clear hown9 hgrow9 hat9 hlt9)
              obtain ⟨aD, cD, cX0, hrow⟩ := (RX.out.below E9.out).row x hxi
              obtain ⟨r, hr⟩ : ∃ r, (usr ps (x : Int)).length = r := ⟨_, rfl⟩
              have hrp : r ≤ ps.length := by rw [← hr]; exact usr_len ps _
              have HR := hidH hr
              have RX2 : Hid (∀ wq, Below C w2 wq → wq.cell? ⟨B, x, none⟩ = some (.slice aD r cD) ∧ ∀ (j : Nat) y, (usr ps (x : Int))[j]? = some y → ∃ g, aD = some ⟨g, 0, none⟩ ∧ wq.cell? ⟨g, j, none⟩ = some (.int .i64 y)) := fun wq hq => by
                obtain ⟨a1, c1, h1, h2⟩ := RX.out.row x hxi
                have h3 := (E9.out.cell (p := ⟨B, x, none⟩) RX.out.lt).trans h1
                rw [cX0] at h3
                injection h3 with h3
                injection h3 with e1 e2 e3
                subst e1 e3
                refine ⟨by rw [(hq.cell (p := ⟨B, x, none⟩) RX.out.lt).trans h1, HR.out], fun j y hj => ?_⟩
                obtain ⟨g, e, hg, hc⟩ := h2 (by have := (List.getElem?_eq_some_iff.1 hj).1; omega)
                exact ⟨g, e, (hq.cell (p := ⟨g, j, none⟩) hg).trans (hc j y hj)⟩
              clear QA EA NA HEA HSA OA hrow hr cX0
              go_wp2
              go_loopg [14] r (fun g3 s14 wq => ∃ (j : Nat) (S : Nat → Prop) (ms : List Int), g3 = r - j ∧ s14 = .int .i64 (j : Int) ∧ j ≤ r ∧ Qv C bL D s C i wq S ms (.slice (some ⟨gg, 0, none⟩) (q + 1) cp) (os ++ [(x : Int)]) ∧ Lr ps i (fun _ => true) (os ++ [(x : Int)]) S ms ((usr ps (x : Int)).drop j) ∧ Below C w2 wq)
              case atStart => exact ⟨0, _, ms, rfl, rfl, Nat.zero_le _, Q9.out, LP.out, E9.out⟩
              case round =>
                clear Q9 LP E9
                obtain ⟨j, S, ms, hg3, rfl, hj, hQ, hLr, hE⟩ := hrel
                have QV := hidH hQ
                have LR := hidH hLr
                have EI := hidH hE
                clear hQ hLr hE
                obtain ⟨cX, hcy⟩ := RX2.out wr EI.out
                by_cases hjr : j < r
                · have hjr' : (j : Int) < (r : Int) := by omega
                  have kj : IntKind.i64.wrap ((j : Int) + 1) = ((j + 1 : Nat) : Int) := by rw [IntWalk.i64_in _ ⟨by omega, by omega⟩]; omega
                  obtain ⟨y0, hy0⟩ : ∃ y, (usr ps (x : Int))[j]? = some y := ⟨_, List.getElem?_eq_getElem (by rw [HR.out]; exact hjr)⟩
                  have hye := mem_usr.1 (List.mem_of_getElem? hy0)
                  have hyr := (HPS.out _ hye).1
                  simp only at hyr
                  obtain ⟨y, rfl⟩ : ∃ y : Nat, y0 = (y : Int) := ⟨y0.toNat, by omega⟩
                  have LRy : Hid (Lr ps i (fun _ => true) (os ++ [(x : Int)]) S ms ((y : Int) :: (usr ps (x : Int)).drop (j + 1))) := by
                    have h9 := LR.out
                    obtain ⟨hj9, e9⟩ := List.getElem?_eq_some_iff.1 hy0
                    rw [List.drop_eq_getElem_cons hj9, e9] at h9
                    exact h9
                  obtain ⟨hyi, hy1, hyS, -, -⟩ := LRy.out.pos
                  obtain ⟨g, rfl, cY⟩ := hcy j _ hy0
                  obtain ⟨cM, fM⟩ := QV.out.q.get hyi
                  obtain ⟨v, hv⟩ : ∃ v, ms[y]! = v := ⟨_, rfl⟩
                  have hvb : v ≤ 2 * (ps.length : Int) := by
                    rw [← hv, LR.out.cnt y hyi]
                    have h1 := cnE_le ps (os ++ [(x : Int)]) (y : Int)
                    have h2 : cnP ((usr ps (x : Int)).drop j) (y : Int) ≤ ps.length := by
                      unfold cnP
                      exact Nat.le_trans (List.length_filter_le _ _) (Nat.le_trans (by rw [List.length_drop]; omega) (usr_len ps (x : Int)))
                    omega
                  have LD := hidH LRy.out.dec
                  rw [hv] at cM hy1 LD
                  have kv : IntKind.i64.wrap (v - 1) = v - 1 := by rw [IntWalk.i64_in _ ⟨by omega, by omega⟩]
                  have hyi' : (y : Int) < (i : Int) := by omega
                  have hy0' : (0 : Int) ≤ (y : Int) := by omega
                  have QS := hidH (QV.out.set y (v - 1))
                  have ES : Hid (Below C w2 (wr.setCell ⟨C, y, none⟩ (.int .i64 (v - 1)))) := EI.out.setCell (p := ⟨C, y, none⟩) (Nat.le_refl _) _
                  obtain ⟨cM2, -⟩ := QS.out.q.get hyi
                  rw [get_set ms y y _ (by rw [QV.out.q.mlen]; exact hyi), if_pos rfl] at cM2
                  have HYS := hidH hyS
                  clear hye hyr hy0 hcy hv hyS LR LRy
                  by_cases hv1 : v - 1 = 0
                  · have hv2 : v = 1 := by omega
                    subst hv2
                    have QS1 : Hid (Qv C bL D s C i (wr.setCell ⟨C, y, none⟩ (.int .i64 0)) S (ms.set y 0) (.slice (some ⟨gg, 0, none⟩) (q + 1) cp) (os ++ [(x : Int)])) := QS.out
                    have ES1 : Hid (Below C w2 (wr.setCell ⟨C, y, none⟩ (.int .i64 0))) := ES.out
                    have LD1 : Hid (Lr ps i (fun _ => true) (os ++ [(x : Int)]) (fun z => S z ∨ z = y) (ms.set y 0) ((usr ps (x : Int)).drop (j + 1))) := LD.out.congr (fun z => ⟨fun h => h.imp id (fun h => h.1), fun h => h.imp id (fun h => ⟨h, by omega⟩)⟩)
                    clear QS ES LD
                    go_upto_region 27 with fail
                    obtain ⟨wS, hwS⟩ : ∃ wS, wr.setCell ⟨C, y, none⟩ (.int .i64 0) = wS := ⟨_, rfl⟩
                    rw [hwS] at QS1 ES1 ⊢
                    have PT := hidH (put_in C bL D s y S wS QS1.out.q.lz (by omega) HYS.out)
                    clear hwS cM cM2 cY cX
                    go_wp2_with (go_at_call 30; (with_reducible refine PT.out.mono ?_); clear PT; rintro e w6 ⟨⟨r2, rfl⟩, hz6, ho6⟩; have Q6 := hidH (QS1.out.put hz6 ho6); have E6 := hidH (ES1.out.trans (ho6.bel.mono (Nat.le_of_lt hCD))); clear hz6 ho6)
                    go_roundg (r - (j + 1))
                    case measure => omega
                    case rel => exact ⟨j + 1, _, _, rfl, rfl, by omega, Q6.out, LD1.out, E6.out⟩
                  · have hv3 : ((v - 1) == 0) = false := by rw [beq_eq_false_iff_ne]; exact hv1
                    obtain ⟨u, hu⟩ : ∃ u, v - 1 = u := ⟨_, rfl⟩
                    have kv' : IntKind.i64.wrap (v - 1) = u := by rw [kv]; exact hu
                    rw [hu] at hv1 hv3 QS ES LD cM2
                    clear kv
                    have LD1 := hidH (LD.out.congr (S' := S) (fun z => ⟨fun h => h.elim id (fun h => absurd h.2 hv1), .inl⟩))
                    clear hu LD
                    go_wp2
                    go_roundg (r - (j + 1))
                    case measure => omega
                    case rel => exact ⟨j + 1, S, _, rfl, rfl, by omega, QS.out, LD1.out, ES.out⟩
                · have hjr' : ¬ (j : Int) < (r : Int) := by omega
                  have LR2 : Hid (Lr ps i (fun _ => true) (os ++ [(x : Int)]) S ms []) := by have h9 := LR.out; rw [List.drop_eq_nil_of_le (by rw [HR.out]; omega)] at h9; exact h9
                  have QL := hidH (least_any C bL D s S wr QV.out.q.lz)
                  clear hcy
                  go_wp2_with (first
                    | (go_at_call 31; (with_reducible refine QL.out.mono ?_); clear QL; rintro e w6 ⟨hw6, z, rfl, hle⟩; have hw7 := hw6.symm; clear hw6; subst hw7; have LE := hidH hle; clear hle))
                  go_roundg (i + 1 - (q + 1))
                  case measure => omega
                  case rel => exact ⟨S, ms, _, os ++ [(x : Int)], z, by rw [List.length_append, List.length_singleton, HQ.out], rfl, rfl, QV.out, LR2.out, LE.out, EI.out⟩
            · have hz' : ¬ (0 : Int) ≤ z := by omega
              have hS : ∀ y, ¬ S y := by
                rcases LE.out with ⟨-, h⟩ | ⟨x, rfl, -⟩
                · exact fun y hy => h y (by have := ((LR.out.rdy y).1 hy).1; omega) hy
                · omega
              have GN : Hid (Gn (fun x => 0 ≤ x ∧ x < (i : Int)) (fun x z => (⟨x, z⟩ : Pr) ∈ ps) os) := (LR.out.stop hS).congr (fun x => ⟨fun h => h.1, fun h => ⟨h, rfl⟩⟩) (fun x _ z => Iff.rfl)
              have HBI : Hid (Below B w wr) := HB2.out.trans (EI.out.mono hBC)
              obtain ⟨aO, cO, hO, -, -⟩ := own_slice QV.out.ou
              subst hO
              by_cases hfull : os.length = i
              · have OO : Hid (wr.ownsRow C 3 1 (.slice aO i cO) i (flat os)) := by have h9 := QV.out.ou; rw [hfull] at h9; exact h9
                have HFU := hidH hfull
                rw [hfull]
                clear hfull LE LR QV hS
                go_wp2
                go_ret3
                exact ⟨_, _, _, rfl, by first | exact HBI.out | (rw [hB]; exact HBI.out), .inl ⟨rfl, rfl, os, GN.out, HFU.out, by rw [HFU.out]; first | exact own_lower OO.out hBC | (rw [hB]; exact own_lower OO.out hBC)⟩⟩
              · have hex : ∃ x, OnC ps x := by
                  apply Classical.byContradiction
                  intro h
                  exact hfull ((full_iff hno hrg).2 fun x hx => gn_all HPS.out GN.out (fun x hx => h ⟨x, hx⟩) _ x hx (Nat.le_refl _))
                have hleft : ∀ x, x < i → OnC ps x → ms[x]! ≠ 0 := fun x hx hc h0 => by
                  obtain ⟨z, he, hcz⟩ := hc.next
                  exact GN.out.noc ((LR.out.left hx).1 h0 _ he) hcz
                have CY := hidH (HCY.out wr C ms (by rw [hB]; exact HBI.out) (by rw [hB]; exact own_lower QV.out.q.mi hBC) hleft hex)
                obtain ⟨q, hq⟩ : ∃ q, os.length = q := ⟨_, rfl⟩
                rw [hq] at hfull hosn ⊢
                have hq1 : ((q : Int) == (i : Int)) = false := by rw [beq_eq_false_iff_ne]; omega
                have hq2 : ¬ (q : Int) = (i : Int) := by omega
                have hBw : B ≤ wr.heap.size := by have := HBI.out.size; omega
                clear hq LE LR QV hS hleft hex
                go_wp2_with (go_at_call 32; (with_reducible refine CY.out.mono ?_); clear CY; rintro e w5 ⟨v, rfl, hb6, f, l, ho6, hF, hC⟩; have HB6 := hidH (HBI.out.trans (hb6.mono hBw)); have O6 := hidH (own_lower ho6 hBw); have HF := hidH hF; have HC := hidH hC; clear hb6 ho6 hF hC)
                go_ret3
                exact ⟨_, _, _, rfl, by first | exact HB6.out | (rw [hB]; exact HB6.out), .inr ⟨rfl, rfl, f, l, by first | exact O6.out | (rw [hB]; exact O6.out), HF.out, HC.out⟩⟩
end Go.Proofs.Ytgijcbipnjmhgab

namespace Go.Proofs.Ytgijcbipnjmhgab
open Go.ChangeShapes Go.WideShapes Go.ChangeAt Go.RowKit
open Go.Maps (Keyed int_keyed keyOf_int_mk)
set_option linter.unusedVariables false
set_option linter.unusedSimpArgs false

/-- the lows that are known before x -/
def Tl (ps : List Pr) (n x : Nat) (ms : List Int) : Prop := ∀ y : Nat, y < n → (ms[y]! = -1 ∧ ∀ z, z < x → ¬ Sam ps z y) ∨ ∃ l : Nat, l < x ∧ ms[y]! = (l : Int) ∧ Low ps y l
theorem Tl.skip {ps : List Pr} {n x : Nat} {ms : List Int} (h : Tl ps n x ms) (hx : x < n) (hv : 0 ≤ ms[x]!) : Tl ps n (x + 1) ms := fun y hy => by
  rcases h x hx with ⟨e, -⟩ | ⟨l, hl, -, hL⟩
  · rw [e] at hv; exact absurd hv (by decide)
  · rcases h y hy with ⟨e, hno⟩ | ⟨l2, h1, h2⟩
    · refine .inl ⟨e, fun z hz hs => ?_⟩
      by_cases ez : z = x
      · subst ez
        exact hno l hl (hL.1.symm.trans hs)
      · exact hno z (by omega) hs
    · exact .inr ⟨l2, by omega, h2⟩
/-- x's part is being told -/
def Tm (ps : List Pr) (n x : Nat) (ms : List Int) (dn : Nat → Prop) (ms' : List Int) : Prop := ∀ y : Nat, y < n → ((y = x ∨ (Sam ps x y ∧ dn y)) → ms'[y]! = (x : Int)) ∧ (¬ (y = x ∨ (Sam ps x y ∧ dn y)) → ms'[y]! = ms[y]!)
theorem Tm.start {ps : List Pr} {n x : Nat} {ms : List Int} {dn : Nat → Prop} (hx : x < ms.length) (hd : ∀ y, Sam ps x y → ¬ dn y) : Tm ps n x ms dn (ms.set x (x : Int)) := fun y hy => by
  rw [get_set ms x y _ hx]
  refine ⟨fun h => ?_, fun h => ?_⟩
  · rcases h with h | ⟨h1, h2⟩
    · rw [if_pos h]
    · exact absurd h2 (hd y h1)
  · rw [if_neg (fun e => h (.inl e))]
theorem Tm.put {ps : List Pr} {n x y0 : Nat} {ms ms' : List Int} {dn dn' : Nat → Prop} (h : Tm ps n x ms dn ms') (hl : y0 < ms'.length) (hs : Sam ps x y0) (hd : ∀ y, dn' y ↔ dn y ∨ y = y0) : Tm ps n x ms dn' (ms'.set y0 (x : Int)) := fun y hy => by
  rw [get_set ms' y0 y _ hl]
  refine ⟨fun k => ?_, fun k => ?_⟩
  · by_cases e : y = y0
    · rw [if_pos e]
    · rw [if_neg e]
      exact (h y hy).1 (k.imp id fun ⟨a, b⟩ => ⟨a, ((hd y).1 b).resolve_right e⟩)
  · have e : y ≠ y0 := fun e => k (.inr ⟨by rw [e]; exact hs, (hd y).2 (.inr e)⟩)
    rw [if_neg e]
    exact (h y hy).2 (fun k2 => k (k2.imp id fun ⟨a, b⟩ => ⟨a, (hd y).2 (.inl b)⟩))
theorem Tm.skip {ps : List Pr} {n x y0 : Nat} {ms ms' : List Int} {dn dn' : Nat → Prop} (h : Tm ps n x ms dn ms') (hs : ¬ Sam ps x y0) (hd : ∀ y, dn' y ↔ dn y ∨ y = y0) : Tm ps n x ms dn' ms' := fun y hy => by
  refine ⟨fun k => (h y hy).1 (k.imp id fun ⟨a, b⟩ => ⟨a, ((hd y).1 b).resolve_right fun e => hs (by rw [← e]; exact a)⟩), fun k => (h y hy).2 (fun k2 => k (k2.imp id fun ⟨a, b⟩ => ⟨a, (hd y).2 (.inl b)⟩))⟩
theorem Tm.done {ps : List Pr} {n x : Nat} {ms ms' : List Int} {dn : Nat → Prop} (h : Tl ps n x ms) (hx : x < n) (hv : ms[x]! < 0) (hm : Tm ps n x ms dn ms') (hd : ∀ y, y < n → Sam ps x y → y = x ∨ dn y) : Tl ps n (x + 1) ms' := fun y hy => by
  have hxx : ∀ z, z < x → ¬ Sam ps z x := by
    rcases h x hx with ⟨-, h1⟩ | ⟨l, -, e, -⟩
    · exact h1
    · rw [e] at hv; omega
  by_cases hs : Sam ps x y
  · refine .inr ⟨x, by omega, (hm y hy).1 ((hd y hy hs).imp id fun d => ⟨hs, d⟩), hs.symm, fun z hz => Nat.le_of_not_lt fun hlt => hxx z hlt (hs.trans hz).symm⟩
  · have hne : ¬ (y = x ∨ (Sam ps x y ∧ dn y)) := fun k => by
      rcases k with e | k
      · exact hs (by rw [e]; exact Sam.refl ps x)
      · exact hs k.1
    rw [(hm y hy).2 hne]
    rcases h y hy with ⟨e, hno⟩ | ⟨l2, h1, h2⟩
    · refine .inl ⟨e, fun z hz hs2 => ?_⟩
      by_cases ez : z = x
      · subst ez
        exact hs hs2
      · exact hno z (by omega) hs2
    · exact .inr ⟨l2, by omega, h2⟩
theorem sam_no1 {ps : List Pr} {x y : Nat} (h : (nd ps x).length = 0) (hs : Sam ps x y) : y = x := by
  cases hs.1 with
  | refl => rfl
  | step e _ =>
    have := mem_nd.2 e
    rw [List.length_eq_zero_iff.1 h] at this
    cases this
theorem sam_no2 {ps : List Pr} {x y : Nat} (h : (usr ps (x : Int)).length = 0) (hs : Sam ps x y) : y = x := by
  have h1 := hs.2.back (trn_swap ps)
  cases h1 with
  | refl => rfl
  | step e _ =>
    have := mem_usr.2 ((trn_swap ps _ _).1 e)
    rw [List.length_eq_zero_iff.1 h] at this
    cases this
theorem Bq.rch {ps : List Pr} {n f y : Nat} {F : Nat → Nat} {q : List Nat} (h : Bq ps n f F q q.length (fun _ => False)) : y ∈ q ↔ Rch ps y f := by
  constructor
  · intro hy
    have hn := h.rng y hy
    exact (h.done.ds y hn ((h.mkd y hn).1 hy)).1.rch
  · intro hr
    obtain ⟨k, hk⟩ := hr.wy
    have h1 := h.done.wy y k hk
    exact (h.mkd y h1.1).2 (by omega)
theorem lf6 (left : Lit → Bool) (y z : Nat) : ((left (.int .i64 (z : Int)) && !(Lit.int .i64 (z : Int)).sameKey (.int .i64 (y : Int))) = false) ↔ left (.int .i64 (z : Int)) = false ∨ z = y := by
  cases left (.int .i64 (z : Int)) <;> simp [Lit.sameKey] <;> omega
theorem ranges_block {P : Program} {k : TypeId} {R : Value → Option (DataW Unit × List MemPlace)} {w w' : World} {b r n : Nat} {D : DataW Unit} {left : Lit → Bool} {cnt : Nat} (h : w.ranges P k R b r n D left cnt) (hb : w'.heap[b]? = w.heap[b]?) (hr : w'.heap[r]? = w.heap[r]?) : w'.ranges P k R b r n D left cnt := by
  obtain ⟨es, clock, since, seen, c0, h1, F, hs, hD, h2, rest⟩ := h
  exact ⟨es, clock, since, seen, c0, hb.trans h1, F, hs, hD, hr.trans h2, rest⟩
set_option maxRecDepth 1000000 in
set_option maxHeartbeats 4000000 in
theorem rtogether_any (n cap : Nat) (a : Option Addr) (ps : List Pr) (w : World) (hL : LiesA w a ps) (hn : n ≤ 131072) (hm : ps.length ≤ 8796093022208) (hps : ∀ p ∈ ps, (0 ≤ p.a ∧ p.a < (n : Int)) ∧ (0 ≤ p.b ∧ p.b < (n : Int))) :
    Calls Try.prog 27 #[.int .i64 (n : Int), .slice a ps.length cap] w fun e w' => ∃ g, e = .returned (.slice (some ⟨g, 0, none⟩) n n) ∧ Below w.heap.size w w' ∧ ∃ ms : List Int, w'.ownsRow w.heap.size 3 1 (.slice (some ⟨g, 0, none⟩) n n) n (flat ms) ∧ ms.length = n ∧ Tl ps n n ms := by
  obtain ⟨i0, hi0, hz0, hz1, hz2⟩ := info_parts infoIntH
  have HL := hidH hL
  have HPS := hidH hps
  have HPT : Hid (∀ p ∈ ps.map swapP, (0 ≤ p.a ∧ p.a < (n : Int)) ∧ (0 ≤ p.b ∧ p.b < (n : Int))) := fun p hp => by
    obtain ⟨p', h1, rfl⟩ := List.mem_map.1 hp
    exact ⟨(hps p' h1).2, (hps p' h1).1⟩
  have QR1 := hidH (rows1R n cap a ps w hL hn hm hps)
  obtain ⟨B, hB⟩ : ∃ B, w.heap.size = B := ⟨_, rfl⟩
  have HBE := hidH hB
  clear hL hps
  go_enter Try.func27, Try.ntmps27
  go_upto_region 2 with (go_at_call 28; (with_reducible refine QR1.out.mono ?_); clear QR1; rintro e w1 ⟨rfl, hb1, hrx1⟩; have HB1 := hidH hb1; have RX1 := hidH hrx1; clear hb1 hrx1)
  have QR0 := hidH (rows0R n cap a ps w1 (HL.out.below HB1.out) hn hm HPS.out)
  rw [hB] at HB1 RX1
  go_upto_region 3 with (go_at_call 28; (with_reducible refine QR0.out.mono ?_); clear QR0; rintro e w2 ⟨rfl, hb2, hrx2⟩; have HB2 := hidH hb2; have RX2 := hidH hrx2; clear hb2 hrx2)
  obtain ⟨C, hC⟩ : ∃ C, w1.heap.size = C := ⟨_, rfl⟩
  obtain ⟨D, hD⟩ : ∃ D, w2.heap.size = D := ⟨_, rfl⟩
  have hBC : B ≤ C := by have := HB1.out.size; omega
  have hCD : C ≤ D := by have := HB2.out.size; omega
  have NX : Hid (Rx6 D w2 B n (nd ps)) := by rw [← hD]; exact (RX1.out.below HB2.out).up (by omega)
  have UX : Hid (Rx6 D w2 C n (fun x => usr ps (x : Int))) := by have h9 := RX2.out; rw [hD, hC] at h9; exact h9
  have E2 : Hid (Below B w w2) := HB1.out.trans (HB2.out.mono (by omega))
  have HDE := hidH hD
  rw [hC]
  clear RX1 RX2 HB1 HB2 hC
  go_upto_region 4 with (at_make; refine wpList_make_full _ rfl _ _ 24 rfl D 3 i0 (.int .i64 0) 1 Try.underlying24 hi0 hz0 hz1 _ _ _ _ n rfl rfl rfl rfl (by rw [hz2]; omega) (by unfold maxLen; omega) (by omega) ?_; intro w3 hown3 hgr3; rw [hD] at hown3 ⊢; have O3 : Hid (w3.ownsRow D 3 1 (.slice (some ⟨D, 0, none⟩) n n) n (flat (List.replicate n (0 : Int)))) := (by rw [show (Value.int .i64 0).cells = #[.int .i64 0] by rfl, rep_made] at hown3; unfold Hid; rw [show flat (List.replicate n (0 : Int)) = List.replicate n (Value.int .i64 0) by rw [flat_ints, List.map_replicate]]; exact hown3); have E3 : Hid (Below D w2 w3) := ((Below.refl _ _).grown hgr3 (by omega) (fun k h => by cases h)); clear hown3 hgr3)
  clear hD
  go_wp2
  go_loopg [8] n (fun gk s8 wr => ∃ (k : Nat) (ms : List Int), gk = n - k ∧ s8 = .int .i64 (k : Int) ∧ k ≤ n ∧ wr.ownsRow D 3 1 (.slice (some ⟨D, 0, none⟩) n n) n (flat ms) ∧ ms.length = n ∧ (∀ y : Nat, y < k → ms[y]! = -1) ∧ Below D w2 wr)
  case atStart => exact ⟨0, _, rfl, rfl, Nat.zero_le _, O3.out, by simp, fun y hy => by omega, E3.out⟩
  case round =>
    clear O3 E3
    obtain ⟨k, ms, hgk, rfl, hk, hO, hml, hms, hE⟩ := hrel
    have OM := hidH hO
    have HMS := hidH hms
    have HML := hidH hml
    have EE := hidH hE
    clear hO hms hml hE
    by_cases hkn : k < n
    · have hkn' : (k : Int) < (n : Int) := by omega
      have hkl : k < ms.length := by rw [HML.out]; exact hkn
      obtain ⟨v, hv⟩ : ∃ v, ms[k]? = some v := ⟨_, List.getElem?_eq_getElem hkl⟩
      obtain ⟨cM, fM⟩ := row_cell OM.out hv
      have kk : IntKind.i64.wrap ((k : Int) + 1) = ((k + 1 : Nat) : Int) := by rw [IntWalk.i64_in _ ⟨by omega, by omega⟩]; omega
      have O2 : Hid ((wr.setCell ⟨D, k, none⟩ (.int .i64 (-1))).ownsRow D 3 1 (.slice (some ⟨D, 0, none⟩) n n) n (flat (ms.set k (-1)))) := by
        have h1 := (World.ownsRow.stored OM.out k (.int .i64 (-1))).1
        rw [flat_setI] at h1
        exact h1
      have E4 := hidH (EE.out.setCell (p := ⟨D, k, none⟩) (Nat.le_refl _) (.int .i64 (-1)))
      have M2 : Hid (∀ y : Nat, y < k + 1 → (ms.set k (-1))[y]! = -1) := fun y hy => by
        rw [get_set ms k y _ hkl]
        by_cases e : y = k
        · rw [if_pos e]
        · rw [if_neg e]; exact HMS.out y (by omega)
      clear hv
      go_wp2
      go_roundg (n - (k + 1))
      case measure => omega
      case rel => exact ⟨k + 1, _, rfl, rfl, by omega, O2.out, by rw [List.length_set]; exact HML.out, M2.out, E4.out⟩
    · have hkn' : ¬ (k : Int) < (n : Int) := by omega
      have T0 : Hid (Tl ps n 0 ms) := fun y hy => .inl ⟨HMS.out y (by omega), fun z hz => absurd hz (Nat.not_lt_zero _)⟩
      clear HMS
      go_upto_region 9 with fail
      go_loopg [9] n (fun gk s9 wr => ∃ (x : Nat) (ms : List Int), gk = n - x ∧ s9 = .int .i64 (x : Int) ∧ x ≤ n ∧ wr.ownsRow D 3 1 (.slice (some ⟨D, 0, none⟩) n n) n (flat ms) ∧ ms.length = n ∧ Tl ps n x ms ∧ Below D w2 wr)
      case atStart => exact ⟨0, ms, rfl, rfl, Nat.zero_le _, OM.out, HML.out, T0.out, EE.out⟩
      case round =>
        clear OM HML T0 EE
        obtain ⟨x, ms, hgk2, rfl, hxn, hO, hml, hT, hE⟩ := hrel
        have OM := hidH hO
        have HML := hidH hml
        have TT := hidH hT
        have EE := hidH hE
        clear hO hml hT hE
        by_cases hx : x < n
        · have hx' : (x : Int) < (n : Int) := by omega
          have kx : IntKind.i64.wrap ((x : Int) + 1) = ((x + 1 : Nat) : Int) := by rw [IntWalk.i64_in _ ⟨by omega, by omega⟩]; omega
          have hxl : x < ms.length := by rw [HML.out]; exact hx
          obtain ⟨v, hv⟩ : ∃ v, ms[x]! = v := ⟨_, rfl⟩
          have hvx : ms[x]? = some v := by rw [List.getElem?_eq_getElem hxl, ← hv, getElem!_pos ms x hxl]
          obtain ⟨cM, fM⟩ := row_cell OM.out hvx
          have HV := hidH hv
          clear hv hvx
          by_cases hv0 : 0 ≤ v
          · have T2 := hidH (TT.out.skip hx (by rw [HV.out]; exact hv0))
            go_wp2
            go_roundg (n - (x + 1))
            case measure => omega
            case rel => exact ⟨x + 1, ms, rfl, rfl, by omega, OM.out, HML.out, T2.out, EE.out⟩
          · have O2 : Hid ((wr.setCell ⟨D, x, none⟩ (.int .i64 (x : Int))).ownsRow D 3 1 (.slice (some ⟨D, 0, none⟩) n n) n (flat (ms.set x (x : Int)))) := by
              have h1 := (World.ownsRow.stored OM.out x (.int .i64 (x : Int))).1
              rw [flat_setI] at h1
              exact h1
            have E4 := hidH (EE.out.setCell (p := ⟨D, x, none⟩) (Nat.le_refl _) (.int .i64 (x : Int)))
            go_upto_region 13 with fail
            obtain ⟨wS, hwS⟩ : ∃ wS, wr.setCell ⟨D, x, none⟩ (.int .i64 (x : Int)) = wS := ⟨_, rfl⟩
            rw [hwS] at O2 E4 ⊢
            clear hwS cM fM OM EE
            obtain ⟨a1, c1, d1, -⟩ := NX.out.row x hx
            obtain ⟨a2, c2, d2, -⟩ := UX.out.row x hx
            obtain ⟨r1, hr1⟩ : ∃ r, (nd ps x).length = r := ⟨_, rfl⟩
            obtain ⟨r2, hr2⟩ : ∃ r, (usr ps (x : Int)).length = r := ⟨_, rfl⟩
            rw [hr1] at d1
            simp only [hr2] at d2
            have HR1 := hidH hr1
            have HR2 := hidH hr2
            have cN := (E4.out.cell (p := ⟨B, x, none⟩) NX.out.lt).trans d1
            have cU := (E4.out.cell (p := ⟨C, x, none⟩) UX.out.lt).trans d2
            clear d1 d2 hr1 hr2
            have ML2 : Hid ((ms.set x (x : Int)).length = n) := by rw [Hid, List.length_set]; exact HML.out
            by_cases h10 : r1 = 0
            · subst h10
              have T2 : Hid (Tl ps n (x + 1) (ms.set x (x : Int))) := Tm.done TT.out hx (by rw [HV.out]; omega) (Tm.start (dn := fun _ => False) hxl (fun y _ h => h)) (fun y _ hs => .inl (sam_no1 HR1.out hs))
              go_wp2
              go_roundg (n - (x + 1))
              case measure => omega
              case rel => exact ⟨x + 1, _, rfl, rfl, by omega, O2.out, ML2.out, T2.out, E4.out⟩
            · have h10a : ¬ (r1 : Int) = 0 := by omega
              have h10b : ((r1 : Int) == 0) = false := by rw [beq_eq_false_iff_ne]; exact h10a
              have h10c : decide ((r1 : Int) = 0) = false := decide_eq_false h10a
              by_cases h20 : r2 = 0
              · subst h20
                have T2 : Hid (Tl ps n (x + 1) (ms.set x (x : Int))) := Tm.done TT.out hx (by rw [HV.out]; omega) (Tm.start (dn := fun _ => False) hxl (fun y _ h => h)) (fun y _ hs => .inl (sam_no2 HR2.out hs))
                go_wp2
                go_roundg (n - (x + 1))
                case measure => omega
                case rel => exact ⟨x + 1, _, rfl, rfl, by omega, O2.out, ML2.out, T2.out, E4.out⟩
              · have h20a : ¬ (r2 : Int) = 0 := by omega
                have h20b : ((r2 : Int) == 0) = false := by rw [beq_eq_false_iff_ne]; exact h20a
                have h20c : decide ((r2 : Int) = 0) = false := decide_eq_false h20a
                have hDS : D ≤ wS.heap.size := by have := E4.out.size; have := HDE.out; omega
                have QFa := hidH (rfar_any x n B (nd ps) (ps.map swapP) wS ((NX.out.below E4.out).up hDS) (fun z hz => ⟨Nat.le_trans (nd_len ps z) hm, fun y => mem_nd.trans (trn_swap ps y z).symm⟩) HPT.out hx hn)
                go_upto_region 15 with (go_at_call 52; (with_reducible refine QFa.out.mono ?_); clear QFa; rintro e wa ⟨hba, rfl, Fa, qa, hMa, hQa⟩; have HBa := hidH hba; have MA := hidH hMa; have QA := hidH hQa; clear hba hMa hQa)
                have Ea : Hid (Below D w2 wa) := E4.out.trans (HBa.out.mono hDS)
                have Oa := hidH (own_belowR O2.out HBa.out (Nat.le_refl _))
                have hDa : D ≤ wa.heap.size := by have := Ea.out.size; have := HDE.out; omega
                obtain ⟨ba, hbae⟩ : ∃ b, wS.heap.size = b := ⟨_, rfl⟩
                have hDba : D < ba := by have := (O2.out.lt D rfl).2; omega
                rw [hbae] at MA ⊢
                have hbal : ba < wa.heap.size := MA.out.lt
                have QFb := hidH (rfar_any x n C (fun x => usr ps (x : Int)) ps wa ((UX.out.below Ea.out).up hDa) (fun z hz => ⟨Nat.le_trans (usr_len ps (z : Int)) hm, fun y => mem_usr⟩) HPS.out hx hn)
                clear HBa hbae O2 E4 cN cU hDS
                go_upto_region 16 with (go_at_call 52; (with_reducible refine QFb.out.mono ?_); clear QFb; rintro e wb ⟨hbb, rfl, Fb, qb, hMb, hQb⟩; have HBb := hidH hbb; have MB := hidH hMb; have QB := hidH hQb; clear hbb hMb hQb)
                have Eb : Hid (Below D w2 wb) := Ea.out.trans (HBb.out.mono hDa)
                have Ob := hidH (own_belowR Oa.out HBb.out (Nat.le_refl _))
                have MA2 := hidH (MA.out.below HBb.out)
                obtain ⟨bb, hbbe⟩ : ∃ b, wa.heap.size = b := ⟨_, rfl⟩
                rw [hbbe] at MB hbal hDa ⊢
                have hbbl : bb < wb.heap.size := MB.out.lt
                clear HBb hbbe Oa Ea MA
                obtain ⟨Dm, m, hown, -, -, hDm, hDz⟩ := MA2.out
                have HOW := hidH hown
                have HDM := hidH hDm
                have HDZ := hidH hDz
                clear hown hDm hDz MA2
                obtain ⟨r, hrr⟩ : ∃ r, wb.heap.size = r := ⟨_, rfl⟩
                go_upto_region 17 with (at_range; refine wpList_range_own _ rfl _ 78 rfl 3 3 (int_keyed Try.underlying3) Try.underlying78 _ ba m Dm rfl HOW.out ?_; intro w0 hrg0 hg0 hs0; rw [hrr] at hrg0 hs0 ⊢; have RG0 := hidH hrg0; have E0 : Hid (Below D w2 w0) := (Eb.out.grown hg0 (by omega) (fun k h => by cases h)); have O0 : Hid (w0.ownsRow D 3 1 (.slice (some ⟨D, 0, none⟩) n n) n (flat (ms.set x (x : Int)))) := (own_same Ob.out (fun g e => hg0.block g (Ob.out.lt g e).2 (by simp))); have M0 := hidH (MB.out.block (hg0.block bb hbbl (by simp))); have HS0 := hidH hs0; clear hrg0 hg0 hs0)
                try go_frame
                have SAa : Hid (∀ y, Sam ps x y → y ∈ qa) := fun y hs => QA.out.rch.2 (hs.1.back (trn_swap ps))
                have hrD : D < r := by omega
                have hrbb : bb < r := by omega
                clear hrr hbbl
                go_loopg [12] (Go.Maps.size Dm) (fun g3 s12 wq => ∃ (left : Lit → Bool) (cnt : Nat) (ms' : List Int), g3 = cnt ∧ wq.ranges Try.prog 3 (plainElem Try.prog 3) ba r m Dm left cnt ∧ (∀ z : Int, left (.int .i64 z) = true → ∃ y : Nat, z = (y : Int) ∧ y ∈ qa) ∧ Tm ps n x ms (fun y => left (.int .i64 (y : Int)) = false) ms' ∧ ms'.length = n ∧ wq.ownsRow D 3 1 (.slice (some ⟨D, 0, none⟩) n n) n (flat ms') ∧ Mq wq bb Fb qb ∧ Below D w2 wq)
                case atStart => exact ⟨_, _, _, rfl, RG0.out, fun z hz => ⟨z.toNat, by have := HDZ.out z hz; omega, by have h1 := HDZ.out z hz; have h2 := (HDM.out z.toNat).1; rw [show ((z.toNat : Nat) : Int) = z by omega, hz] at h2; exact of_decide_eq_true h2.symm⟩, Tm.start hxl (fun y hs h => by rw [(HDM.out y).1] at h; exact absurd (SAa.out y hs) (of_decide_eq_false h)), ML2.out, O0.out, M0.out, E0.out⟩
                case round =>
                  clear RG0 O0 M0 E0 HS0 HOW HDM HDZ Ob MB Eb ML2
                  obtain ⟨left, cnt, ms', hg3, hRG, hlf, hTm, hml2, hO2, hM2, hE2⟩ := hrel
                  have RG := hidH hRG
                  have LF := hidH hlf
                  have TM := hidH hTm
                  have ML3 := hidH hml2
                  have O3 := hidH hO2
                  have M3 := hidH hM2
                  have E3 := hidH hE2
                  clear hRG hlf hTm hml2 hO2 hM2 hE2
                  go_wp2_with (at_next; refine wpList_next_ranges_ii _ rfl _ rfl 3 3 .i64 .i64 (int_keyed Try.underlying3) Try.underlying3 Try.underlying3 ba r m Dm left cnt rfl RG.out ?_ ?_)
                  · intro hc0 hl0
                    have T2 : Hid (Tl ps n (x + 1) ms') := Tm.done TT.out hx (by rw [HV.out]; omega) TM.out (fun y _ hs => .inr (hl0 _))
                    clear hl0
                    go_wp2
                    go_roundg (n - (x + 1))
                    case measure => omega
                    case rel => exact ⟨x + 1, _, rfl, rfl, by omega, O3.out, ML3.out, T2.out, E3.out⟩
                  · intro z c w4 cnt4 hwx hwc hlx hat hrg4 hlt hg4 hs4 hen
                    obtain ⟨y, rfl, hyqa⟩ := LF.out z hlx
                    have hyn : y < n := QA.out.rng y hyqa
                    have hrl := RG.out.lt
                    have hbl := M3.out.lt
                    have RG4 : Hid (w4.ranges Try.prog 3 (plainElem Try.prog 3) ba r m Dm (fun z => left z && !z.sameKey (.int .i64 (y : Int))) cnt4) := hrg4
                    have E5 : Hid (Below D w2 w4) := E3.out.grown hg4 (by omega) (fun k h => by cases h; omega)
                    have O5 : Hid (w4.ownsRow D 3 1 (.slice (some ⟨D, 0, none⟩) n n) n (flat ms')) := own_same O3.out (fun g e => hg4.block g (O3.out.lt g e).2 (fun h => by have e2 : D = g := (by simpa [Value.ownBlock] using e); injection h with h; omega))
                    have M5 := hidH (M3.out.block (hg4.block bb hbl (fun h => by injection h with h; omega)))
                    have LF5 : Hid (∀ u : Int, (fun z : Lit => left z && !z.sameKey (.int .i64 (y : Int))) (.int .i64 u) = true → ∃ y : Nat, u = (y : Int) ∧ y ∈ qa) := fun u hu => LF.out u ((Bool.and_eq_true _ _ ▸ hu : _ ∧ _).1)
                    have hyl : y < ms'.length := by rw [ML3.out]; exact hyn
                    obtain ⟨u, hu⟩ : ∃ u, ms'[y]? = some u := ⟨_, List.getElem?_eq_getElem hyl⟩
                    obtain ⟨cM, fM⟩ := row_cell O5.out hu
                    have hy' : (y : Int) < (n : Int) := by omega
                    clear hrg4 hg4 hs4 hat hlx hwx hwc hu RG M3 O3 E3
                    by_cases hyb : y ∈ qb
                    · have lk := M5.out.look_yes hyb (by omega)
                      have hs : Sam ps x y := ⟨(QA.out.rch.1 hyqa).turn (trn_swap ps), QB.out.rch.1 hyb⟩
                      have TM5 : Hid (Tm ps n x ms (fun z => (fun z : Lit => left z && !z.sameKey (.int .i64 (y : Int))) (.int .i64 (z : Int)) = false) (ms'.set y (x : Int))) := TM.out.put hyl hs (fun z => lf6 left y z)
                      have O6 : Hid ((w4.setCell ⟨D, y, none⟩ (.int .i64 (x : Int))).ownsRow D 3 1 (.slice (some ⟨D, 0, none⟩) n n) n (flat (ms'.set y (x : Int)))) := by
                        have h1 := (World.ownsRow.stored O5.out y (.int .i64 (x : Int))).1
                        rw [flat_setI] at h1
                        exact h1
                      have E6 := hidH (E5.out.setCell (p := ⟨D, y, none⟩) (Nat.le_refl _) (.int .i64 (x : Int)))
                      have M6 := hidH (M5.out.block (Below.heap_setCell w4 ⟨D, y, none⟩ (.int .i64 (x : Int)) bb (by show bb ≠ D; omega)))
                      have RG6 := hidH (ranges_block RG4.out (Below.heap_setCell w4 ⟨D, y, none⟩ (.int .i64 (x : Int)) ba (by show ba ≠ D; omega)) (Below.heap_setCell w4 ⟨D, y, none⟩ (.int .i64 (x : Int)) r (by show r ≠ D; omega)))
                      have ML6 : Hid ((ms'.set y (x : Int)).length = n) := by rw [Hid, List.length_set]; exact ML3.out
                      clear hs
                      go_wp2
                      go_roundg cnt4
                      case measure => omega
                      case rel => exact ⟨_, cnt4, _, rfl, RG6.out, LF5.out, TM5.out, ML6.out, O6.out, M6.out, E6.out⟩
                    · obtain ⟨c9, lk⟩ := M5.out.look_no hyb (by omega)
                      have hs : ¬ Sam ps x y := fun h => hyb (QB.out.rch.2 h.2)
                      have TM5 : Hid (Tm ps n x ms (fun z => (fun z : Lit => left z && !z.sameKey (.int .i64 (y : Int))) (.int .i64 (z : Int)) = false) ms') := TM.out.skip hs (fun z => lf6 left y z)
                      clear hs
                      go_wp2
                      go_roundg cnt4
                      case measure => omega
                      case rel => exact ⟨_, cnt4, _, rfl, RG4.out, LF5.out, TM5.out, ML3.out, O5.out, M5.out, E5.out⟩
        · have hx' : ¬ (x : Int) < (n : Int) := by omega
          have hxe : x = n := by omega
          have EW : Hid (Below B w wr) := E2.out.trans (EE.out.mono (by omega))
          have TN : Hid (Tl ps n n ms) := by have h9 := TT.out; rw [hxe] at h9; exact h9
          have OB := hidH (own_lower OM.out (show B ≤ D by omega))
          go_wp2
          go_ret
          exact ⟨D, rfl, by first | exact EW.out | (rw [hB]; exact EW.out), ms, by first | exact OB.out | (rw [hB]; exact OB.out), HML.out, TN.out⟩
end Go.Proofs.Ytgijcbipnjmhgab

namespace Go.Proofs.Ytgijcbipnjmhgab
open Go.ChangeShapes Go.WideShapes Go.ChangeAt Go.RowKit
set_option linter.unusedVariables false
set_option linter.unusedSimpArgs false

/-- the lows that the reference's Together tells, as numbers -/
def lwT (ms : List Int) (y : Nat) : Nat := (ms[y]!).toNat
theorem Tl.low {ps : List Pr} {n y : Nat} {ms : List Int} (h : Tl ps n n ms) (hy : y < n) : ms[y]! = (lwT ms y : Int) ∧ Low ps y (lwT ms y) ∧ lwT ms y < n := by
  rcases h y hy with ⟨-, hno⟩ | ⟨l, hl, e, hL⟩
  · exact absurd (Sam.refl ps y) (hno y hy)
  · have e2 : lwT ms y = l := by unfold lwT; rw [e]; omega
    rw [e2]
    exact ⟨e, hL, hl⟩
theorem Lws.same {ps : List Pr} {n : Nat} {lw lw' : Nat → Nat} (h : Lws ps n lw) (k : Lws ps n lw') {y : Nat} (hy : y < n) : lw y = lw' y := by
  have h1 := h.low y hy
  have h2 := k.low y hy
  have a := h1.2 _ h2.1
  have b := h2.2 _ h1.1
  omega
theorem btw_same {ps : List Pr} {n : Nat} {lw lw' : Nat → Nat} (hps : ∀ p ∈ ps, (0 ≤ p.a ∧ p.a < (n : Int)) ∧ (0 ≤ p.b ∧ p.b < (n : Int))) (h : ∀ y, y < n → lw y = lw' y) : btw lw ps = btw lw' ps := by
  have key : ∀ p ∈ ps, lw p.a.toNat = lw' p.a.toNat ∧ lw p.b.toNat = lw' p.b.toNat := fun p hp => by
    have := hps p hp
    exact ⟨h _ (by omega), h _ (by omega)⟩
  unfold btw
  rw [List.filter_congr (q := fun p => decide (lw' p.a.toNat ≠ lw' p.b.toNat)) (fun p hp => by rw [(key p hp).1, (key p hp).2])]
  exact List.map_congr_left fun p hp => by
    have h9 := key p (List.mem_filter.1 hp).1
    rw [h9.1, h9.2]
theorem mem1_same {n : Nat} {lw lw' : Nat → Nat} (h : ∀ y, y < n → lw y = lw' y) (z : Nat) : mem1 n lw z = mem1 n lw' z := by
  unfold mem1
  rw [List.filter_congr (q := fun y => decide (lw' y = z)) (fun y hy => by rw [h y (List.mem_range.1 hy)])]
/-- both Parts answer the same -/
theorem parts_same {ps : List Pr} {n : Nat} {lw lw' : Nat → Nat} {N : Nat → List Int} {os os' : List Int} (h : Lws ps n lw) (hN : LstR n (btw lw ps) N) (hl : Ln N n os) (h' : Lws ps n lw') (hg : Gn (fun x => (0 ≤ x ∧ x < (n : Int)) ∧ decide ((lw' x.toNat : Int) = x) = true) (fun x z => (⟨x, z⟩ : Pr) ∈ btw lw' ps) os') : pts n lw os = os'.map fun x => mem1 n lw' x.toNat := by
  have hs : ∀ y, y < n → lw y = lw' y := fun y hy => h.same h' hy
  have e : los lw os = os' := by
    refine Gn.uniq ((los_gn h hN hl).congr (fun x => ?_) (fun x hx z => ?_)) hg
    · refine and_congr_right fun hx => ?_
      rw [hs x.toNat (by omega)]
    · rw [btw_same h.rng hs]
  rw [pts_los, e]
  exact List.map_congr_left fun x _ => mem1_same hs _
/-- who belongs where, as pairs -/
def mps (lw : Nat → Nat) (k : Nat) : List Pr := (List.range k).map fun y => ⟨(lw y : Int), (y : Int)⟩
theorem mps_snoc (lw : Nat → Nat) (k : Nat) : mps lw (k + 1) = mps lw k ++ [⟨(lw k : Int), (k : Int)⟩] := by
  unfold mps
  rw [List.range_succ, List.map_append]
  rfl
theorem nd_mps (n : Nat) (lw : Nat → Nat) (z : Nat) : nd (mps lw n) z = mem1 n lw z := by
  unfold nd mps mem1
  rw [List.filter_map, List.map_map]
  rw [List.filter_congr (q := fun y => decide (lw y = z)) (fun y hy => by
    show decide (((lw y : Nat) : Int) = (z : Int)) = decide (lw y = z)
    rw [decide_eq_decide]
    omega)]
  rfl
end Go.Proofs.Ytgijcbipnjmhgab
