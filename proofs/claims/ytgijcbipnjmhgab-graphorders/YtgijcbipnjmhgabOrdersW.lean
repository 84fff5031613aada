import Derived.Test.YtgijcbipnjmhgabGx2
import Derived.Maps.Own
import Derived.Maps.OwnOps
import Derived.Maps.OwnSet
import Derived.Maps.Views
import Derived.Test.YtgijcbipnjmhgabGq2
import Derived.Test.YtgijcbipnjmhgabWo0
import Derived.Test.YtgijcbipnjmhgabGl
import Derived.Test.YtgijcbipnjmhgabSmI
namespace Go.Proofs.Ytgijcbipnjmhgab
open Go.ChangeShapes Go.WideShapes Go.ChangeAt Go.RowKit
open Go.Maps (Keyed int_keyed keyOf_int_mk)
set_option linter.unusedVariables false
set_option linter.unusedSimpArgs false

theorem zeroI6 (w : World) : (zeroValue 3).run Try.prog w = .ok (.int .i64 0) w := by kernel_rfl
theorem wfN6 {x : Nat} (h : x ≤ 9223372036854775807) : (Lit.int .i64 (x : Int)).wf = true := by simp [Lit.wf, IntKind.min, IntKind.max, IntKind.bits, IntKind.signed]; omega
/-- a map that tells how far each of q is -/
def Mq (w : World) (b : Nat) (F : Nat → Nat) (q : List Nat) : Prop := ∃ (D : DataW Unit) (m : Nat), w.ownsMap Try.prog 3 (plainElem Try.prog 3) b m D ∧ m ≤ q.length ∧ (∃ es, D = .map es) ∧ ∀ x : Nat, Go.Maps.has D (.int .i64 (x : Int)) = decide (x ∈ q) ∧ (x ∈ q → D.atKey (.int .i64 (x : Int)) (.lit (.int .i64 0)) = .lit (.int .i64 (F x : Int)))
theorem Mq.block {w w' : World} {b : Nat} {F : Nat → Nat} {q : List Nat} (h : Mq w b F q) (hb : w'.heap[b]? = w.heap[b]?) : Mq w' b F q := by
  obtain ⟨D, m, ⟨es, cl, h1, h2⟩, h3⟩ := h
  exact ⟨D, m, ⟨es, cl, hb.trans h1, h2⟩, h3⟩
theorem Mq.lt {w : World} {b : Nat} {F : Nat → Nat} {q : List Nat} (h : Mq w b F q) : b < w.heap.size := by
  obtain ⟨D, m, h1, -⟩ := h
  exact h1.lt
theorem Mq.below {w w' : World} {b : Nat} {F : Nat → Nat} {q : List Nat} (h : Mq w b F q) (hb : Below w.heap.size w w') : Mq w' b F q := h.block (hb.block b h.lt)
theorem Mq.look {w : World} {b x : Nat} {F : Nat → Nat} {q : List Nat} (h : Mq w b F q) (hx : x ∈ q) (hl : x ≤ 9223372036854775807) : (Instr.lookup 78 (.map (some b)) (.int .i64 (x : Int)) false).run Try.prog w = .ok (.int .i64 (F x : Int)) w := by
  obtain ⟨D, m, h1, -, h2, h3⟩ := h
  obtain ⟨c, hr, hat, hw⟩ := h1.lookup_int (int_keyed Try.underlying3) Try.underlying78 Try.underlying3 (zeroI6 w) (keyOf_int_mk Try.underlying3 (wfN6 hl))
  rw [(h3 x).2 hx] at hat
  cases hat
  exact hr
theorem Mq.look_yes {w : World} {b x : Nat} {F : Nat → Nat} {q : List Nat} (h : Mq w b F q) (hx : x ∈ q) (hl : x ≤ 9223372036854775807) : (Instr.lookup 78 (.map (some b)) (.int .i64 (x : Int)) true).run Try.prog w = .ok (.tuple #[.int .i64 (F x : Int), .bool true]) w := by
  obtain ⟨D, m, h1, -, h2, h3⟩ := h
  obtain ⟨v, ps, hr, hv⟩ := h1.look_ok (int_keyed Try.underlying3) Try.underlying78 (zeroI6 w) (plainElem_int Try.underlying3 (by decide)) (keyOf_int_mk Try.underlying3 (wfN6 hl))
  obtain ⟨c, rfl, hc, hwc⟩ := plainElem_int_inv Try.underlying3 hv
  have hat := congrArg Prod.fst hc
  simp only at hat
  rw [(h3 x).2 hx] at hat
  cases hat
  rw [(h3 x).1, decide_eq_true hx] at hr
  exact hr
theorem Mq.look_no {w : World} {b x : Nat} {F : Nat → Nat} {q : List Nat} (h : Mq w b F q) (hx : x ∉ q) (hl : x ≤ 9223372036854775807) : ∃ c : Int, (Instr.lookup 78 (.map (some b)) (.int .i64 (x : Int)) true).run Try.prog w = .ok (.tuple #[.int .i64 c, .bool false]) w := by
  obtain ⟨D, m, h1, -, h2, h3⟩ := h
  obtain ⟨v, ps, hr, hv⟩ := h1.look_ok (int_keyed Try.underlying3) Try.underlying78 (zeroI6 w) (plainElem_int Try.underlying3 (by decide)) (keyOf_int_mk Try.underlying3 (wfN6 hl))
  obtain ⟨c, rfl, hc, hwc⟩ := plainElem_int_inv Try.underlying3 hv
  rw [(h3 x).1, decide_eq_false hx] at hr
  exact ⟨c, hr⟩
theorem Mq.put {w : World} {b x v : Nat} {F : Nat → Nat} {q : List Nat} (h : Mq w b F q) (hl : x ≤ 9223372036854775807) (hv : v ≤ 9223372036854775807) (hq : q.length < maxLen) : ∃ w', (Instr.mapUpdate 78 (.map (some b)) (.int .i64 (x : Int)) (.int .i64 (v : Int))).run Try.prog w = .ok () w' ∧ Mq w' b (fun z => if z = x then v else F z) (q ++ [x]) ∧ w.grownBy w' (some b) := by
  obtain ⟨D, m, h1, hm, h2, h3⟩ := h
  obtain ⟨w', hr, ho, hg⟩ := h1.update (int_keyed Try.underlying3) Try.underlying78 (Nat.lt_of_le_of_lt hm hq) (keyOf_int_mk Try.underlying3 (wfN6 hl)) (plainElem_int Try.underlying3 (wfN6 hv))
  refine ⟨w', hr, ⟨_, _, ho, by rw [List.length_append, List.length_singleton]; omega, Go.Maps.IsMap.put h2 _ _, fun y => ?_⟩, hg⟩
  by_cases e : y = x
  · subst e
    exact ⟨by rw [Go.Maps.has_put_same h2 (by trivial)]; simp, fun _ => by rw [Go.Maps.atKey_put_same h2 (by trivial)]; simp⟩
  · have hne : (Lit.int .i64 (y : Int)) ≠ Lit.int .i64 (x : Int) := by intro h; simp at h; omega
    refine ⟨by rw [Go.Maps.has_put_other hne, (h3 y).1]; simp [e], fun hy => ?_⟩
    rw [Go.Maps.atKey_put_other hne]
    show _ = DataW.lit (Lit.int .i64 (((if y = x then v else F y : Nat)) : Int))
    rw [if_neg e]
    exact (h3 y).2 ((List.mem_append.1 hy).resolve_right (by simpa using e))
theorem Mq.made (w : World) (F : Nat → Nat) : Mq (w.alloc (.map #[] 0)) w.heap.size F [] := ⟨_, 0, World.ownsMap_made _ _ _ _, Nat.le_refl _, ⟨_, rfl⟩, fun x => ⟨by simp [Go.Maps.has], fun h => by cases h⟩⟩
theorem Mq.ne {w : World} {b B e k n : Nat} {v : Value} {xs : List Value} {F : Nat → Nat} {q : List Nat} (h : Mq w b F q) (ho : w.ownsRow B e k v n xs) : v.ownBlock ≠ some b := by
  obtain ⟨D, m, ⟨es, cl, h1, h2⟩, h3⟩ := h
  rcases ho.2 with ⟨hv, h0⟩ | ⟨g, c, cur, hv, hg, hh, -⟩
  · rw [hv]; simp [Value.ownBlock]
  · rw [hv]
    intro e
    simp [Value.ownBlock] at e
    subst e
    rw [h1] at hh
    cases hh
/-- far's world: the map, the row that is looked at, the next one -/
structure Fq (B b : Nat) (w : World) (F : Nat → Nat) (q : List Nat) (V6 : Value) (row : List Nat) (V7 : Value) (nx : List Nat) : Prop where
  mp : Mq w b F q
  ro : w.ownsRow B 3 1 V6 row.length (flat (qI row))
  nx : w.ownsRow B 3 1 V7 nx.length (flat (qI nx))
  ap : ∀ g, V6.ownBlock = some g → V7.ownBlock ≠ some g
theorem Fq.below {B b : Nat} {w w' : World} {F : Nat → Nat} {q row nx : List Nat} {V6 V7 : Value} (h : Fq B b w F q V6 row V7 nx) (hb : Below w.heap.size w w') : Fq B b w' F q V6 row V7 nx :=
  ⟨h.mp.below hb, own_belowR h.ro hb (Nat.le_refl _), own_belowR h.nx hb (Nat.le_refl _), h.ap⟩
theorem Fq.upd {B b : Nat} {w w' : World} {F F' : Nat → Nat} {q q' row nx : List Nat} {V6 V7 : Value} (h : Fq B b w F q V6 row V7 nx) (hm : Mq w' b F' q') (hg : w.grownBy w' (some b)) : Fq B b w' F' q' V6 row V7 nx :=
  ⟨hm, own_same h.ro (fun g e => hg.block g (h.ro.lt g e).2 (fun e2 => h.mp.ne h.ro (by rw [e, e2]))), own_same h.nx (fun g e => hg.block g (h.nx.lt g e).2 (fun e2 => h.mp.ne h.nx (by rw [e, e2]))), h.ap⟩
theorem Fq.push {B b y : Nat} {w w' : World} {F : Nat → Nat} {q row nx : List Nat} {V6 V7 V' : Value} (h : Fq B b w F q V6 row V7 nx) (ho : w'.ownsRow B 3 1 V' (nx.length + 1) (flat (qI nx) ++ [.int .i64 (y : Int)])) (hg : w.grownBy w' V7.ownBlock) (hn : V'.ownBlock = V7.ownBlock ∨ ∃ g, V'.ownBlock = some g ∧ w.heap.size ≤ g) : Fq B b w' F q V6 row V' (nx ++ [y]) := by
  refine ⟨h.mp.block (hg.block b h.mp.lt (fun e => h.mp.ne h.nx e.symm)), own_same h.ro (fun g e => hg.block g (h.ro.lt g e).2 (fun e2 => h.ap g e e2.symm)), ?_, fun g e e2 => ?_⟩
  · rw [List.length_append, List.length_singleton, qI, List.map_append, flat_append]
    exact ho
  · rcases hn with e3 | ⟨g', e3, hg2⟩
    · rw [e3] at e2; exact h.ap g e e2
    · rw [e3] at e2
      injection e2 with e2
      have := (h.ro.lt g e).2
      omega
set_option maxRecDepth 1000000 in
set_option maxHeartbeats 4000000 in
theorem rfar_any (f n gV : Nat) (R : Nat → List Int) (ps : List Pr) (w : World) (hR : Rx6 w.heap.size w gV n R) (hm : ∀ x, x < n → (R x).length ≤ 8796093022208 ∧ ∀ y, y ∈ R x ↔ (⟨y, (x : Int)⟩ : Pr) ∈ ps) (hps : ∀ p ∈ ps, (0 ≤ p.a ∧ p.a < (n : Int)) ∧ (0 ≤ p.b ∧ p.b < (n : Int))) (hf : f < n) (hn : n ≤ 131072) :
    Calls Try.prog 52 #[.int .i64 (f : Int), .slice (some ⟨gV, 0, none⟩) n n] w fun e w' => Below w.heap.size w w' ∧ e = .returned (.map (some w.heap.size)) ∧ ∃ F q, Mq w' w.heap.size F q ∧ Bq ps n f F q q.length (fun _ => False) := by
  obtain ⟨i0, hi0, hz0, hz1, hz2⟩ := info_parts infoIntH
  have hmm := @run_makeMap Try.prog
  have HRX := hidH hR
  have HM := hidH hm
  have HPS := hidH hps
  obtain ⟨B, hB⟩ : ∃ B, w.heap.size = B := ⟨_, rfl⟩
  rw [hB] at HRX
  have M0 : Mq (w.alloc (.map #[] 0)) B (fun y => if y = f then 0 else n) [] := by rw [← hB]; exact Mq.made w _
  obtain ⟨w1, hr1, hM1, hg1⟩ := M0.put (x := f) (v := 0) (by omega) (by omega) (by unfold maxLen; simp)
  have M1 : Hid (Mq w1 B (fun y => if y = f then 0 else n) [f]) := by
    have h9 := hM1
    rw [show (fun z => if z = f then 0 else (fun y => if y = f then 0 else n) z) = (fun y => if y = f then 0 else n) from funext fun z => by by_cases e : z = f; (simp [e]); (simp [e])] at h9
    exact h9
  have E1 : Hid (Below B w w1) := (((Below.refl B w).alloc (by omega) _).grown hg1 (by simp; omega) (fun k h => by cases h; exact Nat.le_refl _))
  have hr2 : (Instr.mapUpdate 78 (.map (some B)) (.int .i64 (f : Int)) (.int .i64 0)).run Try.prog (w.alloc (.map #[] 0)) = .ok () w1 := hr1
  clear hR hm hps M0 hM1 hg1 hr1
  go_enter Try.func52, Try.ntmps52
  go_upto_region 3 with fail
  obtain ⟨w2, e2, hb2, hs2, X2⟩ := bx1 w1 #[.int .i64 (f : Int)] 3
  have hw1B : B < w1.heap.size := M1.out.lt
  have M2 := hidH (M1.out.below hb2)
  have E2 := hidH (E1.out.trans (hb2.mono (Nat.le_of_lt hw1B)))
  have O2 : Hid (w2.ownsRow B 3 1 (.slice (some ⟨w1.heap.size, 0, none⟩) 1 1) ([f] : List Nat).length (flat (qI [f]))) := by
    have h1 := own_one B w1 (.int .i64 (f : Int)) 3 (Nat.le_of_lt hw1B)
    rw [e2] at h1
    exact h1
  rw [e2]
  clear e2 hb2 hs2 X2 M1 E1 hr2 hmm
  go_loopg [6] (n + 1) (fun gk s6 wr => ∃ (o : Nat) (V : Value) (row : List Nat) (F : Nat → Nat) (q : List Nat), gk = n + 1 - o ∧ s6 = V ∧ q.drop o = row ∧ o ≤ q.length ∧ Mq wr B F q ∧ wr.ownsRow B 3 1 V row.length (flat (qI row)) ∧ Bq ps n f F q o (fun _ => False) ∧ Below B w wr)
  case atStart => exact ⟨0, _, [f], _, [f], rfl, rfl, rfl, Nat.zero_le _, M2.out, O2.out, Bq.start hf, E2.out⟩
  case round =>
    clear M2 O2 E2
    obtain ⟨o, V, row, F, q0, hgk, rfl, hdr, hoq, hM, hO, hQ, hE⟩ := hrel
    have MM := hidH hM
    have OO := hidH hO
    have BQ := hidH hQ
    have EE := hidH hE
    have HDR := hidH hdr
    have hfew := hQ.few
    clear hM hO hQ hE
    obtain ⟨aV, cV, hV, haV, -⟩ := own_slice OO.out
    subst hV
    obtain ⟨m, hmq⟩ : ∃ m, row.length = m := ⟨_, rfl⟩
    have HMQ := hidH hmq
    have hom : q0.length = o + m := by rw [← hmq, ← hdr, List.length_drop]; omega
    have OO2 : Hid (wr.ownsRow B 3 1 (.slice aV m cV) m (flat (qI row))) := by have h9 := OO.out; rw [hmq] at h9; exact h9
    rw [hmq] at haV OO ⊢
    clear hdr hmq
    by_cases hm0 : 0 < m
    · have hm0' : (0 : Int) < (m : Int) := by omega
      obtain ⟨g6, rfl⟩ := haV hm0
      have FQ0 : Hid (Fq B B wr F (q0 ++ []) (.slice (some ⟨g6, 0, none⟩) m cV) row (.slice none 0 0) []) := ⟨by rw [List.append_nil]; exact MM.out, by rw [HMQ.out]; exact OO2.out, World.ownsRow_nil _ _ _ _, fun g e => by simp [Value.ownBlock]⟩
      have BQ0 : Hid (Bq ps n f F (q0 ++ []) (o + 0) (fun _ => False)) := by rw [List.append_nil]; exact BQ.out
      have ROW : Hid (∀ (i x : Nat), row[i]? = some x → ∀ nx, (q0 ++ nx)[o + i]? = some x) := fun i x hx nx => by
        have h9 := hx
        rw [← HDR.out, List.getElem?_drop] at h9
        rw [List.getElem?_append_left (List.getElem?_eq_some_iff.1 h9).1]
        exact h9
      clear MM BQ OO OO2
      go_wp2
      go_loopg [7, 8] m (fun g2 s7 s8 wq => ∃ (i : Nat) (V7 : Value) (nx : List Nat) (F : Nat → Nat), g2 = m - i ∧ s7 = V7 ∧ s8 = .int .i64 (i : Int) ∧ i ≤ m ∧ Fq B B wq F (q0 ++ nx) (.slice (some ⟨g6, 0, none⟩) m cV) row V7 nx ∧ Bq ps n f F (q0 ++ nx) (o + i) (fun _ => False) ∧ Below B w wq)
      case atStart => exact ⟨0, _, [], F, rfl, rfl, rfl, Nat.zero_le _, FQ0.out, BQ0.out, EE.out⟩
      case round =>
        clear FQ0 BQ0 EE
        obtain ⟨i, V7, nx, F, hg2, rfl, rfl, hi, hFq, hBq, hE⟩ := hrel
        have FQ := hidH hFq
        have BQ := hidH hBq
        have EE := hidH hE
        clear hFq hBq hE
        by_cases him : i < m
        · have him' : (i : Int) < (m : Int) := by omega
          have ki : IntKind.i64.wrap ((i : Int) + 1) = ((i + 1 : Nat) : Int) := by rw [IntWalk.i64_in _ ⟨by omega, by omega⟩]; omega
          obtain ⟨x, hx⟩ : ∃ x, row[i]? = some x := ⟨_, List.getElem?_eq_getElem (by rw [HMQ.out]; exact him)⟩
          have HX := hidH (ROW.out i x hx)
          have HXR := hidH hx
          have hxn : x < n := BQ.out.rng x (List.mem_of_getElem? (HX.out nx))
          have hxn' : (x : Int) < (n : Int) := by omega
          obtain ⟨aD, cD, cD1, hrow⟩ := HRX.out.row x hxn
          obtain ⟨r, hr⟩ : ∃ r, (R x).length = r := ⟨_, rfl⟩
          have hrp : r ≤ 8796093022208 := by rw [← hr]; exact (HM.out x hxn).1
          rw [hr] at cD1
          have HR := hidH hr
          have HROW := hidH hrow
          have HCD := hidH cD1
          clear hx hrow hr cD1
          go_upto_region 9 with fail
          go_loopg [7, 9] r (fun g3 s7 s9 wq => ∃ (k : Nat) (V7 : Value) (nx : List Nat) (F : Nat → Nat), g3 = r - k ∧ s7 = V7 ∧ s9 = .int .i64 (k : Int) ∧ k ≤ r ∧ Fq B B wq F (q0 ++ nx) (.slice (some ⟨g6, 0, none⟩) m cV) row V7 nx ∧ Bq ps n f F (q0 ++ nx) (o + i) (fun z => (z : Int) ∈ (R x).take k) ∧ Below B w wq)
          case atStart => exact ⟨0, _, nx, F, rfl, rfl, rfl, Nat.zero_le _, FQ.out, BQ.out.weak (fun z hz => by simp at hz), EE.out⟩
          case round =>
            clear FQ BQ EE
            obtain ⟨k, V7, nx, F, hg3, rfl, rfl, hk, hFq, hBq, hE⟩ := hrel
            have FQ := hidH hFq
            have BQ := hidH hBq
            have EE := hidH hE
            have hfew2 := hBq.few
            clear hFq hBq hE
            have cX := (row_cell (n := m) (by have h9 := FQ.out.ro; rw [HMQ.out] at h9; exact h9) (qI_get HXR.out)).1
            have cD0 := (EE.out.cell (p := ⟨gV, x, none⟩) HRX.out.lt).trans HCD.out
            by_cases hkr : k < r
            · have hkr' : (k : Int) < (r : Int) := by omega
              have kk : IntKind.i64.wrap ((k : Int) + 1) = ((k + 1 : Nat) : Int) := by rw [IntWalk.i64_in _ ⟨by omega, by omega⟩]; omega
              obtain ⟨y0, hy0⟩ : ∃ y, (R x)[k]? = some y := ⟨_, List.getElem?_eq_getElem (by rw [HR.out]; exact hkr)⟩
              have hye := ((HM.out x hxn).2 y0).1 (List.mem_of_getElem? hy0)
              have hyr := (HPS.out _ hye).1
              simp only at hyr
              obtain ⟨y, rfl⟩ : ∃ y : Nat, y0 = (y : Int) := ⟨y0.toNat, by omega⟩
              have hyn : y < n := by omega
              obtain ⟨g, rfl, hg, hcl⟩ := HROW.out (by rw [HR.out]; omega)
              have cY := (EE.out.cell (p := ⟨g, k, none⟩) hg).trans (hcl k _ hy0)
              have HY0 := hidH hy0
              have HYE := hidH hye
              clear hcl hy0 hye hyr
              by_cases hyq : y ∈ q0 ++ nx
              · have lk := FQ.out.mp.look_yes hyq (by omega)
                have BQ2 := hidH ((BQ.out.have hyn ((BQ.out.mkd y hyn).1 hyq)).weak (dn' := fun z => (z : Int) ∈ (R x).take (k + 1)) (fun z hz => (take_mem HY0.out hz).imp id (fun e => by omega)))
                go_wp2
                go_roundg (r - (k + 1))
                case measure => omega
                case rel => exact ⟨k + 1, _, nx, F, rfl, rfl, rfl, by omega, FQ.out, BQ2.out, EE.out⟩
              · obtain ⟨c, lk⟩ := FQ.out.mp.look_no hyq (by omega)
                have hFy : F y = n := Classical.byContradiction fun h => hyq ((BQ.out.mkd y hyn).2 h)
                obtain ⟨hvn, hqn, bq2⟩ := BQ.out.new (HX.out nx) hyn hFy HYE.out
                have lx := FQ.out.mp.look (x := x) (List.mem_of_getElem? (HX.out nx)) (by omega)
                obtain ⟨wM, hrM, hMM, hgM⟩ := FQ.out.mp.put (x := y) (v := F x + 1) (by omega) (by omega) (by unfold maxLen; omega)
                obtain ⟨v, hv⟩ : ∃ v, F x = v := ⟨_, rfl⟩
                have hrM2 : (Instr.mapUpdate 78 (.map (some B)) (.int .i64 (y : Int)) (.int .i64 ((v : Int) + 1))).run Try.prog wr = .ok () wM := by rw [← hv]; exact hrM
                rw [hv] at lx hvn
                have kv : IntKind.i64.wrap ((v : Int) + 1) = (v : Int) + 1 := by rw [IntWalk.i64_in _ ⟨by omega, by omega⟩]
                have FM := hidH (FQ.out.upd hMM hgM)
                have EM : Hid (Below B w wM) := EE.out.grown hgM (by have := FQ.out.mp.lt; omega) (fun g e => by cases e; exact Nat.le_refl _)
                have BQ2 : Hid (Bq ps n f (fun z => if z = y then F x + 1 else F z) (q0 ++ (nx ++ [y])) (o + i) (fun z => (z : Int) ∈ (R x).take (k + 1))) := by rw [← List.append_assoc]; exact bq2.weak (fun z hz => (take_mem HY0.out hz).imp id (fun e => by omega))
                clear hrM hMM hgM bq2 hFy hv
                obtain ⟨a7, c7, hV7, -, -⟩ := own_slice FQ.out.nx
                subst hV7
                go_upto_region 15 with fail
                obtain ⟨p, hp⟩ : ∃ p, nx.length = p := ⟨_, rfl⟩
                have HP := hidH hp
                have hpn : p ≤ n := by rw [List.length_append, hp] at hfew2; omega
                obtain ⟨zA, eA, hbA, hsA, BA⟩ := bx1 wM #[.int .i64 (y : Int)] 3
                have FA := hidH (FM.out.below hbA)
                have hBM : B ≤ wM.heap.size := Nat.le_of_lt FM.out.mp.lt
                have EA := hidH (EM.out.trans (hbA.mono hBM))
                have NA : Hid (∀ j u, [Value.int .i64 (y : Int)][j]? = some u → zA.cell? ((⟨wM.heap.size, 0, none⟩ : Addr).add j) = some u) := by unfold Hid; rw [← eA]; exact cells_newH wM [Value.int .i64 (y : Int)] 3
                have HEA := hidH eA
                have HSA := hidH hsA
                have hBA : B ≤ zA.heap.size := by omega
                have OA : Hid (zA.ownsRow B 3 1 (.slice a7 p c7) p (flat (qI nx))) := by have h9 := FA.out.nx; rw [HP.out] at h9; exact h9
                rw [hp] at FA ⊢
                clear eA hbA hsA BA hp FM EM FQ lk lx hrM2 cX cD0 cY
                go_wp2_with (at_builtin; rw [HEA.out]; refine wpList_append_lies _ rfl _ _ 24 rfl B 3 i0 (.int .i64 0) 1 8 Try.underlying24 hi0 hz0 hz1 hz2 rfl (by decide) (.slice a7 p c7) p (flat (qI nx)) rfl OA.out ⟨wM.heap.size, 0, none⟩ 1 1 [Value.int .i64 (y : Int)] rfl rfl NA.out (by intro u hu; simp at hu; subst hu; rfl) (by decide) (by unfold maxLen; omega) (by omega) hBA (wM.heap.size + 1) HSA.out ?_; intro gg cp w9 hown9 hgrow9 hat9 hlt9; have F9 := hidH (FA.out.push (V' := .slice (some ⟨gg, 0, none⟩) (p + 1) cp) (y := y) (by rw [HP.out]; exact hown9) hgrow9 (by have h7 := HSA.out; rcases hat9 with e | e; exact .inl e.symm; exact .inr ⟨gg, rfl, by omega⟩)); have E9 := hidH (EA.out.grown hgrow9 hBA (fun g e => (OA.out.lt g e).1)); clear hown9 hgrow9 hat9 hlt9)
                go_roundg (r - (k + 1))
                case measure => omega
                case rel => exact ⟨k + 1, _, nx ++ [y], _, rfl, rfl, rfl, by omega, by rw [← List.append_assoc]; exact F9.out, BQ2.out, E9.out⟩
            · have hkr' : ¬ (k : Int) < (r : Int) := by omega
              have BQ2 : Hid (Bq ps n f F (q0 ++ nx) (o + (i + 1)) (fun _ => False)) := BQ.out.next (HX.out nx) (fun z hz => by rw [List.take_of_length_le (by rw [HR.out]; omega)]; exact ((HM.out x hxn).2 _).2 hz)
              go_wp2
              go_roundg (m - (i + 1))
              case measure => omega
              case rel => exact ⟨i + 1, _, nx, F, rfl, rfl, rfl, by omega, FQ.out, BQ2.out, EE.out⟩
        · have him' : ¬ (i : Int) < (m : Int) := by omega
          have hi2 : i = m := by omega
          have BQ2 : Hid (Bq ps n f F (q0 ++ nx) (o + m) (fun _ => False)) := by have h9 := BQ.out; rw [hi2] at h9; exact h9
          have hfew2 := BQ.out.few
          go_wp2
          go_roundg (n + 1 - (o + m))
          case measure => rw [List.length_append] at hfew2; omega
          case rel => exact ⟨o + m, _, nx, F, q0 ++ nx, rfl, rfl, by rw [List.drop_append_of_le_length (by omega), List.drop_of_length_le (by omega), List.nil_append], by rw [List.length_append]; omega, FQ.out.mp, FQ.out.nx, BQ2.out, EE.out⟩
    · have hm0' : ¬ (0 : Int) < (m : Int) := by omega
      have hoq2 : o = q0.length := by omega
      go_wp2
      go_ret
      exact ⟨by first | exact EE.out | (rw [hB]; exact EE.out), by first | rfl | rw [hB], F, q0, by first | exact MM.out | (rw [hB]; exact MM.out), by have h9 := BQ.out; rw [hoq2] at h9; exact h9⟩
end Go.Proofs.Ytgijcbipnjmhgab

namespace Go.Proofs.Ytgijcbipnjmhgab
open Go.ChangeShapes Go.WideShapes Go.ChangeAt Go.RowKit
set_option linter.unusedVariables false
set_option linter.unusedSimpArgs false

theorem Gn.noc {ps : List Pr} {S : Int → Prop} {os : List Int} (h : Gn S (fun x z => (⟨x, z⟩ : Pr) ∈ ps) os) {x : Nat} (hx : (x : Int) ∈ os) : ¬ OnC ps x := by
  have hin : ∀ u v : Nat, Eg ps u v → (u : Int) ∈ os → (v : Int) ∈ os := fun u v he hu => by
    obtain ⟨i, hi⟩ := List.getElem?_of_mem hu
    obtain ⟨l1, e1⟩ := List.getElem?_eq_some_iff.1 hi
    have hsp : os = os.take i ++ (u : Int) :: os.drop (i + 1) := by rw [← e1, List.getElem_cons_drop, List.take_append_drop]
    exact List.mem_of_mem_take ((h.gd _ _ _ hsp).1.2.2 _ he)
  have key : ∀ u v : Nat, Rch ps u v → (u : Int) ∈ os → ∀ i j : Nat, os[i]? = some (u : Int) → os[j]? = some (v : Int) → j ≤ i := by
    intro u v huv
    induction huv with
    | refl u =>
      intro hu i j hi hj
      have := at_uniq h.nodup hi hj
      omega
    | step e _ ih =>
      intro hu i j hi hj
      rename_i x y z _
      have hy := hin x y e hu
      obtain ⟨k, hk⟩ := List.getElem?_of_mem hy
      have h1 := ih hy k j hk hj
      have h2 := h.before hi hk e
      omega
  rintro ⟨z, he, hr⟩
  have hz := hin x z he hx
  obtain ⟨i, hi⟩ := List.getElem?_of_mem hx
  obtain ⟨k, hk⟩ := List.getElem?_of_mem hz
  have h1 := key z x hr hz k i hk hi
  have h2 := h.before hi hk he
  omega
theorem OnC.next {ps : List Pr} {x : Nat} (h : OnC ps x) : ∃ z, Eg ps x z ∧ OnC ps z := by
  obtain ⟨z, he, hr⟩ := h
  refine ⟨z, he, ?_⟩
  by_cases e : z = x
  · subst e; exact ⟨z, he, hr⟩
  · obtain ⟨u, hu, hru⟩ := hr.first e
    exact ⟨u, hu, hru.trans (.step he (.refl _))⟩
open Classical in
theorem gn_all {ps : List Pr} {n : Nat} {os : List Int} (hr : ∀ p ∈ ps, (0 ≤ p.a ∧ p.a < (n : Int)) ∧ (0 ≤ p.b ∧ p.b < (n : Int))) (h : Gn (fun x => 0 ≤ x ∧ x < (n : Int)) (fun x z => (⟨x, z⟩ : Pr) ∈ ps) os) (hno : ∀ x, ¬ OnC ps x) : ∀ c x : Nat, x < n → cntR ps n x ≤ c → (x : Int) ∈ os := by
  intro c
  induction c using Nat.strongRecOn with
  | ind c ih =>
  intro x hx hc
  apply Classical.byContradiction
  intro hxo
  have h1 := h.no (x : Int)
  have h2 : ∃ z, (⟨(x : Int), z⟩ : Pr) ∈ ps ∧ z ∉ os := by
    apply Classical.byContradiction
    intro h3
    refine h1 ⟨⟨by omega, by omega⟩, hxo, fun z hz => ?_⟩
    apply Classical.byContradiction
    intro h4
    exact h3 ⟨z, hz, h4⟩
  obtain ⟨z0, he, hzo⟩ := h2
  have hr1 := hr _ he
  simp only at hr1
  obtain ⟨z, rfl⟩ : ∃ z : Nat, z0 = (z : Int) := ⟨z0.toNat, by omega⟩
  have hlt : cntR ps n z < cntR ps n x := by
    unfold cntR
    refine filter_lt (fun y hy => ?_) ⟨x, List.mem_range.2 hx, ?_, ?_⟩
    · rw [decide_eq_true_eq] at hy ⊢; exact .step he hy
    · rw [decide_eq_true_eq]; exact .refl _
    · rw [decide_eq_false_iff_not]; exact fun hb => hno x ⟨z, he, hb⟩
  exact hzo (ih (cntR ps n z) (by omega) z (by omega) (Nat.le_refl _))
theorem Lz.lower {B B' bL gC s : Nat} {w : World} {S : Nat → Prop} (h : Lz B bL gC s w S) (hb : B' ≤ B) : Lz B' bL gC s w S :=
  ⟨h.box, by obtain ⟨cs, h1, h2⟩ := h.row; exact ⟨cs, own_lower h1 hb, h2⟩, Nat.le_trans hb h.le, h.s1, h.s2, h.pw⟩
/-- the line-up with what stands in line beside it -/
structure Qv (B bL gC s gm n : Nat) (w : World) (S : Nat → Prop) (ms : List Int) (O : Value) (os : List Int) : Prop where
  q : Qw B bL gC s gm n w S ms
  ou : w.ownsRow B 3 1 O os.length (flat os)
  e1 : O.ownBlock ≠ some gm
  e2 : O.ownBlock ≠ some gC
theorem Qv.below {B bL gC s gm n : Nat} {w w' : World} {S : Nat → Prop} {ms os : List Int} {O : Value} (h : Qv B bL gC s gm n w S ms O os) (hb : Below w.heap.size w w') : Qv B bL gC s gm n w' S ms O os :=
  ⟨h.q.below hb, own_belowR h.ou hb (Nat.le_refl _), h.e1, h.e2⟩
theorem Qv.put {B bL gC s gm n : Nat} {w w' : World} {S S' : Nat → Prop} {ms os : List Int} {O : Value} (h : Qv B bL gC s gm n w S ms O os) (hz : Lz B bL gC s w' S') (ho : One gC w w') : Qv B bL gC s gm n w' S' ms O os :=
  ⟨h.q.put hz ho, own_same h.ou (fun g e => ho.keep g (h.ou.lt g e).2 (fun e2 => h.e2 (by rw [e, e2]))), h.e1, h.e2⟩
theorem Qv.set {B bL gC s gm n : Nat} {w : World} {S : Nat → Prop} {ms os : List Int} {O : Value} (h : Qv B bL gC s gm n w S ms O os) (y : Nat) (v : Int) : Qv B bL gC s gm n (w.setCell ⟨gm, y, none⟩ (.int .i64 v)) S (ms.set y v) O os :=
  ⟨h.q.set y v, ownsRow_setCell_other h.ou (a := ⟨gm, y, none⟩) h.e1 _, h.e1, h.e2⟩
theorem Qv.congr {B bL gC s gm n : Nat} {w : World} {S S' : Nat → Prop} {ms os : List Int} {O : Value} (h : Qv B bL gC s gm n w S ms O os) (hS : ∀ y, S y ↔ S' y) : Qv B bL gC s gm n w S' ms O os :=
  ⟨⟨h.q.lz.congr (fun y _ => hS y), h.q.mi, h.q.d1⟩, h.ou, h.e1, h.e2⟩
theorem Qv.push {B bL gC s gm n : Nat} {w w' : World} {S : Nat → Prop} {ms os : List Int} {O O' : Value} {x : Int} (h : Qv B bL gC s gm n w S ms O os) (ho : w'.ownsRow B 3 1 O' (os.length + 1) (flat os ++ [.int .i64 x])) (hg : w.grownBy w' O.ownBlock) (hn : O'.ownBlock = O.ownBlock ∨ ∃ g, O'.ownBlock = some g ∧ w.heap.size ≤ g) : Qv B bL gC s gm n w' S ms O' (os ++ [x]) := by
  have hbl : O.ownBlock ≠ some bL := fun e => h.q.lz.box.neR h.ou (by decide) e rfl
  obtain ⟨cs, k1, -⟩ := h.q.lz.row
  refine ⟨h.q.grw hg hbl h.e2 h.e1, ?_, ?_, ?_⟩
  · rw [List.length_append, List.length_singleton, flat_append]; exact ho
  · rcases hn with e | ⟨g, e, hg2⟩
    · rw [e]; exact h.e1
    · rw [e]; intro e2; injection e2 with e2; have := (h.q.mi.lt gm rfl).2; omega
  · rcases hn with e | ⟨g, e, hg2⟩
    · rw [e]; exact h.e2
    · rw [e]; intro e2; injection e2 with e2; have := (k1.lt gC rfl).2; omega
/-- what the reference's Order answers -/
def OrG (B n : Nat) (ps : List Pr) (w : World) (v u : Value) (E : Int) : Prop :=
  (E = 0 ∧ u = .slice none 0 0 ∧ ∃ os, Gn (fun x => 0 ≤ x ∧ x < (n : Int)) (fun x z => (⟨x, z⟩ : Pr) ∈ ps) os ∧ os.length = n ∧ w.ownsRow B 3 1 v os.length (flat os)) ∨
  (E = 73 ∧ v = .slice none 0 0 ∧ ∃ (f : Nat) (l : List Int), w.ownsRow B 3 1 u ((f : Int) :: l).length (flat ((f : Int) :: l)) ∧ Fst ps f ∧ Cyc ps f f l)
set_option maxRecDepth 1000000 in
set_option maxHeartbeats 4000000 in
theorem rorder_any (n cap : Nat) (a : Option Addr) (ps : List Pr) (w : World) (hL : LiesA w a ps) (hm : ps.length ≤ 8796093022208) (ht : things (n : Int) ps = true)
    (CY : ∀ (wq : World) (gm : Nat) (ms : List Int), Below w.heap.size w wq → wq.ownsRow w.heap.size 3 1 (.slice (some ⟨gm, 0, none⟩) n n) n (flat ms) → (∀ x, x < n → OnC ps x → ms[x]! ≠ 0) → (∃ x, OnC ps x) → Calls Try.prog 32 #[.int .i64 (n : Int), .slice a ps.length cap, .slice (some ⟨gm, 0, none⟩) n n] wq fun e w' => ∃ v, e = .returned v ∧ Below wq.heap.size wq w' ∧ ∃ (f : Nat) (l : List Int), w'.ownsRow wq.heap.size 3 1 v ((f : Int) :: l).length (flat ((f : Int) :: l)) ∧ Fst ps f ∧ Cyc ps f f l) :
    Calls Try.prog 16 #[.int .i64 (n : Int), .slice a ps.length cap] w fun e w' => ∃ v u E, e = .returned (.tuple #[v, u, .int .i64 E]) ∧ Below w.heap.size w w' ∧ OrG w.heap.size n ps w' v u E := by
  obtain ⟨hn, hps⟩ := things_spec ht
  obtain ⟨i0, hi0, hz0, hz1, hz2⟩ := info_parts infoIntH
  have HL := hidH hL
  have HPS := hidH hps
  have HCY := hidH CY
  have QB : Hid (Calls Try.prog 26 #[.int .i64 (n : Int), .slice a ps.length cap] w fun e w' => e = .returned (.bool false) ∧ w' = w) := by have h9 := rbad_any (n : Int) a cap ps w hL (by omega); rw [ht] at h9; exact h9
  obtain ⟨B, hB⟩ : ∃ B, w.heap.size = B := ⟨_, rfl⟩
  have QR := hidH (rows0R n cap a ps w hL hn hm hps)
  clear hL hps ht CY
  go_enter Try.func16, Try.ntmps16
  go_upto_region 4 with (first
    | (go_at_call 26; (with_reducible refine QB.out.mono ?_); clear QB; rintro e w1 ⟨rfl, hw⟩; have hw2 := hw.symm; clear hw; subst hw2)
    | (go_at_call 28; (with_reducible refine QR.out.mono ?_); clear QR; rintro e w2 ⟨rfl, hb2, hrx⟩; have HB2 := hidH hb2; have RX := hidH hrx; clear hb2 hrx))
  obtain ⟨C, hC⟩ : ∃ C, w2.heap.size = C := ⟨_, rfl⟩
  have hBC : B ≤ C := by have := HB2.out.size; omega
  have HCE := hidH hC
  have HBE := hidH hB
  rw [hC, hB] at RX
  rw [hB] at HB2
  go_upto_region 5 with (at_make; refine wpList_make_full _ rfl _ _ 24 rfl C 3 i0 (.int .i64 0) 1 Try.underlying24 hi0 hz0 hz1 _ _ _ _ n rfl rfl rfl rfl (by rw [hz2]; omega) (by unfold maxLen; omega) (by omega) ?_; intro w3 hown3 hgr3; rw [hC] at hown3 ⊢; have O3 : Hid (w3.ownsRow C 3 1 (.slice (some ⟨C, 0, none⟩) n n) n (flat (List.replicate n (0 : Int)))) := (by rw [show (Value.int .i64 0).cells = #[.int .i64 0] by rfl, rep_made] at hown3; unfold Hid; rw [show flat (List.replicate n (0 : Int)) = List.replicate n (Value.int .i64 0) by rw [flat_ints, List.map_replicate]]; exact hown3); have E3 : Hid (Below C w2 w3) := ((Below.refl _ _).grown hgr3 (by omega) (fun k h => by cases h)); clear hown3 hgr3)
  go_wp2
  go_loopg [9] ps.length (fun gk s9 wr => ∃ (k : Nat) (ms : List Int), gk = ps.length - k ∧ s9 = .int .i64 (k : Int) ∧ k ≤ ps.length ∧ wr.ownsRow C 3 1 (.slice (some ⟨C, 0, none⟩) n n) n (flat ms) ∧ ms.length = n ∧ (∀ y : Nat, y < n → ms[y]! = (cnE (ps.take k) [] (y : Int) : Int)) ∧ Below C w2 wr)
  case atStart => exact ⟨0, _, rfl, rfl, Nat.zero_le _, O3.out, by simp, fun y hy => by rw [getElem!_pos _ _ (by simpa using hy)]; simp [cnE], E3.out⟩
  case round =>
    clear O3 E3
    obtain ⟨k, ms, hgk, rfl, hk, hO, hml, hms, hE⟩ := hrel
    have OM := hidH hO
    have HMS := hidH hms
    have HML := hidH hml
    have EE := hidH hE
    clear hO hms hml hE
    by_cases hkp : k < ps.length
    · have hkp' : (k : Int) < (ps.length : Int) := by omega
      obtain ⟨p, hp⟩ : ∃ p, ps[k]? = some p := ⟨_, List.getElem?_eq_getElem hkp⟩
      obtain ⟨gs, o, hs, hLi⟩ : ∃ b o, a = some ⟨b, o, none⟩ ∧ Lies w b o ps := by
        rcases HL.out with h | h
        · rw [h] at hkp; exact absurd hkp (Nat.not_lt_zero _)
        · exact h
      subst hs
      have HCT := hidH (fun y => cnE_take hp y)
      obtain ⟨pa, pb⟩ := p
      have hrp := HPS.out _ (List.mem_of_getElem? hp)
      simp only at hrp
      obtain ⟨x, rfl⟩ : ∃ x : Nat, pa = (x : Int) := ⟨pa.toNat, by omega⟩
      have hxn : x < n := by omega
      obtain ⟨d0, -⟩ := (hLi.below (by rw [HBE.out]; exact HB2.out.trans (EE.out.mono hBC)) hLi.1).pr hp
      simp only at d0
      have hxl : x < ms.length := by rw [HML.out]; exact hxn
      obtain ⟨v, hv⟩ : ∃ v, ms[x]! = v := ⟨_, rfl⟩
      have hvx : ms[x]? = some v := by rw [List.getElem?_eq_getElem hxl, ← hv, getElem!_pos ms x hxl]
      obtain ⟨cM, fM⟩ := row_cell OM.out hvx
      have hvb : 0 ≤ v ∧ v ≤ (ps.length : Int) := by
        rw [← hv, HMS.out x hxn]
        have := cnE_le (ps.take k) [] (x : Int)
        rw [List.length_take] at this
        omega
      have kk : IntKind.i64.wrap ((k : Int) + 1) = ((k + 1 : Nat) : Int) := by rw [IntWalk.i64_in _ ⟨by omega, by omega⟩]; omega
      have kv : IntKind.i64.wrap (v + 1) = v + 1 := by rw [IntWalk.i64_in _ ⟨by omega, by omega⟩]
      have hx0 : (0 : Int) ≤ (x : Int) := by omega
      have hx1 : (x : Int) < (n : Int) := by omega
      have O2 : Hid ((wr.setCell ⟨C, x, none⟩ (.int .i64 (v + 1))).ownsRow C 3 1 (.slice (some ⟨C, 0, none⟩) n n) n (flat (ms.set x (v + 1)))) := by
        have h1 := (World.ownsRow.stored OM.out x (.int .i64 (v + 1))).1
        rw [flat_setI] at h1
        exact h1
      have E2 := hidH (EE.out.setCell (p := ⟨C, x, none⟩) (Nat.le_refl _) (.int .i64 (v + 1)))
      have M2 : Hid (∀ y : Nat, y < n → (ms.set x (v + 1))[y]! = (cnE (ps.take (k + 1)) [] (y : Int) : Int)) := fun y hy => by
        rw [get_set ms x y _ hxl, HCT.out]
        by_cases e : y = x
        · subst e; rw [if_pos rfl, if_pos rfl, ← hv, HMS.out y hy]; simp
        · rw [if_neg e, if_neg (by simp only; omega), HMS.out y hy]; simp
      clear hp hLi hrp hv hvx
      go_wp2
      go_roundg (ps.length - (k + 1))
      case measure => omega
      case rel => exact ⟨k + 1, _, rfl, rfl, by omega, O2.out, by rw [List.length_set]; exact HML.out, M2.out, E2.out⟩
    · have hkp' : ¬ (k : Int) < (ps.length : Int) := by omega
      have hk2 : k = ps.length := by omega
      have HMF : Hid (∀ y : Nat, y < n → ms[y]! = (cnE ps [] (y : Int) : Int)) := by have h9 := HMS.out; rw [hk2, List.take_length] at h9; exact h9
      obtain ⟨w4, hw4⟩ : ∃ w4, w4 = wr := ⟨wr, rfl⟩
      subst hw4
      have QN := hidH (newLows_any n w4 hn)
      obtain ⟨D, hD⟩ : ∃ D, w4.heap.size = D := ⟨_, rfl⟩
      have hCD : C < D := by have := (OM.out.lt C rfl).2; omega
      rw [hD] at QN
      clear HMS hgk hk hkp hk2
      go_upto_region 10 with (first
        | (go_at_call 29; (with_reducible refine QN.out.mono ?_); clear QN; rintro e w5 ⟨hb5, bL, rfl, s, hns, hz⟩; have E5 := hidH (EE.out.trans (hb5.mono (Nat.le_of_lt hCD))); have Q5 : Hid (Qw C bL D s C n w5 (fun y => y < 0 ∧ ms[y]! = 0) ms) := ⟨(hz.lower (Nat.le_of_lt hCD)).congr (fun y _ => ⟨fun h => h.elim, fun h => absurd h.1 (Nat.not_lt_zero _)⟩), own_belowR OM.out hb5 (by omega), by omega⟩; have hns' := hns; clear hb5 hz))
      go_wp2
      go_loopg [11] n (fun gk si wq => ∃ i : Nat, gk = n - i ∧ si = .int .i64 (i : Int) ∧ i ≤ n ∧ Qw C bL D s C n wq (fun y => y < i ∧ ms[y]! = 0) ms ∧ Below C w2 wq)
      case atStart => exact ⟨0, rfl, rfl, Nat.zero_le _, Q5.out, E5.out⟩
      case round =>
        clear Q5 E5
        obtain ⟨i, hgk, rfl, hi, hQ, hE⟩ := hrel
        have QW := hidH hQ
        have EI := hidH hE
        clear hQ hE
        by_cases hin : i < n
        · have hin' : (i : Int) < (n : Int) := by omega
          have ki : IntKind.i64.wrap ((i : Int) + 1) = ((i + 1 : Nat) : Int) := by rw [IntWalk.i64_in _ ⟨by omega, by omega⟩]; omega
          obtain ⟨cM, -⟩ := QW.out.get hin
          obtain ⟨v, hv⟩ : ∃ v, ms[i]! = v := ⟨_, rfl⟩
          have HV := hidH hv
          rw [hv] at cM
          clear hv
          by_cases hv0 : v = 0
          · subst hv0
            have PT := hidH (put_in C bL D s i _ wr QW.out.lz (by omega) (fun h => absurd h.1 (Nat.lt_irrefl _)))
            go_wp2_with (go_at_call 30; (with_reducible refine PT.out.mono ?_); clear PT; rintro e w6 ⟨⟨r, rfl⟩, hz6, ho6⟩; have Q6 : Hid (Qw C bL D s C n w6 (fun y => y < i + 1 ∧ ms[y]! = 0) ms) := (have q := QW.out.put hz6 ho6; ⟨q.lz.congr (fun y _ => ⟨fun h => h.elim (fun h => ⟨by omega, h.2⟩) (fun h => by subst h; exact ⟨by omega, HV.out⟩), fun h => by by_cases e : y = i; (exact .inr e); (exact .inl ⟨by omega, h.2⟩)⟩), q.mi, q.d1⟩); have E6 := hidH (EI.out.trans (ho6.bel.mono (Nat.le_of_lt hCD))); clear hz6 ho6)
            go_roundg (n - (i + 1))
            case measure => omega
            case rel => exact ⟨i + 1, rfl, rfl, by omega, Q6.out, E6.out⟩
          · have hv1 : (v == 0) = false := by rw [beq_eq_false_iff_ne]; exact hv0
            have Q6 : Hid (Qw C bL D s C n wr (fun y => y < i + 1 ∧ ms[y]! = 0) ms) := ⟨QW.out.lz.congr (fun y _ => ⟨fun h => ⟨by omega, h.2⟩, fun h => ⟨by by_cases e : y = i; (subst e; exact absurd (HV.out.symm.trans h.2) hv0); (omega), h.2⟩⟩), QW.out.mi, QW.out.d1⟩
            go_wp2
            go_roundg (n - (i + 1))
            case measure => omega
            case rel => exact ⟨i + 1, rfl, rfl, by omega, Q6.out, EI.out⟩
        · have hin' : ¬ (i : Int) < (n : Int) := by omega
          have hi2 : i = n := by omega
          subst hi2
          have LR0 : Hid (Lr ps i (fun _ => true) [] (fun y => y < i ∧ ms[y]! = 0) ms []) := (Lr.start QW.out.mlen HMF.out).congr (fun y => ⟨fun h => ⟨h.1, h.2.2⟩, fun h => ⟨h.1, rfl, h.2⟩⟩)
          have QL := hidH (least_any C bL D s _ wr QW.out.lz)
          go_upto_region 17 with (first
            | (go_at_call 31; (with_reducible refine QL.out.mono ?_); clear QL; rintro e w6 ⟨hw6, z, rfl, hle⟩; have hw7 := hw6.symm; clear hw6; subst hw7; have LE := hidH hle; clear hle))
          have Q0 : Hid (Qv C bL D s C i wr (fun y => y < i ∧ ms[y]! = 0) ms (.slice none 0 0) []) := ⟨QW.out, World.ownsRow_nil _ _ _ _, by simp [Value.ownBlock], by simp [Value.ownBlock]⟩
          clear QW HMF
          go_wp2
          go_loopg [12, 13] (i + 1) (fun gk s12 s13 wq => ∃ (S : Nat → Prop) (ms : List Int) (O : Value) (os : List Int) (z : Int), gk = i + 1 - os.length ∧ s12 = O ∧ s13 = .int .i64 z ∧ Qv C bL D s C i wq S ms O os ∧ Lr ps i (fun _ => true) os S ms [] ∧ Lea s S z ∧ Below C w2 wq)
          case atStart => exact ⟨_, ms, _, [], z, rfl, rfl, rfl, Q0.out, LR0.out, LE.out, EI.out⟩
          case round =>
            clear Q0 LR0 LE EI
            obtain ⟨S, ms, O, os, z, hgk3, rfl, rfl, hQ, hLr, hLe, hE⟩ := hrel
            have QV := hidH hQ
            have LR := hidH hLr
            have LE := hidH hLe
            have EI := hidH hE
            obtain ⟨hno, hrg, hosn⟩ := hLr.few
            clear hQ hLr hLe hE
            by_cases hz : 0 ≤ z
            · obtain ⟨x, rfl, hxs, hSx, hmin⟩ : ∃ x : Nat, z = (x : Int) ∧ x < s ∧ S x ∧ ∀ y, y < s → S y → x ≤ y := by
                rcases LE.out with ⟨h, -⟩ | h
                · omega
                · exact h
              have hxi : x < i := ((LR.out.rdy x).1 hSx).1
              have hxi' : (x : Int) < (i : Int) := by omega
              have LP := hidH (LR.out.pop (fun p hp => (HPS.out p hp).1) (fun _ _ => rfl) hSx (fun y hy => hmin y (by have := ((LR.out.rdy y).1 hy).1; omega) hy))
              have PT := hidH (put_out C bL D s x S wr QV.out.q.lz hxs hSx)
              obtain ⟨aO, cO, hO, -, -⟩ := own_slice QV.out.ou
              subst hO
              obtain ⟨q, hq⟩ : ∃ q, os.length = q := ⟨_, rfl⟩
              have HQ := hidH hq
              have hqi : q < i := by
                have h9 := LP.out.few.2.2
                rw [List.length_append, List.length_singleton, hq] at h9
                omega
              rw [hq] at hgk3 QV ⊢
              clear LE hSx hmin hq hno hrg hosn LR
              go_upto_region 20 with (first
                | (go_at_call 30; (with_reducible refine PT.out.mono ?_); clear PT; rintro e w7 ⟨⟨r, rfl⟩, hz7, ho7⟩; have Q7 := hidH (QV.out.put hz7 ho7); have E7 := hidH (EI.out.trans (ho7.bel.mono (Nat.le_of_lt hCD))); clear hz7 ho7 QV))
              obtain ⟨zA, eA, hbA, hsA, BA⟩ := bx1 w7 #[.int .i64 (x : Int)] 3
              have QA := hidH (Q7.out.below hbA)
              have hC7 : C ≤ w7.heap.size := by have := E7.out.size; have := HCE.out; omega
              have EA := hidH (E7.out.trans (hbA.mono hC7))
              have NA : Hid (∀ j u, [Value.int .i64 (x : Int)][j]? = some u → zA.cell? ((⟨w7.heap.size, 0, none⟩ : Addr).add j) = some u) := by unfold Hid; rw [← eA]; exact cells_newH w7 [Value.int .i64 (x : Int)] 3
              have HEA := hidH eA
              have HSA := hidH hsA
              have hBA : C ≤ zA.heap.size := by omega
              have OA : Hid (zA.ownsRow C 3 1 (.slice aO q cO) q (flat os)) := by have h9 := QA.out.ou; rw [HQ.out] at h9; exact h9
              clear eA hbA hsA BA Q7
              go_upto_region 21 with (at_builtin; rw [HEA.out]; refine wpList_append_lies _ rfl _ _ 24 rfl C 3 i0 (.int .i64 0) 1 8 Try.underlying24 hi0 hz0 hz1 hz2 rfl (by decide) (.slice aO q cO) q (flat os) rfl OA.out ⟨w7.heap.size, 0, none⟩ 1 1 [Value.int .i64 (x : Int)] rfl rfl NA.out (by intro u hu; simp at hu; subst hu; rfl) (by decide) (by unfold maxLen; omega) (by omega) hBA (w7.heap.size + 1) HSA.out ?_; intro gg cp w9 hown9 hgrow9 hat9 hlt9; have Q9 := hidH (QA.out.push (O' := .slice (some ⟨gg, 0, none⟩) (q + 1) cp) (x := (x : Int)) (by rw [HQ.out]; exact hown9) hgrow9 (by have h7 := HSA.out; rcases hat9 with e | e; exact .inl e.symm; exact .inr ⟨gg, rfl, by omega⟩)); have E9 := hidH (EA.out.grown hgrow9 hBA (fun g e => (OA.out.lt g e).1)); clear hown9 hgrow9 hat9 hlt9)
              obtain ⟨aD, cD, cX0, hrow⟩ := (RX.out.below E9.out).row x hxi
              obtain ⟨r, hr⟩ : ∃ r, (usr ps (x : Int)).length = r := ⟨_, rfl⟩
              have hrp : r ≤ ps.length := by rw [← hr]; exact usr_len ps _
              have HR := hidH hr
              have RX2 : Hid (∀ wq, Below C w2 wq → wq.cell? ⟨B, x, none⟩ = some (.slice aD r cD) ∧ ∀ (j : Nat) y, (usr ps (x : Int))[j]? = some y → ∃ g, aD = some ⟨g, 0, none⟩ ∧ wq.cell? ⟨g, j, none⟩ = some (.int .i64 y)) := fun wq hq => by
                obtain ⟨a1, c1, h1, h2⟩ := RX.out.row x hxi
                have h3 := (E9.out.cell (p := ⟨B, x, none⟩) RX.out.lt).trans h1
                rw [cX0] at h3
                injection h3 with h3
                injection h3 with e1 e2 e3
                subst e1 e3
                refine ⟨by rw [(hq.cell (p := ⟨B, x, none⟩) RX.out.lt).trans h1, HR.out], fun j y hj => ?_⟩
                obtain ⟨g, e, hg, hc⟩ := h2 (by have := (List.getElem?_eq_some_iff.1 hj).1; omega)
                exact ⟨g, e, (hq.cell (p := ⟨g, j, none⟩) hg).trans (hc j y hj)⟩
              clear QA EA NA HEA HSA OA hrow hr cX0
              go_wp2
              go_loopg [14] r (fun g3 s14 wq => ∃ (j : Nat) (S : Nat → Prop) (ms : List Int), g3 = r - j ∧ s14 = .int .i64 (j : Int) ∧ j ≤ r ∧ Qv C bL D s C i wq S ms (.slice (some ⟨gg, 0, none⟩) (q + 1) cp) (os ++ [(x : Int)]) ∧ Lr ps i (fun _ => true) (os ++ [(x : Int)]) S ms ((usr ps (x : Int)).drop j) ∧ Below C w2 wq)
              case atStart => exact ⟨0, _, ms, rfl, rfl, Nat.zero_le _, Q9.out, LP.out, E9.out⟩
              case round =>
                clear Q9 LP E9
                obtain ⟨j, S, ms, hg3, rfl, hj, hQ, hLr, hE⟩ := hrel
                have QV := hidH hQ
                have LR := hidH hLr
                have EI := hidH hE
                clear hQ hLr hE
                obtain ⟨cX, hcy⟩ := RX2.out wr EI.out
                by_cases hjr : j < r
                · have hjr' : (j : Int) < (r : Int) := by omega
                  have kj : IntKind.i64.wrap ((j : Int) + 1) = ((j + 1 : Nat) : Int) := by rw [IntWalk.i64_in _ ⟨by omega, by omega⟩]; omega
                  obtain ⟨y0, hy0⟩ : ∃ y, (usr ps (x : Int))[j]? = some y := ⟨_, List.getElem?_eq_getElem (by rw [HR.out]; exact hjr)⟩
                  have hye := mem_usr.1 (List.mem_of_getElem? hy0)
                  have hyr := (HPS.out _ hye).1
                  simp only at hyr
                  obtain ⟨y, rfl⟩ : ∃ y : Nat, y0 = (y : Int) := ⟨y0.toNat, by omega⟩
                  have LRy : Hid (Lr ps i (fun _ => true) (os ++ [(x : Int)]) S ms ((y : Int) :: (usr ps (x : Int)).drop (j + 1))) := by
                    have h9 := LR.out
                    obtain ⟨hj9, e9⟩ := List.getElem?_eq_some_iff.1 hy0
                    rw [List.drop_eq_getElem_cons hj9, e9] at h9
                    exact h9
                  obtain ⟨hyi, hy1, hyS, -, -⟩ := LRy.out.pos
                  obtain ⟨g, rfl, cY⟩ := hcy j _ hy0
                  obtain ⟨cM, fM⟩ := QV.out.q.get hyi
                  obtain ⟨v, hv⟩ : ∃ v, ms[y]! = v := ⟨_, rfl⟩
                  have hvb : v ≤ 2 * (ps.length : Int) := by
                    rw [← hv, LR.out.cnt y hyi]
                    have h1 := cnE_le ps (os ++ [(x : Int)]) (y : Int)
                    have h2 : cnP ((usr ps (x : Int)).drop j) (y : Int) ≤ ps.length := by
                      unfold cnP
                      exact Nat.le_trans (List.length_filter_le _ _) (Nat.le_trans (by rw [List.length_drop]; omega) (usr_len ps (x : Int)))
                    omega
                  have LD := hidH LRy.out.dec
                  rw [hv] at cM hy1 LD
                  have kv : IntKind.i64.wrap (v - 1) = v - 1 := by rw [IntWalk.i64_in _ ⟨by omega, by omega⟩]
                  have hyi' : (y : Int) < (i : Int) := by omega
                  have hy0' : (0 : Int) ≤ (y : Int) := by omega
                  have QS := hidH (QV.out.set y (v - 1))
                  have ES : Hid (Below C w2 (wr.setCell ⟨C, y, none⟩ (.int .i64 (v - 1)))) := EI.out.setCell (p := ⟨C, y, none⟩) (Nat.le_refl _) _
                  obtain ⟨cM2, -⟩ := QS.out.q.get hyi
                  rw [get_set ms y y _ (by rw [QV.out.q.mlen]; exact hyi), if_pos rfl] at cM2
                  have HYS := hidH hyS
                  clear hye hyr hy0 hcy hv hyS LR LRy
                  by_cases hv1 : v - 1 = 0
                  · have hv2 : v = 1 := by omega
                    subst hv2
                    have QS1 : Hid (Qv C bL D s C i (wr.setCell ⟨C, y, none⟩ (.int .i64 0)) S (ms.set y 0) (.slice (some ⟨gg, 0, none⟩) (q + 1) cp) (os ++ [(x : Int)])) := QS.out
                    have ES1 : Hid (Below C w2 (wr.setCell ⟨C, y, none⟩ (.int .i64 0))) := ES.out
                    have LD1 : Hid (Lr ps i (fun _ => true) (os ++ [(x : Int)]) (fun z => S z ∨ z = y) (ms.set y 0) ((usr ps (x : Int)).drop (j + 1))) := LD.out.congr (fun z => ⟨fun h => h.imp id (fun h => h.1), fun h => h.imp id (fun h => ⟨h, by omega⟩)⟩)
                    clear QS ES LD
                    go_upto_region 27 with fail
                    obtain ⟨wS, hwS⟩ : ∃ wS, wr.setCell ⟨C, y, none⟩ (.int .i64 0) = wS := ⟨_, rfl⟩
                    rw [hwS] at QS1 ES1 ⊢
                    have PT := hidH (put_in C bL D s y S wS QS1.out.q.lz (by omega) HYS.out)
                    clear hwS cM cM2 cY cX
                    go_wp2_with (go_at_call 30; (with_reducible refine PT.out.mono ?_); clear PT; rintro e w6 ⟨⟨r2, rfl⟩, hz6, ho6⟩; have Q6 := hidH (QS1.out.put hz6 ho6); have E6 := hidH (ES1.out.trans (ho6.bel.mono (Nat.le_of_lt hCD))); clear hz6 ho6)
                    go_roundg (r - (j + 1))
                    case measure => omega
                    case rel => exact ⟨j + 1, _, _, rfl, rfl, by omega, Q6.out, LD1.out, E6.out⟩
                  · have hv3 : ((v - 1) == 0) = false := by rw [beq_eq_false_iff_ne]; exact hv1
                    obtain ⟨u, hu⟩ : ∃ u, v - 1 = u := ⟨_, rfl⟩
                    have kv' : IntKind.i64.wrap (v - 1) = u := by rw [kv]; exact hu
                    rw [hu] at hv1 hv3 QS ES LD cM2
                    clear kv
                    have LD1 := hidH (LD.out.congr (S' := S) (fun z => ⟨fun h => h.elim id (fun h => absurd h.2 hv1), .inl⟩))
                    clear hu LD
                    go_wp2
                    go_roundg (r - (j + 1))
                    case measure => omega
                    case rel => exact ⟨j + 1, S, _, rfl, rfl, by omega, QS.out, LD1.out, ES.out⟩
                · have hjr' : ¬ (j : Int) < (r : Int) := by omega
                  have LR2 : Hid (Lr ps i (fun _ => true) (os ++ [(x : Int)]) S ms []) := by have h9 := LR.out; rw [List.drop_eq_nil_of_le (by rw [HR.out]; omega)] at h9; exact h9
                  have QL := hidH (least_any C bL D s S wr QV.out.q.lz)
                  clear hcy
                  go_wp2_with (first
                    | (go_at_call 31; (with_reducible refine QL.out.mono ?_); clear QL; rintro e w6 ⟨hw6, z, rfl, hle⟩; have hw7 := hw6.symm; clear hw6; subst hw7; have LE := hidH hle; clear hle))
                  go_roundg (i + 1 - (q + 1))
                  case measure => omega
                  case rel => exact ⟨S, ms, _, os ++ [(x : Int)], z, by rw [List.length_append, List.length_singleton, HQ.out], rfl, rfl, QV.out, LR2.out, LE.out, EI.out⟩
            · have hz' : ¬ (0 : Int) ≤ z := by omega
              have hS : ∀ y, ¬ S y := by
                rcases LE.out with ⟨-, h⟩ | ⟨x, rfl, -⟩
                · exact fun y hy => h y (by have := ((LR.out.rdy y).1 hy).1; omega) hy
                · omega
              have GN : Hid (Gn (fun x => 0 ≤ x ∧ x < (i : Int)) (fun x z => (⟨x, z⟩ : Pr) ∈ ps) os) := (LR.out.stop hS).congr (fun x => ⟨fun h => h.1, fun h => ⟨h, rfl⟩⟩) (fun x _ z => Iff.rfl)
              have HBI : Hid (Below B w wr) := HB2.out.trans (EI.out.mono hBC)
              obtain ⟨aO, cO, hO, -, -⟩ := own_slice QV.out.ou
              subst hO
              by_cases hfull : os.length = i
              · have OO : Hid (wr.ownsRow C 3 1 (.slice aO i cO) i (flat os)) := by have h9 := QV.out.ou; rw [hfull] at h9; exact h9
                have HFU := hidH hfull
                rw [hfull]
                clear hfull LE LR QV hS
                go_wp2
                go_ret3
                exact ⟨_, _, _, rfl, by first | exact HBI.out | (rw [hB]; exact HBI.out), .inl ⟨rfl, rfl, os, GN.out, HFU.out, by rw [HFU.out]; first | exact own_lower OO.out hBC | (rw [hB]; exact own_lower OO.out hBC)⟩⟩
              · have hex : ∃ x, OnC ps x := by
                  apply Classical.byContradiction
                  intro h
                  exact hfull ((full_iff hno hrg).2 fun x hx => gn_all HPS.out GN.out (fun x hx => h ⟨x, hx⟩) _ x hx (Nat.le_refl _))
                have hleft : ∀ x, x < i → OnC ps x → ms[x]! ≠ 0 := fun x hx hc h0 => by
                  obtain ⟨z, he, hcz⟩ := hc.next
                  exact GN.out.noc ((LR.out.left hx).1 h0 _ he) hcz
                have CY := hidH (HCY.out wr C ms (by rw [hB]; exact HBI.out) (by rw [hB]; exact own_lower QV.out.q.mi hBC) hleft hex)
                obtain ⟨q, hq⟩ : ∃ q, os.length = q := ⟨_, rfl⟩
                rw [hq] at hfull hosn ⊢
                have hq1 : ((q : Int) == (i : Int)) = false := by rw [beq_eq_false_iff_ne]; omega
                have hq2 : ¬ (q : Int) = (i : Int) := by omega
                have hBw : B ≤ wr.heap.size := by have := HBI.out.size; omega
                clear hq LE LR QV hS hleft hex
                go_wp2_with (go_at_call 32; (with_reducible refine CY.out.mono ?_); clear CY; rintro e w5 ⟨v, rfl, hb6, f, l, ho6, hF, hC⟩; have HB6 := hidH (HBI.out.trans (hb6.mono hBw)); have O6 := hidH (own_lower ho6 hBw); have HF := hidH hF; have HC := hidH hC; clear hb6 ho6 hF hC)
                go_ret3
                exact ⟨_, _, _, rfl, by first | exact HB6.out | (rw [hB]; exact HB6.out), .inr ⟨rfl, rfl, f, l, by first | exact O6.out | (rw [hB]; exact O6.out), HF.out, HC.out⟩⟩
end Go.Proofs.Ytgijcbipnjmhgab

namespace Go.Proofs.Ytgijcbipnjmhgab
open Go.ChangeShapes Go.WideShapes Go.ChangeAt Go.RowKit
set_option linter.unusedVariables false
set_option linter.unusedSimpArgs false

/-- the nearest of what x needs are k away -/
def Mnd (ps : List Pr) (f x k : Nat) : Prop := (∃ z, Eg ps x z ∧ Ds ps f z k) ∧ ∀ z e, Eg ps x z → Ds ps f z e → k ≤ e
theorem Mnd.fin {ps : List Pr} {f x : Nat} (h : Mnd ps f x 0) : Nst ps f x f := by
  obtain ⟨⟨z, he, hd⟩, -⟩ := h
  have := hd.zero
  subst this
  exact ⟨he, 0, hd, fun u e hu hd2 => ⟨Nat.zero_le _, fun e0 => by subst e0; rw [hd2.zero]; exact Nat.le_refl _⟩⟩
theorem Mnd.step {ps : List Pr} {f x k y : Nat} (h : Mnd ps f x (k + 1)) (he : Eg ps x y) (hd : Ds ps f y (k + 1)) (hm : ∀ z, Eg ps x z → Ds ps f z (k + 1) → y ≤ z) : Nst ps f x y ∧ y ≠ f ∧ Mnd ps f y k := by
  refine ⟨⟨he, k + 1, hd, fun z e hz hdz => ⟨h.2 z e hz hdz, fun e2 => hm z hz (by rw [← e2]; exact hdz)⟩⟩, fun e => ?_, hd.next, fun z e hz hdz => ?_⟩
  · subst e
    have := hd.uniq (Ds.self ps y)
    omega
  · have := hd.2 _ (.cons hz hdz.1)
    omega
/-- the least of those that are k away, among the first i -/
def Lo6 (F : Nat → Nat) (k : Nat) (l : List Int) (i : Nat) (low : Int) : Prop := (low = -1 ∧ ∀ y : Nat, (y : Int) ∈ l.take i → F y ≠ k) ∨ ∃ y : Nat, low = (y : Int) ∧ (y : Int) ∈ l.take i ∧ F y = k ∧ ∀ z : Nat, (z : Int) ∈ l.take i → F z = k → y ≤ z
theorem Lo6.skip {F : Nat → Nat} {k i x : Nat} {l : List Int} {low : Int} (h : Lo6 F k l i low) (hx : l[i]? = some (x : Int)) (hs : F x ≠ k ∨ (0 ≤ low ∧ low ≤ (x : Int))) : Lo6 F k l (i + 1) low := by
  obtain ⟨hk, ek⟩ := List.getElem?_eq_some_iff.1 hx
  have hmem : ∀ z : Int, z ∈ l.take (i + 1) ↔ z ∈ l.take i ∨ z = (x : Int) := fun z => by rw [List.take_succ_eq_append_getElem hk, List.mem_append, List.mem_singleton, ek]
  rcases h with ⟨rfl, h2⟩ | ⟨y, rfl, h2, h3, h4⟩
  · refine .inl ⟨rfl, fun y hy => ?_⟩
    rcases (hmem _).1 hy with hy | hy
    · exact h2 y hy
    · have : y = x := by omega
      subst this
      rcases hs with hs | hs
      · exact hs
      · omega
  · refine .inr ⟨y, rfl, (hmem _).2 (.inl h2), h3, fun z hz hzk => ?_⟩
    rcases (hmem _).1 hz with hz | hz
    · exact h4 z hz hzk
    · have : z = x := by omega
      subst this
      rcases hs with hs | hs
      · exact absurd hzk hs
      · omega
theorem Lo6.take {F : Nat → Nat} {k i x : Nat} {l : List Int} {low : Int} (h : Lo6 F k l i low) (hx : l[i]? = some (x : Int)) (hF : F x = k) (hs : low < 0 ∨ (x : Int) < low) : Lo6 F k l (i + 1) (x : Int) := by
  obtain ⟨hk, ek⟩ := List.getElem?_eq_some_iff.1 hx
  have hmem : ∀ z : Int, z ∈ l.take (i + 1) ↔ z ∈ l.take i ∨ z = (x : Int) := fun z => by rw [List.take_succ_eq_append_getElem hk, List.mem_append, List.mem_singleton, ek]
  refine .inr ⟨x, rfl, (hmem _).2 (.inr rfl), hF, fun z hz hzk => ?_⟩
  rcases (hmem _).1 hz with hz | hz
  · rcases h with ⟨rfl, h2⟩ | ⟨y, rfl, h2, h3, h4⟩
    · exact absurd hzk (h2 z hz)
    · have := h4 z hz hzk
      omega
  · omega
set_option maxRecDepth 1000000 in
set_option maxHeartbeats 4000000 in
theorem rback_any (f n gV b best : Nat) (F : Nat → Nat) (q : List Nat) (ps : List Pr) (w : World) (hR : Rx6 w.heap.size w gV n (nd ps)) (hM : Mq w b F q) (hQ : Bq ps n f F q q.length (fun _ => False)) (hps : ∀ p ∈ ps, (0 ≤ p.a ∧ p.a < (n : Int)) ∧ (0 ≤ p.b ∧ p.b < (n : Int))) (hf : f < n) (hn : n ≤ 131072) (hm : ps.length ≤ 8796093022208) (hb : Mnd ps f f best) (hbn : best < n) :
    Calls Try.prog 53 #[.int .i64 (f : Int), .int .i64 (best : Int), .slice (some ⟨gV, 0, none⟩) n n, .map (some b)] w fun e w' => ∃ v, e = .returned v ∧ Below w.heap.size w w' ∧ ∃ l, w'.ownsRow w.heap.size 3 1 v ((f : Int) :: l).length (flat ((f : Int) :: l)) ∧ Cyc ps f f l := by
  obtain ⟨i0, hi0, hz0, hz1, hz2⟩ := info_parts infoIntH
  have hFr := hQ.done
  have HFR := hidH hFr
  have HMD := hidH hb
  have HMP := hidH hM
  have HPS := hidH hps
  have HRX := hidH hR
  have HBQ := hidH hQ
  obtain ⟨B, hB⟩ : ∃ B, w.heap.size = B := ⟨_, rfl⟩
  have HBE := hidH hB
  rw [hB] at HRX
  have hbB : b < B := by have := hM.lt; omega
  clear hR hM hQ hps hb hFr
  go_enter Try.func53, Try.ntmps53
  go_upto_region 2 with fail
  obtain ⟨w2, e2, hb2, hs2, X2⟩ := bx1 w #[.int .i64 (f : Int)] 3
  have O2 : Hid (w2.ownsRow B 3 1 (.slice (some ⟨B, 0, none⟩) 1 1) ([(f : Int)]).length (flat [(f : Int)])) := by
    have h1 := own_one B w (.int .i64 (f : Int)) 3 (by omega)
    rw [e2, hB] at h1
    exact h1
  have E2 : Hid (Below B w w2) := by rw [hB] at hb2; exact hb2
  rw [e2]
  clear e2 hb2 hs2 X2
  go_wp2
  go_loopg [9, 10, 11] best (fun gk s9 s10 s11 wr => ∃ (k at' : Nat) (cs : List Int) (V : Value), gk = k ∧ s9 = V ∧ s10 = .int .i64 (at' : Int) ∧ s11 = .int .i64 (k : Int) ∧ at' < n ∧ k < n ∧ cs.length + k = best ∧ wr.ownsRow B 3 1 V ((f : Int) :: cs).length (flat ((f : Int) :: cs)) ∧ Mnd ps f at' k ∧ (∀ l, Cyc ps f at' l → Cyc ps f f (cs ++ l)) ∧ Below B w wr)
  case atStart => exact ⟨best, f, [], _, rfl, rfl, rfl, rfl, hf, hbn, by simp, O2.out, HMD.out, fun l hl => hl, E2.out⟩
  case round =>
    clear O2 E2 HMD
    obtain ⟨k, at', cs, V, hgk, rfl, rfl, rfl, hat, hkn, hck, hO, hMd, hCy, hE⟩ := hrel
    have OO := hidH hO
    have MD := hidH hMd
    have CY := hidH hCy
    have EE := hidH hE
    clear hO hMd hCy hE
    by_cases hk0 : 0 < k
    · obtain ⟨k1, hk1⟩ : ∃ k1, k = k1 + 1 := ⟨k - 1, by omega⟩
      have HK1 := hidH hk1
      have kd : IntKind.i64.wrap ((k : Int) - 1) = (k1 : Int) := by rw [IntWalk.i64_in _ ⟨by omega, by omega⟩]; omega
      have hk0' : (0 : Int) < (k : Int) := by omega
      have hat' : (at' : Int) < (n : Int) := by omega
      obtain ⟨aD, cD, cD1, hrow⟩ := HRX.out.row at' hat
      obtain ⟨r, hr⟩ : ∃ r, (nd ps at').length = r := ⟨_, rfl⟩
      have hrp : r ≤ ps.length := by rw [← hr]; exact nd_len ps at'
      rw [hr] at cD1
      have HR := hidH hr
      have HROW := hidH hrow
      have cA0 := (EE.out.cell (p := ⟨gV, at', none⟩) HRX.out.lt).trans cD1
      have MP := hidH (HMP.out.block (EE.out.block b hbB))
      clear hrow hr cD1 hk1
      go_upto_region 8 with fail
      go_loopg [12, 13] r (fun g3 s12 s13 wq => ∃ (i : Nat) (low : Int), g3 = r - i ∧ s12 = .int .i64 low ∧ s13 = .int .i64 (i : Int) ∧ i ≤ r ∧ (-1 ≤ low ∧ low < (n : Int)) ∧ Lo6 F k (nd ps at') i low ∧ wq = wr)
      case atStart => exact ⟨0, -1, rfl, rfl, rfl, Nat.zero_le _, ⟨by omega, by omega⟩, .inl ⟨rfl, fun y hy => by simp at hy⟩, rfl⟩
      case round =>
        obtain ⟨i, low, hg3, rfl, rfl, hir, hlw, hLo, hw⟩ := hrel
        have hw2 := hw.symm
        subst hw2
        have LO := hidH hLo
        clear hLo hw
        by_cases hi : i < r
        · have hi' : (i : Int) < (r : Int) := by omega
          have ki : IntKind.i64.wrap ((i : Int) + 1) = ((i + 1 : Nat) : Int) := by rw [IntWalk.i64_in _ ⟨by omega, by omega⟩]; omega
          obtain ⟨y0, hy0⟩ : ∃ y, (nd ps at')[i]? = some y := ⟨_, List.getElem?_eq_getElem (by rw [HR.out]; exact hi)⟩
          have hyr := (HPS.out _ (mem_nd.1 (List.mem_of_getElem? hy0))).2
          simp only at hyr
          obtain ⟨y, rfl⟩ : ∃ y : Nat, y0 = (y : Int) := ⟨y0.toNat, by omega⟩
          have hyn : y < n := by omega
          obtain ⟨g, rfl, hg, hcl⟩ := HROW.out (by rw [HR.out]; omega)
          have cY := (EE.out.cell (p := ⟨g, i, none⟩) hg).trans (hcl i _ hy0)
          have HY0 := hidH hy0
          clear hcl hy0
          by_cases hyq : y ∈ q
          · have lk := MP.out.look_yes hyq (by omega)
            obtain ⟨v, hv⟩ : ∃ v, F y = v := ⟨_, rfl⟩
            have hvn : v ≤ n := by rw [← hv]; exact HBQ.out.done.le y hyn
            rw [hv] at lk
            have HV := hidH hv
            clear hv
            by_cases hvk : v = k
            · have hvk' : (v : Int) = (k : Int) := by omega
              have hFk : Hid (F y = k) := by have := HV.out; exact this.trans hvk
              clear hvk
              by_cases hl0 : low < 0
              · have LO2 := hidH (LO.out.take HY0.out hFk.out (.inl hl0))
                go_wp2
                go_roundg (r - (i + 1))
                case measure => omega
                case rel => exact ⟨i + 1, _, rfl, rfl, rfl, by omega, ⟨by omega, by omega⟩, LO2.out, rfl⟩
              · by_cases hl1 : (y : Int) < low
                · have LO2 := hidH (LO.out.take HY0.out hFk.out (.inr hl1))
                  go_wp2
                  go_roundg (r - (i + 1))
                  case measure => omega
                  case rel => exact ⟨i + 1, _, rfl, rfl, rfl, by omega, ⟨by omega, by omega⟩, LO2.out, rfl⟩
                · have LO2 := hidH (LO.out.skip HY0.out (.inr ⟨by omega, by omega⟩))
                  go_wp2
                  go_roundg (r - (i + 1))
                  case measure => omega
                  case rel => exact ⟨i + 1, _, rfl, rfl, rfl, by omega, hlw, LO2.out, rfl⟩
            · have hvk' : ¬ (v : Int) = (k : Int) := by omega
              have LO2 := hidH (LO.out.skip HY0.out (.inl (fun e => hvk (HV.out.symm.trans e))))
              go_wp2
              go_roundg (r - (i + 1))
              case measure => omega
              case rel => exact ⟨i + 1, _, rfl, rfl, rfl, by omega, hlw, LO2.out, rfl⟩
          · obtain ⟨c, lk⟩ := MP.out.look_no hyq (by omega)
            have hFy : F y = n := Classical.byContradiction fun h => hyq ((HBQ.out.mkd y hyn).2 h)
            have LO2 := hidH (LO.out.skip HY0.out (.inl (by omega)))
            clear hFy
            go_wp2
            go_roundg (r - (i + 1))
            case measure => omega
            case rel => exact ⟨i + 1, _, rfl, rfl, rfl, by omega, hlw, LO2.out, rfl⟩
        · have hi' : ¬ (i : Int) < (r : Int) := by omega
          have hir2 : i = r := by omega
          have FD : ∀ z, Ds ps f z k → F z = k := fun z hz => by
            have h1 := HFR.out.wy z k hz.1
            have h2 := HFR.out.ds z h1.1 (by omega)
            exact h2.uniq hz
          have hall : (nd ps at').take i = nd ps at' := List.take_of_length_le (by rw [HR.out]; omega)
          obtain ⟨y, hly, hyn, hNst, hyf, hMy⟩ : ∃ y : Nat, low = (y : Int) ∧ y < n ∧ Nst ps f at' y ∧ y ≠ f ∧ Mnd ps f y k1 := by
            have h9 := LO.out
            unfold Lo6 at h9
            rw [hall] at h9
            obtain ⟨z, hez, hdz⟩ := MD.out.1
            rcases h9 with ⟨-, h2⟩ | ⟨y, h1, h2, h3, h4⟩
            · exact absurd (FD z hdz) (h2 z (mem_nd.2 hez))
            · have hyr := (HPS.out _ (mem_nd.1 h2)).2
              simp only at hyr
              have hyn : y < n := by omega
              have hdy : Ds ps f y k := by
                have h5 := HFR.out.ds y hyn (by omega)
                rw [h3] at h5
                exact h5
              have hmd := MD.out
              have hk1 := HK1.out
              rw [hk1] at hmd hdy
              obtain ⟨a1, a2, a3⟩ := hmd.step (mem_nd.1 h2) hdy (fun z hz hdz => h4 z (mem_nd.2 hz) (FD z (by rw [hk1]; exact hdz)))
              exact ⟨y, h1, hyn, a1, a2, a3⟩
          subst hly
          have CY2 : Hid (∀ l, Cyc ps f y l → Cyc ps f f ((cs ++ [(y : Int)]) ++ l)) := fun l hl => by
            have h9 := CY.out _ (Cyc.more hNst hyf hl)
            rw [List.append_assoc]
            exact h9
          have MY := hidH hMy
          have hk9 := HK1.out
          have HK9 := hidH hk9
          clear FD hall hNst hMy hir2 hk9
          obtain ⟨p, hp⟩ : ∃ p, ((f : Int) :: cs).length = p := ⟨_, rfl⟩
          have HP := hidH hp
          have hpn : p ≤ n := by rw [List.length_cons] at hp; omega
          obtain ⟨a7, c7, hV7, -, -⟩ := own_slice OO.out
          subst hV7
          have OP : Hid (wr.ownsRow B 3 1 (.slice a7 p c7) p (flat ((f : Int) :: cs))) := by have h9 := OO.out; rw [HP.out] at h9; exact h9
          rw [hp]
          clear hp
          go_upto_region 14 with fail
          obtain ⟨zA, eA, hbA, hsA, BA⟩ := bx1 wr #[.int .i64 (y : Int)] 3
          have hBr : B ≤ wr.heap.size := by have := EE.out.size; have := HBE.out; omega
          have OA := hidH (own_belowR OP.out hbA (Nat.le_refl _))
          have EA := hidH (EE.out.trans (hbA.mono hBr))
          have NA : Hid (∀ j u, [Value.int .i64 (y : Int)][j]? = some u → zA.cell? ((⟨wr.heap.size, 0, none⟩ : Addr).add j) = some u) := by unfold Hid; rw [← eA]; exact cells_newH wr [Value.int .i64 (y : Int)] 3
          have HEA := hidH eA
          have HSA := hidH hsA
          have hBA : B ≤ zA.heap.size := by omega
          clear eA hbA hsA BA OP cA0
          go_wp2_with (at_builtin; rw [HEA.out]; refine wpList_append_lies _ rfl _ _ 24 rfl B 3 i0 (.int .i64 0) 1 8 Try.underlying24 hi0 hz0 hz1 hz2 rfl (by decide) (.slice a7 p c7) p (flat ((f : Int) :: cs)) rfl OA.out ⟨wr.heap.size, 0, none⟩ 1 1 [Value.int .i64 (y : Int)] rfl rfl NA.out (by intro u hu; simp at hu; subst hu; rfl) (by decide) (by unfold maxLen; omega) (by omega) hBA (wr.heap.size + 1) HSA.out ?_; intro gg cp w9 hown9 hgrow9 hat9 hlt9; have O9 := hidH hown9; have E9 := hidH (EA.out.grown hgrow9 hBA (fun g e => (OA.out.lt g e).1)); clear hown9 hgrow9 hat9 hlt9)
          go_roundg k1
          case measure => have := HK9.out; omega
          case rel => exact ⟨k1, y, cs ++ [(y : Int)], _, rfl, rfl, rfl, rfl, hyn, by have := HK9.out; omega, by have := HK9.out; rw [List.length_append, List.length_singleton]; omega, by have h9 := O9.out; rw [← List.cons_append, flat_append, List.length_append, List.length_singleton, HP.out]; exact h9, MY.out, CY2.out, E9.out⟩
    · have hk1 : k = 0 := by omega
      subst hk1
      have C0 := hidH (CY.out [] (.fin MD.out.fin))
      go_wp2
      go_ret
      exact ⟨_, rfl, by first | exact EE.out | (rw [hB]; exact EE.out), cs, by first | exact OO.out | (rw [hB]; exact OO.out), by have h9 := C0.out; rw [List.append_nil] at h9; exact h9⟩
end Go.Proofs.Ytgijcbipnjmhgab

namespace Go.Proofs.Ytgijcbipnjmhgab
open Go.ChangeShapes Go.WideShapes Go.ChangeAt Go.RowKit
set_option linter.unusedVariables false
set_option linter.unusedSimpArgs false

/-- the nearest that is known among the first i -/
def Mi6 (F : Nat → Nat) (q : List Nat) (l : List Int) (i : Nat) (best : Int) : Prop := (best = -1 ∧ ∀ y : Nat, (y : Int) ∈ l.take i → y ∉ q) ∨ ∃ y : Nat, best = (F y : Int) ∧ (y : Int) ∈ l.take i ∧ y ∈ q ∧ ∀ z : Nat, (z : Int) ∈ l.take i → z ∈ q → F y ≤ F z
theorem Mi6.skip {F : Nat → Nat} {q : List Nat} {i x : Nat} {l : List Int} {best : Int} (h : Mi6 F q l i best) (hx : l[i]? = some (x : Int)) (hs : x ∉ q ∨ (0 ≤ best ∧ best ≤ (F x : Int))) : Mi6 F q l (i + 1) best := by
  obtain ⟨hk, ek⟩ := List.getElem?_eq_some_iff.1 hx
  have hmem : ∀ z : Int, z ∈ l.take (i + 1) ↔ z ∈ l.take i ∨ z = (x : Int) := fun z => by rw [List.take_succ_eq_append_getElem hk, List.mem_append, List.mem_singleton, ek]
  rcases h with ⟨rfl, h2⟩ | ⟨y, rfl, h2, h3, h4⟩
  · refine .inl ⟨rfl, fun y hy => ?_⟩
    rcases (hmem _).1 hy with hy | hy
    · exact h2 y hy
    · have : y = x := by omega
      subst this
      rcases hs with hs | hs
      · exact hs
      · omega
  · refine .inr ⟨y, rfl, (hmem _).2 (.inl h2), h3, fun z hz hzk => ?_⟩
    rcases (hmem _).1 hz with hz | hz
    · exact h4 z hz hzk
    · have : z = x := by omega
      subst this
      rcases hs with hs | hs
      · exact absurd hzk hs
      · omega
theorem Mi6.take {F : Nat → Nat} {q : List Nat} {i x : Nat} {l : List Int} {best : Int} (h : Mi6 F q l i best) (hx : l[i]? = some (x : Int)) (hF : x ∈ q) (hs : best < 0 ∨ (F x : Int) < best) : Mi6 F q l (i + 1) (F x : Int) := by
  obtain ⟨hk, ek⟩ := List.getElem?_eq_some_iff.1 hx
  have hmem : ∀ z : Int, z ∈ l.take (i + 1) ↔ z ∈ l.take i ∨ z = (x : Int) := fun z => by rw [List.take_succ_eq_append_getElem hk, List.mem_append, List.mem_singleton, ek]
  refine .inr ⟨x, rfl, (hmem _).2 (.inr rfl), hF, fun z hz hzk => ?_⟩
  rcases (hmem _).1 hz with hz | hz
  · rcases h with ⟨rfl, h2⟩ | ⟨y, rfl, h2, h3, h4⟩
    · exact absurd hzk (h2 z hz)
    · have := h4 z hz hzk
      omega
  · have : z = x := by omega
    subst this
    exact Nat.le_refl _
/-- what the search tells of x -/
theorem Mi6.done {ps : List Pr} {n x : Nat} {F : Nat → Nat} {q : List Nat} {i : Nat} {best : Int} (hps : ∀ p ∈ ps, (0 ≤ p.a ∧ p.a < (n : Int)) ∧ (0 ≤ p.b ∧ p.b < (n : Int))) (hQ : Bq ps n x F q q.length (fun _ => False)) (hi : (nd ps x).length ≤ i) (h : Mi6 F q (nd ps x) i best) : (best = -1 ∧ ¬ OnC ps x) ∨ ∃ b : Nat, best = (b : Int) ∧ b < n ∧ Mnd ps x x b ∧ OnC ps x := by
  have hF := hQ.done
  unfold Mi6 at h
  rw [List.take_of_length_le hi] at h
  have hwq : ∀ z k, Wy ps x k z → z < n ∧ z ∈ q := fun z k hk => by
    have h1 := hF.wy z k hk
    exact ⟨h1.1, (hQ.mkd z h1.1).2 (by omega)⟩
  rcases h with ⟨h1, h2⟩ | ⟨y, h1, h2, h3, h4⟩
  · refine .inl ⟨h1, fun ⟨z, he, hr⟩ => ?_⟩
    obtain ⟨k, hk⟩ := hr.wy
    exact h2 z (mem_nd.2 he) (hwq z k hk).2
  · have hyn := hQ.rng y h3
    have hne := (hQ.mkd y hyn).1 h3
    have hle := hF.le y hyn
    have hd := hF.ds y hyn hne
    refine .inr ⟨F y, h1, by omega, ⟨⟨y, mem_nd.1 h2, hd⟩, fun z e hz hdz => ?_⟩, ⟨y, mem_nd.1 h2, hd.1.rch⟩⟩
    have h5 := hwq z e hdz.1
    have h6 := hF.ds z h5.1 ((hQ.mkd z h5.1).1 h5.2)
    have h7 := h4 z (mem_nd.2 hz) h5.2
    have h8 := h6.uniq hdz
    omega
set_option maxRecDepth 1000000 in
set_option maxHeartbeats 4000000 in
theorem rcycle_any (n cap gm B0 : Nat) (a : Option Addr) (ps : List Pr) (ms : List Int) (w : World) (hL : LiesA w a ps) (hn : n ≤ 131072) (hm : ps.length ≤ 8796093022208) (hps : ∀ p ∈ ps, (0 ≤ p.a ∧ p.a < (n : Int)) ∧ (0 ≤ p.b ∧ p.b < (n : Int))) (hO : w.ownsRow B0 3 1 (.slice (some ⟨gm, 0, none⟩) n n) n (flat ms)) (hleft : ∀ x, x < n → OnC ps x → ms[x]! ≠ 0) (hex : ∃ x, OnC ps x) :
    Calls Try.prog 32 #[.int .i64 (n : Int), .slice a ps.length cap, .slice (some ⟨gm, 0, none⟩) n n] w fun e w' => ∃ v, e = .returned v ∧ Below w.heap.size w w' ∧ ∃ (f : Nat) (l : List Int), w'.ownsRow w.heap.size 3 1 v ((f : Int) :: l).length (flat ((f : Int) :: l)) ∧ Fst ps f ∧ Cyc ps f f l := by
  obtain ⟨i0, hi0, hz0, hz1, hz2⟩ := info_parts infoIntH
  have hml : ms.length = n := by have h9 := hO.1; rw [flat_ints, List.length_map] at h9; omega
  have HML := hidH hml
  have HL := hidH hL
  have HPS := hidH hps
  have HO := hidH hO
  have HLE := hidH hleft
  have HEX := hidH hex
  have QR1 := hidH (rows1R n cap a ps w hL hn hm hps)
  obtain ⟨B, hB⟩ : ∃ B, w.heap.size = B := ⟨_, rfl⟩
  have HBE := hidH hB
  clear hL hps hO hleft hex hml
  go_enter Try.func32, Try.ntmps32
  go_upto_region 2 with (go_at_call 28; (with_reducible refine QR1.out.mono ?_); clear QR1; rintro e w1 ⟨rfl, hb1, hrx1⟩; have HB1 := hidH hb1; have RX1 := hidH hrx1; clear hb1 hrx1)
  have QR0 := hidH (rows0R n cap a ps w1 (HL.out.below HB1.out) hn hm HPS.out)
  rw [hB] at HB1 RX1
  go_upto_region 4 with (go_at_call 28; (with_reducible refine QR0.out.mono ?_); clear QR0; rintro e w2 ⟨rfl, hb2, hrx2⟩; have HB2 := hidH hb2; have RX2 := hidH hrx2; clear hb2 hrx2)
  obtain ⟨C, hC⟩ : ∃ C, w1.heap.size = C := ⟨_, rfl⟩
  obtain ⟨D, hD⟩ : ∃ D, w2.heap.size = D := ⟨_, rfl⟩
  have hBC : B ≤ C := by have := HB1.out.size; omega
  have hCD : C ≤ D := by have := HB2.out.size; omega
  have NX : Hid (Rx6 D w2 B n (nd ps)) := by rw [← hD]; exact (RX1.out.below HB2.out).up (by omega)
  have UX : Hid (Rx6 D w2 C n (fun x => usr ps (x : Int))) := by have h9 := RX2.out; rw [hD, hC] at h9; exact h9
  have E2 : Hid (Below B w w2) := HB1.out.trans (HB2.out.mono (by omega))
  have HDE := hidH hD
  rw [hC]
  clear RX1 RX2 HB1 HB2 hC hD
  go_loopg [9] n (fun gk s9 wr => ∃ (x : Nat), gk = n - x ∧ s9 = .int .i64 (x : Int) ∧ x ≤ n ∧ (∀ y, y < x → ¬ OnC ps y) ∧ Below D w2 wr)
  case atStart => exact ⟨0, rfl, rfl, Nat.zero_le _, fun y hy => by omega, Below.refl _ _⟩
  case round =>
    obtain ⟨x, hgk, rfl, hxn, hno, hE⟩ := hrel
    have NO := hidH hno
    have EE := hidH hE
    clear hno hE
    by_cases hx : x < n
    · have hx' : (x : Int) < (n : Int) := by omega
      have kx : IntKind.i64.wrap ((x : Int) + 1) = ((x + 1 : Nat) : Int) := by rw [IntWalk.i64_in _ ⟨by omega, by omega⟩]; omega
      have EW : Hid (Below B w wr) := E2.out.trans (EE.out.mono (by omega))
      obtain ⟨mv, hmv⟩ : ∃ mv, ms[x]? = some mv := ⟨_, List.getElem?_eq_getElem (by rw [HML.out]; exact hx)⟩
      have hmv2 : ms[x]! = mv := by simp [hmv]
      have cM := (row_cell (own_belowR HO.out EW.out (by have := HBE.out; omega)) hmv).1
      clear hmv
      by_cases hm0 : mv = 0
      · subst hm0
        have NO2 : Hid (∀ y, y < x + 1 → ¬ OnC ps y) := fun y hy hc => by
          by_cases e : y = x
          · subst e
            exact HLE.out y hx hc hmv2
          · exact NO.out y (by omega) hc
        clear hmv2
        go_wp2
        go_roundg (n - (x + 1))
        case measure => omega
        case rel => exact ⟨x + 1, rfl, rfl, by omega, NO2.out, EE.out⟩
      · have hm1 : (mv == 0) = false := by rw [beq_eq_false_iff_ne]; exact hm0
        have hDr : D ≤ wr.heap.size := by have := EE.out.size; have := HDE.out; omega
        have QF := hidH (rfar_any x n C (fun x => usr ps (x : Int)) ps wr ((UX.out.below EE.out).up hDr) (fun z hz => ⟨Nat.le_trans (usr_len ps (z : Int)) hm, fun y => mem_usr⟩) HPS.out hx hn)
        clear hmv2
        go_upto_region 10 with (go_at_call 52; (with_reducible refine QF.out.mono ?_); clear QF; rintro e w3 ⟨hb3, rfl, F, q, hMq, hBq⟩; have HB3 := hidH hb3; have MP := hidH hMq; have BQ := hidH hBq; clear hb3 hMq hBq)
        obtain ⟨b, hb⟩ : ∃ b, wr.heap.size = b := ⟨_, rfl⟩
        have E3 : Hid (Below D w2 w3) := EE.out.trans (HB3.out.mono hDr)
        rw [hb] at hDr MP ⊢
        obtain ⟨aD, cD, cD1, hrow⟩ := NX.out.row x hx
        obtain ⟨r, hr⟩ : ∃ r, (nd ps x).length = r := ⟨_, rfl⟩
        have hrp : r ≤ ps.length := by rw [← hr]; exact nd_len ps x
        rw [hr] at cD1
        have HR := hidH hr
        have HROW := hidH hrow
        have cN := (E3.out.cell (p := ⟨B, x, none⟩) NX.out.lt).trans cD1
        clear hrow hr cD1 cM HB3 hb
        go_loopg [11, 12] r (fun g3 s11 s12 wq => ∃ (i : Nat) (best : Int), g3 = r - i ∧ s11 = .int .i64 best ∧ s12 = .int .i64 (i : Int) ∧ i ≤ r ∧ (-1 ≤ best ∧ best < (n : Int)) ∧ Mi6 F q (nd ps x) i best ∧ wq = w3)
        case atStart => exact ⟨0, -1, rfl, rfl, rfl, Nat.zero_le _, ⟨by omega, by omega⟩, .inl ⟨rfl, fun y hy => by simp at hy⟩, rfl⟩
        case round =>
          obtain ⟨i, best, hg3, rfl, rfl, hir, hlw, hLo, hw⟩ := hrel
          have hw2 := hw.symm
          subst hw2
          have LO := hidH hLo
          clear hLo hw
          by_cases hi : i < r
          · have hi' : (i : Int) < (r : Int) := by omega
            have ki : IntKind.i64.wrap ((i : Int) + 1) = ((i + 1 : Nat) : Int) := by rw [IntWalk.i64_in _ ⟨by omega, by omega⟩]; omega
            obtain ⟨y0, hy0⟩ : ∃ y, (nd ps x)[i]? = some y := ⟨_, List.getElem?_eq_getElem (by rw [HR.out]; exact hi)⟩
            have hyr := (HPS.out _ (mem_nd.1 (List.mem_of_getElem? hy0))).2
            simp only at hyr
            obtain ⟨y, rfl⟩ : ∃ y : Nat, y0 = (y : Int) := ⟨y0.toNat, by omega⟩
            have hyn : y < n := by omega
            obtain ⟨g, rfl, hg, hcl⟩ := HROW.out (by rw [HR.out]; omega)
            have cY := (E3.out.cell (p := ⟨g, i, none⟩) hg).trans (hcl i _ hy0)
            have HY0 := hidH hy0
            clear hcl hy0
            by_cases hyq : y ∈ q
            · have lk := MP.out.look_yes hyq (by omega)
              obtain ⟨v, hv⟩ : ∃ v, F y = v := ⟨_, rfl⟩
              have hvn : v < n := by have h1 := BQ.out.done.le y hyn; have h2 := (BQ.out.mkd y hyn).1 hyq; omega
              rw [hv] at lk
              have HV := hidH hv
              clear hv
              by_cases hl0 : best < 0
              · have LO2 : Hid (Mi6 F q (nd ps x) (i + 1) (v : Int)) := by have h9 := LO.out.take HY0.out hyq (.inl hl0); rw [HV.out] at h9; exact h9
                go_wp2
                go_roundg (r - (i + 1))
                case measure => omega
                case rel => exact ⟨i + 1, _, rfl, rfl, rfl, by omega, ⟨by omega, by omega⟩, LO2.out, rfl⟩
              · by_cases hl1 : (v : Int) < best
                · have LO2 : Hid (Mi6 F q (nd ps x) (i + 1) (v : Int)) := by have h9 := LO.out.take HY0.out hyq (.inr (by rw [HV.out]; exact hl1)); rw [HV.out] at h9; exact h9
                  go_wp2
                  go_roundg (r - (i + 1))
                  case measure => omega
                  case rel => exact ⟨i + 1, _, rfl, rfl, rfl, by omega, ⟨by omega, by omega⟩, LO2.out, rfl⟩
                · have LO2 := hidH (LO.out.skip HY0.out (.inr ⟨by omega, by rw [HV.out]; omega⟩))
                  go_wp2
                  go_roundg (r - (i + 1))
                  case measure => omega
                  case rel => exact ⟨i + 1, _, rfl, rfl, rfl, by omega, hlw, LO2.out, rfl⟩
            · obtain ⟨c, lk⟩ := MP.out.look_no hyq (by omega)
              have LO2 := hidH (LO.out.skip HY0.out (.inl hyq))
              go_wp2
              go_roundg (r - (i + 1))
              case measure => omega
              case rel => exact ⟨i + 1, _, rfl, rfl, rfl, by omega, hlw, LO2.out, rfl⟩
          · have hi' : ¬ (i : Int) < (r : Int) := by omega
            rcases LO.out.done HPS.out BQ.out (by rw [HR.out]; omega) with ⟨rfl, hnc⟩ | ⟨k, rfl, hkn, hMn, hOn⟩
            · have NO2 : Hid (∀ y, y < x + 1 → ¬ OnC ps y) := fun y hy hc => by
                by_cases e : y = x
                · subst e
                  exact hnc hc
                · exact NO.out y (by omega) hc
              clear hnc
              go_wp2
              go_roundg (n - (x + 1))
              case measure => omega
              case rel => exact ⟨x + 1, rfl, rfl, by omega, NO2.out, E3.out⟩
            · have hk0 : (0 : Int) ≤ (k : Int) := by omega
              have HF : Hid (Fst ps x) := ⟨hOn, fun y hy => Nat.le_of_not_lt fun h => NO.out y h hy⟩
              have hDw : D ≤ w3.heap.size := by have := E3.out.size; have := HDE.out; omega
              have QB := hidH (rback_any x n B b k F q ps w3 ((NX.out.below E3.out).up hDw) MP.out BQ.out HPS.out hx hn hm hMn hkn)
              have EB : Hid (Below B w w3) := E2.out.trans (E3.out.mono (by omega))
              have hBw : B ≤ w3.heap.size := by omega
              clear hMn hOn LO
              go_wp2_with (go_at_call 53; (with_reducible refine QB.out.mono ?_); clear QB; rintro e w5 ⟨v, rfl, hb6, l, ho6, hC⟩; have HB6 := hidH (EB.out.trans (hb6.mono hBw)); have O6 := hidH (own_lower ho6 hBw); have HC := hidH hC; clear hb6 ho6 hC)
              go_ret
              exact ⟨_, rfl, by first | exact HB6.out | (rw [hB]; exact HB6.out), x, l, by first | exact O6.out | (rw [hB]; exact O6.out), HF.out, HC.out⟩
    · exfalso
      obtain ⟨z, hz⟩ := HEX.out
      have h1 := (HPS.out _ hz.choose_spec.1).1
      simp only at h1
      exact NO.out z (by omega) hz
theorem rorder (n cap : Nat) (a : Option Addr) (ps : List Pr) (w : World) (hL : LiesA w a ps) (hm : ps.length ≤ 8796093022208) (ht : things (n : Int) ps = true) :
    Calls Try.prog 16 #[.int .i64 (n : Int), .slice a ps.length cap] w fun e w' => ∃ v u E, e = .returned (.tuple #[v, u, .int .i64 E]) ∧ Below w.heap.size w w' ∧ OrG w.heap.size n ps w' v u E :=
  rorder_any n cap a ps w hL hm ht fun wq gm ms hb ho hl hx => rcycle_any n cap gm _ a ps ms wq (hL.below hb) (things_spec ht).1 hm (things_spec ht).2 ho hl hx
end Go.Proofs.Ytgijcbipnjmhgab

namespace Go.Proofs.Ytgijcbipnjmhgab
open Go.ChangeShapes Go.WideShapes Go.ChangeAt Go.RowKit
set_option linter.unusedVariables false
set_option linter.unusedSimpArgs false

theorem Gn.mem {S : Int → Prop} {R : Int → Int → Prop} {os : List Int} (h : Gn S R os) : ∀ y ∈ os, S y := fun y hy => by
  obtain ⟨a, b, e⟩ := List.append_of_mem hy
  exact (h.gd a y b e).1.1
theorem own_lies6 {w : World} {B : Nat} {v : Value} {zs : List Int} (h : w.ownsRow B 3 1 v zs.length (flat zs)) : (∃ a c, v = .slice a zs.length c ∧ LiesA w a zs) ∧ zs.length ≤ maxLen := by
  obtain ⟨a, c, hv, hl, -⟩ := own_form (α := Int) h
  refine ⟨⟨a, c, hv, hl⟩, ?_⟩
  rcases h.2 with ⟨-, h0⟩ | ⟨g, cap2, cur, -, -, -, h1, h2, -⟩
  · rw [h0]; exact Nat.zero_le _
  · omega
/-- two rows that read alike -/
def Rs6 (w : World) (v v' : Value) : Prop := ∃ (zs : List Int) (a a' : Option Addr) (c c' : Nat), v = .slice a zs.length c ∧ v' = .slice a' zs.length c' ∧ LiesA w a zs ∧ LiesA w a' zs ∧ zs.length ≤ maxLen
theorem Rs6.below {w w' : World} {v v' : Value} (h : Rs6 w v v') (hb : Below w.heap.size w w') : Rs6 w' v v' := by
  obtain ⟨zs, a, a', c, c', h1, h2, h3, h4, h5⟩ := h
  exact ⟨zs, a, a', c, c', h1, h2, h3.below hb, h4.below hb, h5⟩
theorem Rs6.nil (w : World) : Rs6 w (.slice none 0 0) (.slice none 0 0) := ⟨[], none, none, 0, 0, rfl, rfl, .inl rfl, .inl rfl, by decide⟩
theorem Rs6.same {w : World} {v v' : Value} (h : Rs6 w v v') : Calls Try.prog 8 #[v, v'] w fun e w' => e = .returned (.bool true) ∧ Below w.heap.size w w' := by
  obtain ⟨zs, a, a', c, c', rfl, rfl, h3, h4, h5⟩ := h
  exact same_ints a a' c c' zs w h3 h4 h5
theorem or_same {B B' n : Nat} {ps : List Pr} {w2 w3 : World} {v u v' u' : Value} {E E' : Int} (hps : ∀ p ∈ ps, (0 ≤ p.a ∧ p.a < (n : Int)) ∧ (0 ≤ p.b ∧ p.b < (n : Int))) (h : OrE B n ps w2 v u E) (hb : Below w2.heap.size w2 w3) (k : OrG B' n ps w3 v' u' E') : E = E' ∧ Rs6 w3 v v' ∧ Rs6 w3 u u' := by
  rcases h with ⟨rfl, rfl, N, os, hN, hl, hn, ho⟩ | ⟨rfl, rfl, f, l, ho, hF, hC⟩
  · rcases k with ⟨rfl, rfl, os', hg, hn', ho'⟩ | ⟨rfl, rfl, f', l', ho', hF', hC'⟩
    · have e := (hl.gn hN).uniq hg
      subst e
      obtain ⟨⟨a, c, e1, l1⟩, hm⟩ := own_lies6 ho
      obtain ⟨⟨a', c', e2, l2⟩, -⟩ := own_lies6 ho'
      exact ⟨rfl, ⟨os, a, a', c, c', e1, e2, l1.below hb, l2, hm⟩, Rs6.nil _⟩
    · exact absurd hF'.1 (Ln.noc hps hN hl hn f')
  · rcases k with ⟨rfl, rfl, os', hg, hn', ho'⟩ | ⟨rfl, rfl, f', l', ho', hF', hC'⟩
    · exfalso
      have hfn : f < n := by
        obtain ⟨z, he, -⟩ := hF.1
        have h1 := (hps _ he).1
        simp only at h1
        omega
      exact hg.noc ((full_iff hg.nodup hg.mem).1 hn' f hfn) hF.1
    · have e := hF.uniq hF'
      subst e
      have e := hC.uniq hC'
      subst e
      obtain ⟨⟨a, c, e1, l1⟩, hm⟩ := own_lies6 ho
      obtain ⟨⟨a', c', e2, l2⟩, -⟩ := own_lies6 ho'
      exact ⟨rfl, Rs6.nil _, ⟨_, a, a', c, c', e1, e2, l1.below hb, l2, hm⟩⟩
theorem rorder_bad (n : Int) (a : Option Addr) (cap : Nat) (ps : List Pr) (w : World) (hL : LiesA w a ps) (hm : ps.length ≤ 8796093022208) (h : things n ps = false) :
    Calls Try.prog 16 #[.int .i64 n, .slice a ps.length cap] w fun e w' => e = .returned (.tuple #[.slice none 0 0, .slice none 0 0, .int .i64 1]) ∧ w' = w := by
  have BD : Hid (Calls Try.prog 26 #[.int .i64 n, .slice a ps.length cap] w fun e w' => e = .returned (.bool true) ∧ w' = w) := by have h9 := rbad_any n a cap ps w hL (by omega); rw [h] at h9; exact h9
  go_enter Try.func16, Try.ntmps16
  go_wp2_with (go_at_call 26; (with_reducible refine BD.out.mono ?_); rintro e v1 ⟨rfl, rfl⟩)
  go_ret3
  exact ⟨rfl, rfl⟩
/-- both Orders, one after the other: they answer alike -/
theorem both_orders (n : Int) (a b : Option Addr) (cap cap' : Nat) (ps : List Pr) (w : World) (hL : LiesA w a ps) (hL' : LiesA w b ps) (hm : ps.length ≤ 8796093022208) :
    Calls Try.prog 7 #[.int .i64 n, .slice a ps.length cap] w fun e w' => ∃ v u E, e = .returned (.tuple #[v, u, .int .i64 E]) ∧ Below w.heap.size w w' ∧ Calls Try.prog 16 #[.int .i64 n, .slice b ps.length cap'] w' fun e w'' => ∃ v' u', e = .returned (.tuple #[v', u', .int .i64 E]) ∧ Below w'.heap.size w' w'' ∧ Rs6 w'' v v' ∧ Rs6 w'' u u' := by
  cases ht : things n ps with
  | false =>
    exact (order_bad n a cap ps w hL hm ht).mono fun e w' ⟨h1, h2⟩ => ⟨_, _, _, h1, h2, (rorder_bad n b cap' ps w' (hL'.below h2) hm ht).mono fun e w'' ⟨h3, h4⟩ => ⟨_, _, h3, by rw [h4]; exact Below.refl _ _, Rs6.nil _, Rs6.nil _⟩⟩
  | true =>
    obtain ⟨nn, rfl⟩ : ∃ nn : Nat, n = (nn : Int) := ⟨n.toNat, by unfold things at ht; simp only [Bool.and_eq_true, decide_eq_true_eq] at ht; omega⟩
    exact (order_any nn cap a ps w hL hm ht).mono fun e w' ⟨v, u, E, h1, h2, h3⟩ => ⟨v, u, E, h1, h2, (rorder nn cap' b ps w' (hL'.below h2) hm ht).mono fun e w'' ⟨v', u', E', h4, h5, h6⟩ => by
      obtain ⟨e1, r1, r2⟩ := or_same (things_spec ht).2 h3 h5 h6
      subst e1
      exact ⟨v', u', h4, h5, r1, r2⟩⟩
set_option maxRecDepth 1000000 in
set_option maxHeartbeats 1000000 in
theorem graphOrders_walk (n : Int) (a : Option Addr) (cap : Nat) (ps : List Pr) (w : World) (bn0 : -9223372036854775808 ≤ n) (bn1 : n ≤ 9223372036854775807) (hL : LiesA w a ps) (hn : a = none → ps.length = 0 ∧ cap = 0) (hl : ps.length * 16 ≤ 140737488351232) :
    Calls Try.prog 5 #[.int .i64 n, .slice a ps.length cap] w fun e w' => e = .returned (.bool true) ∧ Below w.heap.size w w' := by
  have HL : Hid (LiesA w a ps) := hL
  have LE : Hid (Calls Try.prog 12 #[.slice a ps.length cap] w fun e w' => e = .returned (.slice (some ⟨w.heap.size, 0, none⟩) ps.length (ps.length + 2)) ∧ Below w.heap.size w w' ∧ Lies w' w.heap.size 0 (ps ++ pmarks)) := plent_any a cap ps w hL hn hl
  obtain ⟨B, hB⟩ : ∃ B, w.heap.size = B := ⟨_, rfl⟩
  have HBq : Hid (w.heap.size = B) := hB
  rw [hB] at LE
  clear hL hn hB bn0 bn1
  go_enter Try.func5, Try.ntmps5
  go_wp2_with (first
    | (go_at_call 12; (with_reducible refine LE.out.mono ?_); rintro e w1 ⟨rfl, hb1, hl1⟩; have HB1 : Hid (Below B w w1) := hb1; have L1 : Hid (Lies w1 B 0 (ps ++ pmarks)) := hl1; have QO := hidH (both_orders n (some ⟨B, 0, none⟩) a (ps.length + 2) cap ps w1 (.inr ⟨B, 0, rfl, hl1.pre⟩) (HL.out.below (by rw [HBq.out]; exact hb1)) (by omega)); clear hb1 hl1)
    | (go_at_call 7; (with_reducible refine QO.out.mono ?_); clear QO; rintro e w2 ⟨v, u, E, rfl, hb2, QG0⟩; have QG := hidH QG0; have HB12 : Hid (Below B w w2) := HB1.out.trans (hb2.mono (by rw [← HBq.out]; exact HB1.out.size)); have L2 : Hid (Lies w2 B 0 (ps ++ pmarks)) := L1.out.below hb2 L1.out.1; clear hb2 QG0)
    | (go_at_call 16; (with_reducible refine QG.out.mono ?_); clear QG; rintro e w3 ⟨v', u', rfl, hb3, r1, r2⟩; have HB13 : Hid (Below B w w3) := HB12.out.trans (hb3.mono (by have := HB12.out.size; rw [HBq.out] at this; exact this)); have L3 : Hid (Lies w3 B 0 (ps ++ pmarks)) := L2.out.below hb3 L2.out.1; have S1 := hidH r1; have S2 := hidH r2; clear hb3 r1 r2)
    | (go_at_call 8; (with_reducible refine S1.out.same.mono ?_); clear S1; rintro e w4 ⟨rfl, hb4⟩; have HB14 : Hid (Below B w w4) := HB13.out.trans (hb4.mono (by have := HB13.out.size; rw [HBq.out] at this; exact this)); have L4 : Hid (Lies w4 B 0 (ps ++ pmarks)) := L3.out.below hb4 L3.out.1; have S3 := hidH (S2.out.below hb4); clear hb4 S2)
    | (go_at_call 8; (with_reducible refine S3.out.same.mono ?_); clear S3; rintro e w5 ⟨rfl, hb5⟩; have HB15 : Hid (Below B w w5) := HB14.out.trans (hb5.mono (by have := HB14.out.size; rw [HBq.out] at this; exact this)); have L5 : Hid (Lies w5 B 0 (ps ++ pmarks)) := L4.out.below hb5 L4.out.1; clear hb5)
    | (go_at_call 15; (with_reducible refine (pkept_any B a cap ps w5 L5.out (HL.out.below (by rw [HBq.out]; exact HB15.out)) hl).mono ?_); rintro e w6 ⟨rfl, hb6⟩; have HB6 : Hid (Below B w w6) := HB15.out.trans (hb6.mono (by have := HB15.out.size; rw [HBq.out] at this; exact this)); clear hb6))
  go_ret
  exact ⟨rfl, by rw [HBq.out]; exact HB6.out⟩
end Go.Proofs.Ytgijcbipnjmhgab
