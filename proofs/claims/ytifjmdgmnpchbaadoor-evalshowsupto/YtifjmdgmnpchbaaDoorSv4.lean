import Derived.Test.YtifjmdgmnpchbaaDoorSv0
namespace Go.Proofs.YtifjmdgmnpchbaaDoor
open Go.ChangeShapes Go.WideShapes Go.ChangeAt Go.RowKit
set_option linter.unusedVariables false
set_option linter.unusedSimpArgs false

theorem getX {rs qs : List Rg} (h : rs.map Rg.xs = qs.map Rg.xs) {i : Nat} {r : Rg} (hr : rs[i]? = some r) : ∃ q, qs[i]? = some q ∧ q.xs = r.xs := by
  have e : (rs.map Rg.xs)[i]? = some r.xs := by rw [List.getElem?_map, hr]; rfl
  rw [h, List.getElem?_map] at e
  cases hq : qs[i]? with
  | none => rw [hq] at e; cases e
  | some q => rw [hq] at e; exact ⟨q, rfl, Option.some.inj e⟩

set_option maxRecDepth 1000000 in
set_option maxHeartbeats 4000000 in
theorem same_trace (a1 a2 : Option Addr) (c1 c2 n : Nat) (rs qs : List Rg) (w : World) (h1 : Tr w a1 rs) (h2 : Tr w a2 qs) (heq : rs.map Rg.xs = qs.map Rg.xs) (hn1 : rs.length = n) (hn2 : qs.length = n) (hl : n ≤ 1048576) (hle : ∀ r ∈ rs, r.xs.length ≤ 1048576) :
    Calls Tryd.prog 6 #[.slice a1 n c1, .slice a2 n c2] w fun e w' => e = .returned (.bool true) ∧ Below w.heap.size w w' := by
  have H1 : Hid (∀ v, Below w.heap.size w v → Tr v a1 rs) := fun v hv => h1.below hv
  have H2 : Hid (∀ v, Below w.heap.size w v → Tr v a2 qs) := fun v hv => h2.below hv
  have HL : Hid (∀ r ∈ rs, r.xs.length ≤ 1048576) := hle
  have HE : Hid (rs.map Rg.xs = qs.map Rg.xs) := heq
  have HN1 : Hid (rs.length = n) := hn1
  clear h1 h2 hle heq hn1 hn2
  have hne : ((n : Int) != (n : Int)) = false := by simp
  go_enter Tryd.func6, Tryd.ntmps6
  go_wp2
  go_loopw [14] (fun i wr => ∃ k : Nat, k ≤ n ∧ i = .int .i64 k ∧ Below w.heap.size w wr) (fun i _ => n - (intOf i).toNat)
  case atStart => exact ⟨0, Nat.zero_le _, rfl, Below.refl _ _⟩
  case round =>
    obtain ⟨k, hk, rfl, hbel⟩ := hrel
    have HB : Hid (Below w.heap.size w wr) := hbel
    by_cases hlt : k < n
    · have hlt' : (k : Int) < (n : Int) := by omega
      obtain ⟨r, hr⟩ : ∃ r, rs[k]? = some r := ⟨_, List.getElem?_eq_getElem (by rw [HN1.out]; exact hlt)⟩
      obtain ⟨q, hq, hxs⟩ := getX HE.out hr
      obtain ⟨b1, o1, rfl, hb1, e1⟩ := (H1.out wr HB.out).row hr
      obtain ⟨b2, o2, rfl, hb2, e2⟩ := (H2.out wr HB.out).row hq
      have HR : Hid (rs[k]? = some r) := hr
      have HQ : Hid (qs[k]? = some q) := hq
      have hrl := HL.out r (List.mem_of_getElem? hr)
      obtain ⟨ra, rc, rx⟩ := r
      obtain ⟨qa, qc, qx⟩ := q
      simp only at hxs e1 e2 hrl
      have hxs2 := hxs.symm
      clear hxs
      subst hxs2
      clear hbel hr hq
      have hne2 : ((rx.length : Int) != (rx.length : Int)) = false := by simp
      go_wp2
      go_quiet (fail)
      go_wp2
      go_loopw [33] (fun j wr => ∃ m : Nat, m ≤ rx.length ∧ j = .int .i64 m ∧ Below w.heap.size w wr) (fun j _ => rx.length - (intOf j).toNat)
      case atStart => exact ⟨0, Nat.zero_le _, rfl, by (repeat (with_reducible refine below_drewN ?_ _)); exact HB.out⟩
      case round =>
        obtain ⟨m, hm, rfl, hbel⟩ := hrel
        have HB3 : Hid (Below w.heap.size w wr) := hbel
        obtain ⟨b1', o1', he1, hb1', f1⟩ := (H1.out wr HB3.out).row HR.out
        obtain ⟨b2', o2', he2, hb2', f2⟩ := (H2.out wr HB3.out).row HQ.out
        cases he1
        cases he2
        clear e1 e2 hbel
        by_cases hmt : m < rx.length
        · have hmt' : (m : Int) < (rx.length : Int) := by omega
          obtain ⟨x, hx⟩ : ∃ x, rx[m]? = some x := ⟨_, List.getElem?_eq_getElem hmt⟩
          obtain ⟨b3, o3, rfl, hb3, d0, d1, d2, d3⟩ := ((H1.out wr HB3.out).2 _ (List.mem_of_getElem? HR.out)).vl hx
          obtain ⟨b4, o4, rfl, hb4, g0, g1, g2, g3⟩ := ((H2.out wr HB3.out).2 _ (List.mem_of_getElem? HQ.out)).vl hx
          clear hx
          obtain ⟨xk, xb, xi, xs⟩ := x
          simp only at *
          have qe : ∀ v, (Op.equalIn 10000 28 (.agg #[.int .u8 xk, .bool xb, .int .i64 xi, .string xs]) (.agg #[.int .u8 xk, .bool xb, .int .i64 xi, .string xs])).run Tryd.prog v = .ok true v := fun v => by rw [val_eqIn]; simp
          go_wp2
          go_quiet (fail)
          go_wp2
          go_roundw
          case rel => exact ⟨m + 1, by omega, by go_num, by (repeat (with_reducible refine below_drewN ?_ _)); exact HB3.out⟩
          case measure => simp [intOf]; omega
        · have hmge : ¬ (m : Int) < (rx.length : Int) := by omega
          go_wp2
          go_roundw
          case rel => exact ⟨k + 1, by omega, by go_num, HB3.out⟩
          case measure => simp [intOf]; omega
    · have hge : ¬ (k : Int) < (n : Int) := by omega
      go_wp2
      go_ret
      exact ⟨rfl, HB.out⟩
end Go.Proofs.YtifjmdgmnpchbaaDoor
