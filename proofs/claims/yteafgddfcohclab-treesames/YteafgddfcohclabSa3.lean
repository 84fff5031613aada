import Derived.Test.YteafgddfcohclabSa2
namespace Go.Proofs.Yteafgddfcohclab
open Go.ChangeShapes Go.WideShapes Go.ChangeAt Go.RowKit
set_option linter.unusedVariables false

def kAt (ts : List Tk) (i : Int) : UInt8 := match ts[i.toNat]? with | some p => kb p | none => 0
theorem kby_tkl (ts : List Tk) (b : Nat) : ∀ n, b + n ≤ ts.length → kby ts b n = (tkl ts b n).map (kAt ts)
  | 0, _ => rfl
  | n + 1, h => by
    have ih := kby_tkl ts b n (by omega)
    obtain ⟨p, hp⟩ : ∃ p, ts[b + n]? = some p := ⟨_, List.getElem?_eq_getElem (by omega)⟩
    cases ht : tokB p with
    | true =>
      rw [kby_tok hp ht, tkl_yes hp ht, List.map_append, ih]
      have : kAt ts ((b + n : Nat) : Int) = kb p := by unfold kAt; rw [Int.toNat_natCast, hp]
      rw [List.map_singleton, this]
    | false => rw [kby_not hp ht, tkl_no hp ht, ih]

theorem tkl_mem {ts : List Tk} {b n i : Nat} {a : Int} (hn : b + n ≤ ts.length) (h : (tkl ts b n)[i]? = some a) : ∃ m p, a = (m : Nat) ∧ m < ts.length ∧ ts[m]? = some p := by
  have hm := List.mem_of_getElem? h
  unfold tkl at hm
  obtain ⟨m, h1, rfl⟩ := List.mem_map.1 hm
  have h2 := (List.mem_filter.1 h1).1
  rw [List.mem_range'_1] at h2
  have h3 : m < ts.length := by omega
  exact ⟨m, _, rfl, h3, List.getElem?_eq_getElem h3⟩

/-- the tokens of a node's run -/
def tko (ts : List Tk) (x : Nd) : List Int := tkl ts (spB x ts.length) (spE x ts.length - spB x ts.length)
theorem tko_le (ts : List Tk) (x : Nd) : spB x ts.length + (spE x ts.length - spB x ts.length) ≤ ts.length := by
  have := spB_le x ts.length; have := spE_le x ts.length; omega
theorem kof_tko (ts : List Tk) (x : Nd) : kof ts x = (tko ts x).map (kAt ts) := kby_tkl ts _ _ (tko_le ts x)
theorem tko_mem {ts : List Tk} {x : Nd} {i : Nat} {a : Int} (h : (tko ts x)[i]? = some a) : ∃ m p, a = (m : Nat) ∧ m < ts.length ∧ ts[m]? = some p := tkl_mem (tko_le ts x) h
theorem tko_len (ts : List Tk) (x : Nd) : (tko ts x).length ≤ ts.length := by
  have := tkl_len ts (spB x ts.length) (spE x ts.length - spB x ts.length)
  have := tko_le ts x
  unfold tko; omega
theorem kof_no_len {ts us : List Tk} {x y : Nd} (h : (tko ts x).length ≠ (tko us y).length) : ¬ kof ts x = kof us y := by
  intro h'
  rw [kof_tko, kof_tko] at h'
  have := congrArg List.length h'
  rw [List.length_map, List.length_map] at this
  exact h this
theorem kb_inj {p q : Tk} (hp : TkFit p) (hq : TkFit q) : kb p = kb q ↔ p.k = q.k := by
  obtain ⟨⟨h1, h2⟩, _⟩ := hp
  obtain ⟨⟨h3, h4⟩, _⟩ := hq
  have e : ∀ r : Tk, 0 ≤ r.k → r.k ≤ 255 → (kb r).toNat = r.k.toNat := fun r a b => by
    unfold kb; rw [UInt8.toNat_ofNat']; exact Nat.mod_eq_of_lt (by omega)
  rw [← UInt8.toNat_inj, e p h1 (by omega), e q h3 (by omega)]
  omega
theorem kAt_some {ts : List Tk} {m : Nat} {p : Tk} (h : ts[m]? = some p) : kAt ts (m : Int) = kb p := by unfold kAt; rw [Int.toNat_natCast, h]
theorem kof_no_at {ts us : List Tk} {x y : Nd} {i m n : Nat} {p q : Tk} (h1 : (tko ts x)[i]? = some (m : Int)) (h2 : (tko us y)[i]? = some (n : Int)) (hp : ts[m]? = some p) (hq : us[n]? = some q) (fp : TkFit p) (fq : TkFit q) (hne : ¬ p.k = q.k) : ¬ kof ts x = kof us y := by
  intro h'
  rw [kof_tko, kof_tko] at h'
  have := congrArg (fun l => l[i]?) h'
  simp only [List.getElem?_map, h1, h2, Option.map_some] at this
  rw [kAt_some hp, kAt_some hq] at this
  injection this with this
  exact hne ((kb_inj fp fq).1 this)
theorem kof_yes {ts us : List Tk} {x y : Nd} (hl : (tko ts x).length = (tko us y).length) (fp : ∀ p ∈ ts, TkFit p) (fq : ∀ q ∈ us, TkFit q)
    (h : ∀ i m n p q, i < (tko ts x).length → (tko ts x)[i]? = some ((m : Nat) : Int) → (tko us y)[i]? = some ((n : Nat) : Int) → ts[m]? = some p → us[n]? = some q → p.k = q.k) : kof ts x = kof us y := by
  rw [kof_tko, kof_tko]
  apply List.ext_getElem?
  intro i
  rw [List.getElem?_map, List.getElem?_map]
  by_cases hi : i < (tko ts x).length
  · obtain ⟨a, ha⟩ : ∃ e, (tko ts x)[i]? = some e := ⟨_, List.getElem?_eq_getElem hi⟩
    obtain ⟨b, hb⟩ : ∃ e, (tko us y)[i]? = some e := ⟨_, List.getElem?_eq_getElem (by omega)⟩
    obtain ⟨m, p, rfl, _, hp⟩ := tko_mem ha
    obtain ⟨n, q, rfl, _, hq⟩ := tko_mem hb
    rw [ha, hb, Option.map_some, Option.map_some, kAt_some hp, kAt_some hq, (kb_inj (fp p (List.mem_of_getElem? hp)) (fq q (List.mem_of_getElem? hq))).2 (h i m n p q hi ha hb hp hq)]
  · rw [List.getElem?_eq_none (by omega), List.getElem?_eq_none (by omega)]; rfl
end Go.Proofs.Yteafgddfcohclab
