import Derived.Test.YteolfolkolpehaaDoorAp
namespace Go.Proofs.YteolfolkolpehaaDoor
open Go.ChangeShapes Go.WideShapes Go.ChangeAt Go.RowKit
set_option linter.unusedVariables false

theorem infoLd : (Tryd.prog.info? 103).map (fun i => (i.zero, i.size, i.bytes)) = some (some (.agg #[.int .i64 0, .int .i64 0, .string ⟨#[]⟩]), 3, 32) := by kernel_rfl

/-- what the first list put into the text between -/
def lay : Int → List Ed → List Ed
  | _, [] => []
  | m, e :: r => ⟨e.f + m, e.f + m + e.s.size, e.s⟩ :: lay (m + ((e.s.size : Int) - (e.t - e.f))) r

theorem lay_len (m : Int) (xs : List Ed) : (lay m xs).length = xs.length := by
  induction xs generalizing m with
  | nil => rfl
  | cons e r ih => rw [lay, List.length_cons, ih, List.length_cons]

theorem lay_step {xs p : List Ed} {k : Nat} {m : Int} {e : Ed} (he : xs[k]? = some e) (hp : p ++ lay m (xs.drop k) = lay 0 xs) :
    (p ++ [⟨e.f + m, e.f + m + e.s.size, e.s⟩]) ++ lay (m + ((e.s.size : Int) - (e.t - e.f))) (xs.drop (k + 1)) = lay 0 xs := by
  rw [← hp, drop_get he, lay]
  simp

def low : List Ed → List Ed → Int
  | p :: _, e :: _ => min p.f e.f
  | p :: _, [] => p.f
  | [], e :: _ => e.f
  | [], [] => 0

/-- how far the group reaches -/
def rch (put b : List Ed) : Nat → Nat → Nat → Int → Nat × Nat × Int
  | 0, i, j, h => (i, j, h)
  | n + 1, i, j, h =>
    if i < put.length ∧ (put.getD i ⟨0, 0, ⟨#[]⟩⟩).f ≤ h then rch put b n (i + 1) j (max h (put.getD i ⟨0, 0, ⟨#[]⟩⟩).t)
    else if j < b.length ∧ (b.getD j ⟨0, 0, ⟨#[]⟩⟩).f ≤ h then rch put b n i (j + 1) (max h (b.getD j ⟨0, 0, ⟨#[]⟩⟩).t)
    else (i, j, h)

theorem getD_of {xs : List Ed} {i : Nat} {e : Ed} (h : xs[i]? = some e) : xs.getD i ⟨0, 0, ⟨#[]⟩⟩ = e := by simp [List.getD, h]

theorem rch_put {put b : List Ed} {n i j : Nat} {h : Int} {e : Ed} (he : put[i]? = some e) (hle : e.f ≤ h) : rch put b (n + 1) i j h = rch put b n (i + 1) j (max h e.t) := by
  rw [rch, getD_of he, if_pos ⟨(List.getElem?_eq_some_iff.1 he).1, hle⟩]
theorem rch_b {put b : List Ed} {n i j : Nat} {h : Int} {e : Ed} (hp : ∀ p, put[i]? = some p → h < p.f) (he : b[j]? = some e) (hle : e.f ≤ h) : rch put b (n + 1) i j h = rch put b n i (j + 1) (max h e.t) := by
  rw [rch, if_neg, getD_of he, if_pos ⟨(List.getElem?_eq_some_iff.1 he).1, hle⟩]
  rintro ⟨h1, h2⟩
  have := hp _ (List.getElem?_eq_getElem h1)
  rw [getD_of (List.getElem?_eq_getElem h1)] at h2
  omega
theorem rch_stop {put b : List Ed} {n i j : Nat} {h : Int} (hp : ∀ p, put[i]? = some p → h < p.f) (hb : ∀ e, b[j]? = some e → h < e.f) : rch put b n i j h = (i, j, h) := by
  cases n with
  | zero => rfl
  | succ n =>
    rw [rch, if_neg, if_neg]
    · rintro ⟨h1, h2⟩
      have := hb _ (List.getElem?_eq_getElem h1)
      rw [getD_of (List.getElem?_eq_getElem h1)] at h2
      omega
    · rintro ⟨h1, h2⟩
      have := hp _ (List.getElem?_eq_getElem h1)
      rw [getD_of (List.getElem?_eq_getElem h1)] at h2
      omega
end Go.Proofs.YteolfolkolpehaaDoor
