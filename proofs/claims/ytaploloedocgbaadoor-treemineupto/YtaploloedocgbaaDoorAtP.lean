import Derived.Test.YtaploloedocgbaaDoorKd1
import Derived.Test.YtaploloedocgbaaDoorRec
import Derived.Test.YtaploloedocgbaaDoorDw
import Derived.Deep.RegionHeld3
import Derived.Deep.AppendLies
import Derived.Deep.DrawnRows
import Derived.Deep.DeepCutAuto
namespace Go.Proofs.YtaploloedocgbaaDoor
open Go.ChangeShapes Go.WideShapes Go.ChangeAt Go.RowKit
set_option linter.unusedVariables false

/-- where a node's run begins and ends in a list of so many pieces -/
def spB (x : Nd) (L : Nat) : Nat := min x.f.toNat L
def spE (x : Nd) (L : Nat) : Nat := min (max x.e.toNat (spB x L)) L
theorem spB_le (x : Nd) (L : Nat) : spB x L ≤ spE x L := by unfold spE spB; omega
theorem spE_le (x : Nd) (L : Nat) : spE x L ≤ L := by unfold spE; omega
theorem in_span {x : Nd} {L i : Nat} (hi : i < L) : (spB x L ≤ i ∧ i < spE x L) ↔ (x.f ≤ (i : Int) ∧ (i : Int) < x.e) := by
  unfold spE spB; omega
theorem spB_at {x : Nd} {L i : Nat} (hi : i < L) : spB x L ≤ i ↔ x.f ≤ (i : Int) := by unfold spB; omega
theorem spE_at {x : Nd} {L i : Nat} (hi : i < L) : spE x L ≤ i ↔ (spB x L ≤ i ∧ x.e ≤ (i : Int)) := by unfold spE spB; omega

/-- is a piece a token? -/
def tokB (p : Tk) : Bool := p.k != 0 && p.k != 1

theorem isToken_any (k : Int) (w : World) : Calls Tryd.prog 29 #[.int .u8 k] w fun e w' => e = .returned (.bool (k != 0 && k != 1)) ∧ w = w' := by
  by_cases h0 : k = 0
  · subst h0
    go_enter Tryd.func29, Tryd.ntmps29
    go_wp2
    go_ret
    exact ⟨rfl, rfl⟩
  · have h0' : (k != 0) = true := by simp [h0]
    go_enter Tryd.func29, Tryd.ntmps29
    go_wp2
    go_ret
    exact ⟨by rw [h0']; rfl, rfl⟩

theorem ret_ii {a b c d : Int} (h : a = b) (h2 : c = d) : Ending.returned (.tuple #[.int .i64 a, .int .i64 c]) = .returned (.tuple #[.int .i64 b, .int .i64 d]) := by rw [h, h2]

set_option maxHeartbeats 1000000 in
theorem span_any (x : Nd) (L : Nat) (w : World) (hx : NdFit x) (hL : L * 24 ≤ 140737488351232) :
    Calls Tryd.prog 28 #[.agg #[.int .u8 x.k, .int .i64 x.f, .int .i64 x.e, .int .i64 x.s], .int .i64 L] w fun e w' => e = .returned (.tuple #[.int .i64 (spB x L), .int .i64 (spE x L)]) ∧ Below w.heap.size w w' := by
  have hw : Below w.heap.size w (w.alloc (.cells #[.int .u8 x.k, .int .i64 x.f, .int .i64 x.e, .int .i64 x.s] 57)) := (Below.refl _ w).alloc (Nat.le_refl _) _
  have HB : Hid (∀ b, b = (spB x L : Int) ↔ (b = min (max x.f 0) L)) := by unfold Hid spB; intro b; omega
  have HE : Hid (∀ b, b = (spE x L : Int) ↔ (b = min (max x.e (min (max x.f 0) L)) L)) := by unfold Hid spE spB; intro b; omega
  have hc : (x.f < 0 ∧ x.e < 0) ∨ (x.f < 0 ∧ 0 ≤ x.e ∧ (L : Int) < x.e) ∨ (x.f < 0 ∧ 0 ≤ x.e ∧ x.e ≤ (L : Int)) ∨ (0 ≤ x.f ∧ (L : Int) < x.f ∧ x.e < (L : Int)) ∨ (0 ≤ x.f ∧ (L : Int) < x.f ∧ (L : Int) ≤ x.e ∧ (L : Int) < x.e) ∨ (0 ≤ x.f ∧ (L : Int) < x.f ∧ (L : Int) ≤ x.e ∧ x.e ≤ (L : Int)) ∨ (0 ≤ x.f ∧ x.f ≤ (L : Int) ∧ x.e < x.f) ∨ (0 ≤ x.f ∧ x.f ≤ (L : Int) ∧ x.f ≤ x.e ∧ (L : Int) < x.e) ∨ (0 ≤ x.f ∧ x.f ≤ (L : Int) ∧ x.f ≤ x.e ∧ x.e ≤ (L : Int)) := by omega
  rcases hc with ⟨g1, g2⟩ | ⟨g1, g2, g3⟩ | ⟨g1, g2, g3⟩ | ⟨g1, g2, g3⟩ | ⟨g1, g2, g3, g4⟩ | ⟨g1, g2, g3, g4⟩ | ⟨g1, g2, g3⟩ | ⟨g1, g2, g3, g4⟩ | ⟨g1, g2, g3, g4⟩
  all_goals
    go_enter Tryd.func28, Tryd.ntmps28
    go_wp2_with fail
    go_quiet (fail)
    go_wp2
    go_ret2
    exact ⟨ret_ii ((HB.out _).2 (by omega)) ((HE.out _).2 (by omega)), by have := below_drewN hw nq; exact this⟩
end Go.Proofs.YtaploloedocgbaaDoor

namespace Go.Proofs.YtaploloedocgbaaDoor
open Go.ChangeShapes Go.WideShapes Go.ChangeAt Go.RowKit
set_option linter.unusedVariables false

theorem kds_len (ns : List Nd) (e : Nat) : ∀ (d k : Nat), e - k ≤ d → ∀ l, kds ns e k = some l → l.length ≤ e - k := by
  intro d
  induction d with
  | zero =>
    intro k hd l h
    rw [kds_end (by omega)] at h
    cases h; simp
  | succ d ih =>
    intro k hd l h
    by_cases hk : k < e
    · cases hx : ns[k]? with
      | none => rw [kds, dif_pos hk, hx] at h; simp at h
      | some x =>
        by_cases hs : 1 ≤ x.s ∧ x.s ≤ (e : Int) - k
        · rw [kds_step hk hx hs.1 hs.2] at h
          obtain ⟨l', h', rfl⟩ := Option.map_eq_some_iff.1 h
          have := ih (k + x.s.toNat) (by omega) l' h'
          simp; omega
        · rw [kds_bad hk hx hs] at h; cases h
    · rw [kds_end hk] at h; cases h; simp

theorem kid_len (ns : List Nd) (n : Int) : ((kid ns n).getD []).length ≤ ns.length := by
  cases hw : whl ns n with
  | false => rw [kid_no hw]; simp
  | true =>
    obtain ⟨k, z, x, rfl, hx, hxz, hz, hzk⟩ := whl_yes hw
    rw [kid_at hx hxz hw]
    cases hk : kds ns (k + z) (k + 1) with
    | none => simp
    | some l =>
      have := kds_len ns (k + z) _ (k + 1) (Nat.le_refl _) l hk
      simp; omega

theorem kds_mem (ns : List Nd) (e : Nat) (he : e ≤ ns.length) : ∀ (d k : Nat), e - k ≤ d → ∀ l, kds ns e k = some l → ∀ y ∈ l, ∃ m : Nat, y = m ∧ m < ns.length := by
  intro d
  induction d with
  | zero =>
    intro k hd l h y hy
    rw [kds_end (by omega)] at h
    cases h; cases hy
  | succ d ih =>
    intro k hd l h y hy
    by_cases hk : k < e
    · cases hx : ns[k]? with
      | none => rw [kds, dif_pos hk, hx] at h; simp at h
      | some x =>
        by_cases hs : 1 ≤ x.s ∧ x.s ≤ (e : Int) - k
        · rw [kds_step hk hx hs.1 hs.2] at h
          obtain ⟨l', h', rfl⟩ := Option.map_eq_some_iff.1 h
          rcases List.mem_cons.1 hy with rfl | hy
          · exact ⟨k, rfl, by omega⟩
          · exact ih (k + x.s.toNat) (by omega) l' h' y hy
        · rw [kds_bad hk hx hs] at h; cases h
    · rw [kds_end hk] at h; cases h; cases hy

theorem kid_mem (ns : List Nd) (n : Int) : ∀ y ∈ (kid ns n).getD [], ∃ m : Nat, y = m ∧ m < ns.length := by
  cases hw : whl ns n with
  | false => rw [kid_no hw]; intro y hy; cases hy
  | true =>
    obtain ⟨k, z, x, rfl, hx, hxz, hz, hzk⟩ := whl_yes hw
    rw [kid_at hx hxz hw]
    cases hk : kds ns (k + z) (k + 1) with
    | none => intro y hy; cases hy
    | some l => exact kds_mem ns (k + z) (by omega) _ (k + 1) (Nat.le_refl _) l hk

end Go.Proofs.YtaploloedocgbaaDoor

namespace Go.Proofs.YtaploloedocgbaaDoor
open Go.ChangeShapes Go.WideShapes Go.ChangeAt Go.RowKit
set_option linter.unusedVariables false

/-- the kids of a node, or none -/
def kdl (ns : List Nd) (n : Int) : List Int := (kid ns n).getD []
/-- is n a kid of the node p, and does its run reach it? -/
def upB (ns : List Nd) (n p : Nat) (x : Nd) : Bool := decide ((n : Int) - (p : Int) < x.s) && (kdl ns p).contains (n : Int)
/-- the last of the first p nodes whose kid n is -/
def upF (ns : List Nd) (n : Nat) : Nat → Int
  | 0 => -1
  | p + 1 => match ns[p]? with | some x => if upB ns n p x then (p : Int) else upF ns n p | none => upF ns n p
theorem upF_yes {ns : List Nd} {n p : Nat} {x : Nd} (hx : ns[p]? = some x) (h : upB ns n p x = true) : upF ns n (p + 1) = p := by rw [upF, hx]; simp [h]
theorem upF_no {ns : List Nd} {n p : Nat} {x : Nd} (hx : ns[p]? = some x) (h : upB ns n p x = false) : upF ns n (p + 1) = upF ns n p := by rw [upF, hx]; simp [h]
theorem kdl_has {l : List Int} {t : Nat} {v : Int} (h : l[t]? = some v) : l.contains v = true := List.contains_iff_mem.2 (List.mem_of_getElem? h)
theorem kdl_hasnt {l : List Int} {v : Int} (h : ∀ t : Nat, t < l.length → l[t]? ≠ some v) : l.contains v = false := by
  rw [Bool.eq_false_iff]
  intro h'
  obtain ⟨t, ht⟩ := List.getElem?_of_mem (List.contains_iff_mem.1 h')
  exact h t (List.getElem?_eq_some_iff.1 ht).1 ht
theorem own_max {w : World} {base e size n : Nat} {v : Value} {xs : List Value} (h : w.ownsRow base e size v n xs) : n ≤ maxLen := by
  rcases h.2 with ⟨_, h0⟩ | ⟨g, cap, cur, _, _, _, h1, h2, _⟩
  · rw [h0]; exact Nat.zero_le _
  · omega
/-- whose kid n is -/
def upN (ns : List Nd) (n : Int) : Int := if 0 ≤ n ∧ n < (ns.length : Int) then upF ns n.toNat n.toNat else -1

end Go.Proofs.YtaploloedocgbaaDoor

namespace Go.Proofs.YtaploloedocgbaaDoor
open Go.ChangeShapes Go.WideShapes Go.ChangeAt Go.RowKit
set_option linter.unusedVariables false

set_option maxRecDepth 1000000 in
set_option maxHeartbeats 1000000 in
theorem index_any (a : Option Addr) (cap : Nat) (xs : List Int) (v : Int) (w : World) (h : LiesA w a xs) (hl : xs.length ≤ maxLen) :
    Calls Tryd.prog 59 #[.slice a xs.length cap, .int .i64 v] w fun e w' => (∃ i : Int, e = .returned (.int .i64 i) ∧ decide (0 ≤ i) = xs.contains v) ∧ w' = w := by
  have H : Hid (LiesA w a xs) := h
  unfold maxLen at hl
  clear h
  go_enter Tryd.func59, Tryd.ntmps59
  go_wp2
  go_loopw [8] (fun i wr => ∃ k : Nat, k ≤ xs.length ∧ i = .int .i64 (k : Int) ∧ wr = w ∧ v ∉ xs.take k) (fun i _ => xs.length - (intOf i).toNat)
  case atStart => exact ⟨0, by omega, rfl, rfl, by simp⟩
  case round =>
    obtain ⟨k, hk, rfl, rfl, hno⟩ := hrel
    have HNO : Hid (v ∉ xs.take k) := hno
    clear hno
    by_cases hkl : k < xs.length
    · obtain ⟨y, hy⟩ : ∃ y, xs[k]? = some y := ⟨_, List.getElem?_eq_getElem hkl⟩
      rcases H.out with h0 | ⟨b, o, rfl, hL⟩
      · rw [h0] at hkl; simp at hkl
      have d0 := hL.int (Below.refl _ wr) hy
      have HY : Hid (xs[k]? = some y) := hy
      have hk1 : (k : Int) < (xs.length : Int) := by omega
      clear hy hL
      by_cases hv : v = y
      · subst hv
        have HC : Hid (xs.contains v = true) := List.contains_iff_mem.2 (List.mem_of_getElem? HY.out)
        go_wp2
        go_ret
        exact ⟨⟨k, rfl, by rw [HC.out]; simp⟩, rfl⟩
      · have HV : Hid (v ≠ y) := hv
        go_wp2
        go_roundw
        case rel =>
          refine ⟨k + 1, by omega, by simp, by trivial, ?_⟩
          rw [List.take_add_one, HY.out]
          intro hm
          rcases List.mem_append.1 hm with hm | hm
          · exact HNO.out hm
          · simp at hm; exact HV.out hm
        case measure => simp [intOf]; omega
    · have hke : k = xs.length := by omega
      subst hke
      have HC : Hid (xs.contains v = false) := by
        unfold Hid
        rw [Bool.eq_false_iff]
        intro hm
        exact HNO.out (by rw [List.take_length]; exact List.contains_iff_mem.1 hm)
      go_wp2
      go_ret
      exact ⟨⟨-1, rfl, by rw [HC.out]; rfl⟩, rfl⟩

theorem contains_any (a : Option Addr) (cap : Nat) (xs : List Int) (v : Int) (w : World) (h : LiesA w a xs) (hl : xs.length ≤ maxLen) :
    Calls Tryd.prog 44 #[.slice a xs.length cap, .int .i64 v] w fun e w' => e = .returned (.bool (xs.contains v)) ∧ w' = w := by
  have H : Hid (LiesA w a xs) := h
  clear h
  go_enter Tryd.func44, Tryd.ntmps44
  go_wp2_with (go_at_call 59; refine (index_any a cap xs v _ H.out hl).mono ?_; rintro e w' ⟨⟨i, rfl, hi⟩, rfl⟩; have HI : Hid (decide (0 ≤ i) = xs.contains v) := hi; clear hi)
  go_ret
  exact ⟨congrArg (fun b => Ending.returned (.bool b)) HI.out, rfl⟩
end Go.Proofs.YtaploloedocgbaaDoor

namespace Go.Proofs.YtaploloedocgbaaDoor
open Go.ChangeShapes Go.WideShapes Go.ChangeAt Go.RowKit
set_option linter.unusedVariables false

/-- does a node's run hold an offset? -/
def atB (ts : List Tk) (off : Int) (x : Nd) : Bool :=
  if 0 ≤ x.f ∧ x.f < x.e ∧ x.e ≤ (ts.length : Int) then (match ts[x.f.toNat]?, ts[(x.e - 1).toNat]? with | some p, some q => decide (p.f ≤ off) && decide (off < q.t) | _, _ => false) else false
/-- the last of the first n nodes that does -/
def atF (ts : List Tk) (ns : List Nd) (off : Int) : Nat → Int
  | 0 => -1
  | n + 1 => match ns[n]? with | some x => if atB ts off x then (n : Int) else atF ts ns off n | none => atF ts ns off n
theorem atF_yes {ts : List Tk} {ns : List Nd} {off : Int} {n : Nat} {x : Nd} (hx : ns[n]? = some x) (h : atB ts off x = true) : atF ts ns off (n + 1) = n := by rw [atF, hx]; simp [h]
theorem atF_no {ts : List Tk} {ns : List Nd} {off : Int} {n : Nat} {x : Nd} (hx : ns[n]? = some x) (h : atB ts off x = false) : atF ts ns off (n + 1) = atF ts ns off n := by rw [atF, hx]; simp [h]
theorem atB_out {ts : List Tk} {off : Int} {x : Nd} (h : ¬ (0 ≤ x.f ∧ x.f < x.e ∧ x.e ≤ (ts.length : Int))) : atB ts off x = false := by unfold atB; rw [if_neg h]
theorem atB_in {ts : List Tk} {off : Int} {x : Nd} {m n : Nat} {p q : Tk} (h : x.f = (m : Int)) (h2 : x.e = (n : Int) + 1) (hmn : m ≤ n) (hn : n < ts.length) (hp : ts[m]? = some p) (hq : ts[n]? = some q) : atB ts off x = (decide (p.f ≤ off) && decide (off < q.t)) := by
  unfold atB
  rw [if_pos (by omega), h, h2, Int.toNat_natCast, show ((n : Int) + 1 - 1).toNat = n by omega, hp, hq]

end Go.Proofs.YtaploloedocgbaaDoor
