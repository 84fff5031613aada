import Derived.Test.YteolfolkolpehaaDoorMg1
namespace Go.Proofs.YteolfolkolpehaaDoor
open Go.ChangeShapes Go.WideShapes Go.ChangeAt Go.RowKit
set_option linter.unusedVariables false

/-- do two neighbours meet? -/
def mts (e n : Ed) : Bool := decide (n.f < e.t) || (ins e && ins n && e.f == n.f)
def mtg : List Ed → Bool
  | [] => false
  | [_] => false
  | e :: n :: r => mts e n || mtg (n :: r)

theorem mts_yes {e n : Ed} (h : n.f < e.t ∨ (e.f = e.t ∧ n.f = n.t ∧ e.f = n.f)) : mts e n = true := by
  unfold mts ins
  rcases h with h | ⟨h1, h2, h3⟩
  · simp [h]
  · simp [h1, h2]; omega
theorem mts_no {e n : Ed} (h : ¬ (n.f < e.t ∨ (e.f = e.t ∧ n.f = n.t ∧ e.f = n.f))) : mts e n = false := by
  cases hm : mts e n with
  | false => rfl
  | true =>
    exfalso; apply h
    unfold mts ins at hm
    simp at hm
    omega
theorem mtg_cut {xs : List Ed} {k : Nat} {e n : Ed} (he : xs[k]? = some e) (hn : xs[k + 1]? = some n) : mtg (xs.drop k) = (mts e n || mtg (xs.drop (k + 1))) := by
  rw [drop_get he, drop_get hn, mtg]
theorem mtg_end {xs : List Ed} {k : Nat} (h : xs.length ≤ k + 1) : mtg (xs.drop k) = false := by
  rcases hd : xs.drop k with _ | ⟨e, _ | ⟨n, r⟩⟩
  · rfl
  · rfl
  · have := congrArg List.length hd; simp at this; omega

set_option maxRecDepth 1000000 in
set_option maxHeartbeats 1000000 in
theorem meeting_any (a : Option Addr) (cap : Nat) (xs : List Ed) (w : World) (h : EdsA w a xs) (hl : xs.length ≤ 131072) :
    Calls Tryd.prog 51 #[.slice a xs.length cap] w fun e w' => e = .returned (.bool (mtg xs)) ∧ Below w.heap.size w w' := by
  have H : Hid (EdsA w a xs) := h
  clear h
  go_enter Tryd.func51, Tryd.ntmps51
  go_wp2
  go_loopg [3] xs.length (fun gk si wr => ∃ k : Nat, gk = xs.length - k ∧ si = .int .i64 ((k : Int) + 1) ∧ k ≤ xs.length ∧ Below w.heap.size w wr ∧ mtg xs = mtg (xs.drop k))
  case atStart => exact ⟨0, by omega, rfl, Nat.zero_le _, Below.refl _ _, by simp⟩
  case round =>
    obtain ⟨k, rfl, rfl, hk, hbel, hm⟩ := hrel
    have HM : Hid (mtg xs = mtg (xs.drop k)) := hm
    have hsz := hbel.size
    clear hm
    by_cases hlt : k + 1 < xs.length
    · obtain ⟨e, he⟩ : ∃ e, xs[k]? = some e := ⟨_, List.getElem?_eq_getElem (by omega)⟩
      obtain ⟨n, hn⟩ : ∃ n, xs[k + 1]? = some n := ⟨_, List.getElem?_eq_getElem hlt⟩
      rcases H.out with h0 | ⟨b, o, rfl, hE⟩
      · rw [h0] at hlt; simp at hlt
      obtain ⟨c0, c1, c2⟩ := hE.cells hbel he
      obtain ⟨d0, d1, d2⟩ := hE.cells hbel hn
      have HC : Hid (mtg xs = (mts e n || mtg (xs.drop (k + 1)))) := by unfold Hid; rw [HM.out, mtg_cut he hn]
      have hlt' : (k : Int) + 1 < (xs.length : Int) := by omega
      have n1 : (k : Int) < (xs.length : Int) := by omega
      have n2 : (0 : Int) ≤ (k : Int) := by omega
      have n3 : (0 : Int) ≤ (k : Int) + 1 := by omega
      have n4 : IntKind.i64.wrap ((k : Int) + 1 - 1) = (k : Int) := by rw [show (k : Int) + 1 - 1 = k by omega]; exact IntWalk.i64_in _ ⟨by omega, by omega⟩
      have n5 : ((k : Int) + 1).toNat = k + 1 := by omega
      have n6 : IntKind.i64.wrap (k : Int) = (k : Int) := IntWalk.i64_in _ ⟨by omega, by omega⟩
      have n7 : k < xs.length := by omega
      have n8 : (0 : Int) ≤ (xs.length : Int) := by omega
      clear he hn
      have hbw : b < wr.heap.size := Nat.lt_of_lt_of_le hE.1 hsz
      have new1 := World.new_ne wr ⟨b, o + k * 3, none⟩ c0
      go_upto_region 4 with fail
      go_region_held3 (fun w' => w'.cell? ⟨b, o + k * 3, none⟩ = some (.int .i64 e.f) ∧ w'.cell? ⟨b, o + k * 3 + 1, none⟩ = some (.int .i64 e.t) ∧ w'.cell? ⟨b, o + k * 3 + 2, none⟩ = some (.string e.s) ∧ w'.cell? ⟨b, o + (k + 1) * 3, none⟩ = some (.int .i64 n.f) ∧ w'.cell? ⟨b, o + (k + 1) * 3 + 1, none⟩ = some (.int .i64 n.t) ∧ w'.cell? ⟨b, o + (k + 1) * 3 + 2, none⟩ = some (.string n.s))
        (first
          | go_keep
          | (refine ⟨?_, ?_, ?_, ?_, ?_, ?_⟩ <;> assumption))
        (fail)
      all_goals
        clear c0 c1 c2 d0 d1 d2
        go_wp2
        all_goals
          first
          | (go_roundg (xs.length - (k + 1))
             case measure => omega
             case rel => exact ⟨k + 1, rfl, by go_num, by omega, by go_grown, by rw [HC.out, mts_no (by first | omega | (rename_i hq; have hq2 := beq_eq_false_iff_ne.1 hq.2; omega)), Bool.false_or]⟩)
          | (go_ret
             exact ⟨ret_b (by rw [HC.out, mts_yes (by first | omega | (rename_i hq; rcases Classical.em (e.t = n.t) with hz | hz; omega; have hz2 : (e.t == n.t) = false := beq_eq_false_iff_ne.2 hz; exfalso; rw [hz2] at hq; first | (simp at hq; done) | (simp at hq; omega))), Bool.true_or]), by go_grown⟩)
    · have HE : Hid (mtg xs = false) := by unfold Hid; rw [HM.out]; exact mtg_end (by omega)
      have hge : (xs.length : Int) ≤ (k : Int) + 1 := by omega
      go_wp2
      go_ret
      exact ⟨by rw [HE.out]; rfl, hbel⟩
end Go.Proofs.YteolfolkolpehaaDoor
