import Derived.Test.YteolfolkolpehaaDoorCoR
import Derived.Test.YteolfolkolpehaaDoorRn1
namespace Go.Proofs.YteolfolkolpehaaDoor
open Go.ChangeShapes Go.WideShapes Go.ChangeAt Go.RowKit
set_option linter.unusedVariables false

/-- a run that the walks bear -/
def RnF (r : Rn) : Prop := RnG 4611686018427387904 r ∧ r.s.size ≤ 1048576

theorem Rns.cells {w w' : World} {b o k : Nat} {l : List Rn} {r : Rn} (h : Rns w b o l) (hb : Below w.heap.size w w') (hr : l[k]? = some r) :
    w'.cell? ⟨b, o + k * 4, none⟩ = some (.bool r.old) ∧ w'.cell? ⟨b, o + k * 4 + 1, none⟩ = some (.int .i64 r.f) ∧ w'.cell? ⟨b, o + k * 4 + 2, none⟩ = some (.int .i64 r.t) ∧ w'.cell? ⟨b, o + k * 4 + 3, none⟩ = some (.string r.s) :=
  (h.below hb h.1).2 k r hr

theorem rsz_bound {r : Rn} (h : RnF r) : 0 ≤ rsz r ∧ rsz r ≤ 4611686018427387904 := by
  refine ⟨rsz_ge h.1, ?_⟩
  unfold rsz
  split
  · rename_i ho; have := h.1.1 ho; omega
  · have := h.2; omega

set_option maxHeartbeats 800000 in
theorem rsize_any (r : Rn) (w : World) (h : RnF r) :
    Calls Tryd.prog 83 #[.agg #[.bool r.old, .int .i64 r.f, .int .i64 r.t, .string r.s]] w fun e w' => e = .returned (.int .i64 (rsz r)) ∧ Below w.heap.size w w' := by
  have HZ : Hid (rsz r = if r.old = true then r.t - r.f else r.s.size) := rfl
  cases ho : r.old with
  | true =>
    have hg := h.1.1 ho
    rw [ho, if_pos rfl] at HZ
    rw [HZ.out]
    clear h
    go_enter Tryd.func83, Tryd.ntmps83
    go_wp2
    go_ret
    exact ⟨rfl, by go_grown⟩
  | false =>
    have hs := h.2
    rw [ho, if_neg (by simp)] at HZ
    rw [HZ.out]
    clear h
    go_enter Tryd.func83, Tryd.ntmps83
    go_wp2
    go_ret
    exact ⟨rfl, by go_grown⟩

set_option maxHeartbeats 800000 in
theorem rpart_any (r : Rn) (x y : Int) (w : World) (h : RnF r) (hx : 0 ≤ x) (hxy : x < y) (hy : y ≤ rsz r) :
    Calls Tryd.prog 84 #[.agg #[.bool r.old, .int .i64 r.f, .int .i64 r.t, .string r.s], .int .i64 x, .int .i64 y] w fun e w' => e = .returned (.agg #[.bool (rpt r x y).old, .int .i64 (rpt r x y).f, .int .i64 (rpt r x y).t, .string (rpt r x y).s]) ∧ Below w.heap.size w w' := by
  have HP : Hid (rpt r x y = if r.old = true then ⟨true, r.f + x, r.f + y, ⟨#[]⟩⟩ else ⟨false, 0, 0, r.s.extract x.toNat y.toNat⟩) := rfl
  have hz : rsz r = if r.old = true then r.t - r.f else r.s.size := rfl
  cases ho : r.old with
  | true =>
    have hg := h.1.1 ho
    rw [ho, if_pos rfl] at hz
    rw [ho, if_pos rfl] at HP
    rw [HP.out]
    simp only
    rw [hz] at hy
    clear h hz HP
    go_enter Tryd.func84, Tryd.ntmps84
    go_wp2
    refine bodyPost_ret (v := .agg #[.bool true, .int .i64 (r.f + x), .int .i64 (r.f + y), .string ⟨#[]⟩]) (by simp [results, Tryd.results84, go_sem]) rfl ⟨rfl, ?_⟩
    go_grown
  | false =>
    have hs := h.2
    rw [ho, if_neg (by simp)] at hz
    rw [ho, if_neg (by simp)] at HP
    rw [HP.out]
    simp only
    rw [hz] at hy
    have hxy' : x ≤ y := by omega
    clear h hz HP
    go_enter Tryd.func84, Tryd.ntmps84
    go_wp2
    refine bodyPost_ret (v := .agg #[.bool false, .int .i64 0, .int .i64 0, .string (r.s.extract x.toNat y.toNat)]) (by simp [results, Tryd.results84, go_sem]) rfl ⟨rfl, ?_⟩
    go_grown

theorem szs_drop {l : List Rn} {k : Nat} {r : Rn} (h : l[k]? = some r) : szs (l.drop k) = rsz r + szs (l.drop (k + 1)) := by rw [drop_get h, szs]
theorem szs_ge {l : List Rn} (h : ∀ r ∈ l, RnF r) : 0 ≤ szs l := by
  induction l with
  | nil => exact Int.le_refl _
  | cons r l ih => have := rsz_bound (h r (by simp)); have := ih (fun q hq => h q (by simp [hq])); rw [szs]; omega

set_option maxRecDepth 1000000 in
set_option maxHeartbeats 2000000 in
theorem Size_any (a : Option Addr) (c : Nat) (l : List Rn) (w : World) (h : RnA w a l) (hF : ∀ r ∈ l, RnF r) (hl : l.length ≤ 140737488351232) (hS : szs l ≤ 4611686018428436480) :
    Calls Tryd.prog 64 #[.slice a l.length c] w fun e w' => e = .returned (.int .i64 (szs l)) ∧ Below w.heap.size w w' := by
  have HF : Hid (∀ r ∈ l, RnF r) := hF
  have H : Hid (RnA w a l) := h
  obtain ⟨Z, hZ⟩ : ∃ Z, szs l = Z := ⟨_, rfl⟩
  rw [hZ] at hS
  have HZ : Hid (szs l = Z) := hZ
  rw [hZ]
  clear h hF hZ
  go_enter Tryd.func64, Tryd.ntmps64
  go_wp2
  go_loopg [3, 4] l.length (fun gk sn si wr => ∃ (k : Nat) (n : Int), gk = l.length - k ∧ k ≤ l.length ∧ si = .int .i64 (k : Int) ∧ sn = .int .i64 n ∧ 0 ≤ n ∧ n + szs (l.drop k) = Z ∧ Below w.heap.size w wr)
  case atStart => exact ⟨0, 0, by omega, Nat.zero_le _, rfl, rfl, Int.le_refl _, by simpa using HZ.out, Below.refl _ _⟩
  case round =>
    obtain ⟨k, n, rfl, hk, rfl, rfl, hn0, hn, hbel⟩ := hrel
    have HB : Hid (Below w.heap.size w wr) := hbel
    clear hbel
    by_cases hlt : k < l.length
    · have hlt' : (k : Int) < (l.length : Int) := by omega
      obtain ⟨r, hr⟩ : ∃ r, l[k]? = some r := ⟨_, List.getElem?_eq_getElem hlt⟩
      have hrF := HF.out r (List.mem_of_getElem? hr)
      have HRF : Hid (RnF r) := hrF
      have hb := rsz_bound hrF
      have h2 := szs_drop hr
      have h3 := szs_ge (l := l.drop (k + 1)) (fun q hq => HF.out q (List.mem_of_mem_drop hq))
      obtain ⟨ba, oa, hab, hE⟩ : ∃ ba oa, a = some ⟨ba, oa, none⟩ ∧ Rns w ba oa l := by
        rcases H.out with h0 | h0
        · rw [h0] at hlt; simp at hlt
        · exact h0
      subst hab
      obtain ⟨c0, c1, c2, c3⟩ := hE.cells HB.out hr
      rw [h2] at hn
      have HN : Hid (n + (rsz r + szs (l.drop (k + 1))) = Z) := hn
      have hnz : n + rsz r ≤ 4611686018428436480 := by omega
      clear hn h2 hE hr h3
      go_wp2_with (first | (go_at_call 83; (refine (rsize_any r _ HRF.out).mono ?_); rintro e w3 ⟨rfl, hb3⟩; have HB3 : Hid (Below w.heap.size w w3) := HB.out.trans (hb3.mono HB.out.size); clear hb3))
      go_roundg (l.length - (k + 1))
      case measure => omega
      case rel => exact ⟨k + 1, n + rsz r, rfl, by omega, by go_num, by go_num, by omega, by have := HN.out; omega, HB3.out⟩
    · have hge : ¬ (k : Int) < (l.length : Int) := by omega
      have hz : n = Z := by
        rw [List.drop_eq_nil_of_le (by omega)] at hn
        simpa [szs] using hn
      subst hz
      clear hn
      go_wp2
      go_ret
      exact ⟨rfl, HB.out⟩
end Go.Proofs.YteolfolkolpehaaDoor
