import Derived.Test.YteolfolkolpehaaDoorCoU
namespace Go.Proofs.YteolfolkolpehaaDoor
open Go.ChangeShapes Go.WideShapes Go.ChangeAt Go.RowKit
set_option linter.unusedVariables false

def tR : List Rn → Nat
  | [] => 0
  | r :: l => r.s.size + tR l
theorem tR_append (a b : List Rn) : tR (a ++ b) = tR a + tR b := by
  induction a with
  | nil => simp [tR]
  | cons r l ih => rw [List.cons_append, tR, tR, ih]; omega
theorem tR_drop {l : List Rn} {k : Nat} {r : Rn} (h : l[k]? = some r) : tR (l.drop k) = r.s.size + tR (l.drop (k + 1)) := by rw [drop_get h, tR]
theorem tR_kq1 (x y c : Int) (r : Rn) : tR (kq1 x y c r) ≤ r.s.size := by
  unfold kq1
  split
  · split
    · simp [tR]
    · simp [tR]
  · split
    · unfold rpt
      split
      · have : (⟨#[]⟩ : ByteArray).size = 0 := rfl
        simp only [tR]; omega
      · simp [tR]; omega
    · simp [tR]
theorem tR_kq (x y c : Int) (l : List Rn) : tR (kq x y c l) ≤ tR l := by
  induction l generalizing c with
  | nil => exact Nat.le_refl _
  | cons r l ih => have := tR_kq1 x y c r; have := ih (c + rsz r); rw [kq, tR_append, tR]; omega
theorem tR_dq (l : List Rn) (c : Int) (b : List Ed) : tR (dq l c b) ≤ (b.length + 1) * tR l + tots b := by
  induction b generalizing c with
  | nil => have := tR_kq c (szs l) 0 l; simp [dq, tots]; exact this
  | cons e r ih =>
    have h1 := tR_kq c e.f 0 l
    have h2 := ih e.t
    rw [dq, tR_append, tR, tots, List.length_cons, Nat.add_mul (r.length + 1) 1, Nat.one_mul]
    simp only
    omega
theorem dq_len (l : List Rn) (c : Int) (b : List Ed) : (dq l c b).length ≤ (b.length + 1) * (l.length + 1) := by
  induction b generalizing c with
  | nil => have := kq_len c (szs l) 0 l; simp [dq]; omega
  | cons e r ih =>
    have h1 := kq_len c e.f 0 l
    have h2 := ih e.t
    rw [dq, List.length_append, List.length_cons, List.length_cons, Nat.add_mul (r.length + 1) 1, Nat.one_mul]
    omega

set_option maxRecDepth 1000000 in
set_option maxHeartbeats 4000000 in
theorem List_any (a : Option Addr) (c : Nat) (l : List Rn) (size : Int) (w : World) (h : RnA w a l) (hl : l.length ≤ 1099511627776) (hs0 : 0 ≤ size) (hs1 : size ≤ 4611686018427387904) (hG : ∀ r ∈ l, RnG 4611686018427387904 r) (hT : tR l ≤ 1099511627776) :
    Calls Tryd.prog 44 #[.slice a l.length c, .int .i64 size] w fun e w' => ∃ v, e = .returned v ∧ w'.ownsRow w.heap.size 45 3 v (lq size 0 false [] l).length (flat (lq size 0 false [] l)) ∧ Below w.heap.size w w' := by
  obtain ⟨i0, hi0, hz0, hz1, hz2⟩ := info_parts infoEd
  have H : Hid (RnA w a l) := h
  have HG : Hid (∀ r ∈ l, RnG 4611686018427387904 r) := hG
  obtain ⟨Q, hQ⟩ : ∃ Q, lq size 0 false [] l = Q := ⟨_, rfl⟩
  have HQ : Hid (lq size 0 false [] l = Q) := hQ
  rw [hQ]
  clear h hQ hG
  go_enter Tryd.func44, Tryd.ntmps44
  go_wp2
  go_loopg [5, 6, 7, 8, 9] (l.length + 1) (fun gk so sl sp st si wr => ∃ (k : Nat) (last : Int) (op : Bool) (P : ByteArray) (p : List Ed), gk = l.length + 1 - k ∧ k ≤ l.length + 1 ∧ si = .int .i64 (k : Int) ∧ sl = .int .i64 last ∧ sp = .bool op ∧ st = .string P ∧ P.size + tR (l.drop k) ≤ 1099511627776 ∧ p.length ≤ k ∧ (k ≤ l.length → p ++ lq size last op P.data.toList (l.drop k) = Q) ∧ (l.length < k → p = Q) ∧ wr.ownsRow w.heap.size 45 3 so p.length (flat p) ∧ Below w.heap.size w wr)
  case atStart => exact ⟨0, 0, false, ⟨#[]⟩, [], by omega, Nat.zero_le _, rfl, rfl, rfl, rfl, by simpa [ByteArray.size] using hT, Nat.zero_le _, (fun _ => by simpa using HQ.out), (fun h => by omega), World.ownsRow_nil _ _ _ _, Below.refl _ _⟩
  case round =>
    obtain ⟨k, last, op, P, p, rfl, hk, rfl, rfl, rfl, rfl, hPT, hpk, hpq, hpe, hown, hbel⟩ := hrel
    have HB : Hid (Below w.heap.size w wr) := hbel
    have HO : Hid (wr.ownsRow w.heap.size 45 3 u5 p.length (flat p)) := hown
    have HPE : Hid (l.length < k → p = Q) := hpe
    have HPQ : Hid (k ≤ l.length → p ++ lq size last op P.data.toList (l.drop k) = Q) := hpq
    clear hbel hown hpq hpe
    by_cases hend : l.length < k
    · have hge : ¬ (k : Int) ≤ (l.length : Int) := by omega
      have HZ := HPE.out hend
      have HZ' : Hid (p = Q) := HZ
      clear HZ
      go_wp2
      go_ret
      exact ⟨_, rfl, by rw [← HZ'.out]; exact HO.out, HB.out⟩
    · have hle : (k : Int) ≤ (l.length : Int) := by omega
      have hpq := HPQ.out (by omega)
      by_cases hlt : k < l.length
      · have hlt' : (k : Int) < (l.length : Int) := by omega
        obtain ⟨r, hr⟩ : ∃ r, l[k]? = some r := ⟨_, List.getElem?_eq_getElem hlt⟩
        have hrG := HG.out r (List.mem_of_getElem? hr)
        have hrT := tR_drop hr
        obtain ⟨ba, oa, hab, hE⟩ : ∃ ba oa, a = some ⟨ba, oa, none⟩ ∧ Rns w ba oa l := by
          rcases H.out with h0 | h0
          · rw [h0] at hlt; simp at hlt
          · exact h0
        subst hab
        have HE : Hid (Rns w ba oa l) := hE
        have HR : Hid (l[k]? = some r) := hr
        obtain ⟨q0, q1, q2, q3⟩ := hE.cells HB.out hr
        rw [drop_get hr, lq] at hpq
        have hPs : P.size + (r.s.size + tR (l.drop (k + 1))) ≤ 1099511627776 := by omega
        clear hPT hrT hE hr
        cases ho : r.old with
        | false =>
          rw [ho, if_neg (by simp)] at hpq
          have HN : Hid (p ++ lq size last true (P ++ r.s).data.toList (l.drop (k + 1)) = Q) := by
            unfold Hid; rw [← hpq]; simp
          rw [ho] at q0
          have hcat : (P ++ r.s).size = P.size + r.s.size := ByteArray.size_append
          clear hpq hrG
          go_wp2
          go_roundg (l.length + 1 - (k + 1))
          case measure => omega
          case rel => exact ⟨k + 1, last, true, P ++ r.s, p, rfl, by omega, by go_num, rfl, rfl, rfl, by omega, by omega, (fun _ => HN.out), (fun h => by omega), HO.out, HB.out⟩
        | true =>
          have hg := hrG.1 ho
          rw [ho, if_pos rfl] at hpq
          rw [ho] at q0
          by_cases hop : op = true ∨ last < r.f
          · rw [if_pos hop] at hpq
            have hPb : (⟨P.data.toList.toArray⟩ : ByteArray) = P := by apply bytes_ext; simp
            rw [hPb] at hpq
            have HN : Hid (p ++ [⟨last, r.f, P⟩] ++ lq size r.t false [] (l.drop (k + 1)) = Q) := by
              unfold Hid; rw [← hpq]; simp
            clear hpq hrG hPb
            rcases hop with hop | hop
            · subst hop
              go_wp2_with (first | (at_builtin; (refine wpList_append_own_any _ rfl (.tmp 46) (.tmp 51) 22 rfl w.heap.size 45 i0 (.agg #[.int .i64 0, .int .i64 0, .string ⟨#[]⟩]) 3 32 Tryd.underlying22 hi0 hz0 hz1 hz2 rfl (by decide) _ _ _ rfl (HO.out.alloc _) (some ⟨wr.heap.size, 0, none⟩) 1 1 (flat [⟨last, r.f, P⟩]) rfl (by rfl) (fun h => by cases h) (fun ad had => by cases had; exact cells_new wr (flat [⟨last, r.f, P⟩]) 45) (flat_oneCell _) (by unfold maxLen; omega) (by omega) (by have := HB.out.size; simp; omega) ?_); intro v9 w9 hown9 hgrow9; have HB9 : Hid (Below w.heap.size w w9) := (HB.out.alloc HB.out.size _).grown hgrow9 (by have := HB.out.size; simp; omega) (fun g h => (HO.out.lt g h).1); have HO9 : Hid (w9.ownsRow w.heap.size 45 3 v9 (p ++ ([⟨last, r.f, P⟩] : List Ed)).length (flat (p ++ ([⟨last, r.f, P⟩] : List Ed)))) := (by unfold Hid; rw [flat_append, List.length_append]; exact hown9); clear hown9 hgrow9 q0 q1 q2 q3; obtain ⟨q0, q1, q2, q3⟩ := HE.out.cells HB9.out HR.out; rw [ho] at q0))
              go_roundg (l.length + 1 - (k + 1))
              case measure => omega
              case rel => exact ⟨k + 1, r.t, false, ⟨#[]⟩, p ++ [⟨last, r.f, P⟩], rfl, by omega, by go_num, rfl, rfl, rfl, by have : (⟨#[]⟩ : ByteArray).size = 0 := rfl; omega, by simp; omega, (fun _ => HN.out), (fun h => by omega), HO9.out, HB9.out⟩
            · cases op
              · go_wp2_with (first | (at_builtin; (refine wpList_append_own_any _ rfl (.tmp 46) (.tmp 51) 22 rfl w.heap.size 45 i0 (.agg #[.int .i64 0, .int .i64 0, .string ⟨#[]⟩]) 3 32 Tryd.underlying22 hi0 hz0 hz1 hz2 rfl (by decide) _ _ _ rfl (HO.out.alloc _) (some ⟨wr.heap.size, 0, none⟩) 1 1 (flat [⟨last, r.f, P⟩]) rfl (by rfl) (fun h => by cases h) (fun ad had => by cases had; exact cells_new wr (flat [⟨last, r.f, P⟩]) 45) (flat_oneCell _) (by unfold maxLen; omega) (by omega) (by have := HB.out.size; simp; omega) ?_); intro v9 w9 hown9 hgrow9; have HB9 : Hid (Below w.heap.size w w9) := (HB.out.alloc HB.out.size _).grown hgrow9 (by have := HB.out.size; simp; omega) (fun g h => (HO.out.lt g h).1); have HO9 : Hid (w9.ownsRow w.heap.size 45 3 v9 (p ++ ([⟨last, r.f, P⟩] : List Ed)).length (flat (p ++ ([⟨last, r.f, P⟩] : List Ed)))) := (by unfold Hid; rw [flat_append, List.length_append]; exact hown9); clear hown9 hgrow9 q0 q1 q2 q3; obtain ⟨q0, q1, q2, q3⟩ := HE.out.cells HB9.out HR.out; rw [ho] at q0))
                go_roundg (l.length + 1 - (k + 1))
                case measure => omega
                case rel => exact ⟨k + 1, r.t, false, ⟨#[]⟩, p ++ [⟨last, r.f, P⟩], rfl, by omega, by go_num, rfl, rfl, rfl, by have : (⟨#[]⟩ : ByteArray).size = 0 := rfl; omega, by simp; omega, (fun _ => HN.out), (fun h => by omega), HO9.out, HB9.out⟩
              · go_wp2_with (first | (at_builtin; (refine wpList_append_own_any _ rfl (.tmp 46) (.tmp 51) 22 rfl w.heap.size 45 i0 (.agg #[.int .i64 0, .int .i64 0, .string ⟨#[]⟩]) 3 32 Tryd.underlying22 hi0 hz0 hz1 hz2 rfl (by decide) _ _ _ rfl (HO.out.alloc _) (some ⟨wr.heap.size, 0, none⟩) 1 1 (flat [⟨last, r.f, P⟩]) rfl (by rfl) (fun h => by cases h) (fun ad had => by cases had; exact cells_new wr (flat [⟨last, r.f, P⟩]) 45) (flat_oneCell _) (by unfold maxLen; omega) (by omega) (by have := HB.out.size; simp; omega) ?_); intro v9 w9 hown9 hgrow9; have HB9 : Hid (Below w.heap.size w w9) := (HB.out.alloc HB.out.size _).grown hgrow9 (by have := HB.out.size; simp; omega) (fun g h => (HO.out.lt g h).1); have HO9 : Hid (w9.ownsRow w.heap.size 45 3 v9 (p ++ ([⟨last, r.f, P⟩] : List Ed)).length (flat (p ++ ([⟨last, r.f, P⟩] : List Ed)))) := (by unfold Hid; rw [flat_append, List.length_append]; exact hown9); clear hown9 hgrow9 q0 q1 q2 q3; obtain ⟨q0, q1, q2, q3⟩ := HE.out.cells HB9.out HR.out; rw [ho] at q0))
                go_roundg (l.length + 1 - (k + 1))
                case measure => omega
                case rel => exact ⟨k + 1, r.t, false, ⟨#[]⟩, p ++ [⟨last, r.f, P⟩], rfl, by omega, by go_num, rfl, rfl, rfl, by have : (⟨#[]⟩ : ByteArray).size = 0 := rfl; omega, by simp; omega, (fun _ => HN.out), (fun h => by omega), HO9.out, HB9.out⟩
          · rw [if_neg hop] at hpq
            have HN : Hid (p ++ lq size r.t false [] (l.drop (k + 1)) = Q) := hpq
            have hof : op = false := Bool.eq_false_iff.2 (fun h => hop (.inl h))
            subst hof
            have hlf : ¬ last < r.f := fun h => hop (.inr h)
            clear hpq hrG hop
            go_wp2
            go_roundg (l.length + 1 - (k + 1))
            case measure => omega
            case rel => exact ⟨k + 1, r.t, false, ⟨#[]⟩, p, rfl, by omega, by go_num, rfl, rfl, rfl, by have : (⟨#[]⟩ : ByteArray).size = 0 := rfl; omega, by omega, (fun _ => HN.out), (fun h => by omega), HO.out, HB.out⟩
      · have hlt' : ¬ (k : Int) < (l.length : Int) := by omega
        rw [List.drop_eq_nil_of_le (by omega), lq] at hpq
        have hPb : (⟨P.data.toList.toArray⟩ : ByteArray) = P := by apply bytes_ext; simp
        rw [hPb] at hpq
        have hd1 : tR (l.drop (k + 1)) = 0 := by rw [List.drop_eq_nil_of_le (by omega)]; rfl
        by_cases hop : op = true ∨ last < size
        · rw [if_pos hop] at hpq
          have HN : Hid (p ++ [⟨last, size, P⟩] = Q) := hpq
          clear hpq hPb
          rcases hop with hop | hop
          · subst hop
            go_wp2_with (first | (at_builtin; (refine wpList_append_own_any _ rfl (.tmp 46) (.tmp 51) 22 rfl w.heap.size 45 i0 (.agg #[.int .i64 0, .int .i64 0, .string ⟨#[]⟩]) 3 32 Tryd.underlying22 hi0 hz0 hz1 hz2 rfl (by decide) _ _ _ rfl (HO.out.alloc _) (some ⟨wr.heap.size, 0, none⟩) 1 1 (flat [⟨last, size, P⟩]) rfl (by rfl) (fun h => by cases h) (fun ad had => by cases had; exact cells_new wr (flat [⟨last, size, P⟩]) 45) (flat_oneCell _) (by unfold maxLen; omega) (by omega) (by have := HB.out.size; simp; omega) ?_); intro v9 w9 hown9 hgrow9; have HB9 : Hid (Below w.heap.size w w9) := (HB.out.alloc HB.out.size _).grown hgrow9 (by have := HB.out.size; simp; omega) (fun g h => (HO.out.lt g h).1); have HO9 : Hid (w9.ownsRow w.heap.size 45 3 v9 (p ++ ([⟨last, size, P⟩] : List Ed)).length (flat (p ++ ([⟨last, size, P⟩] : List Ed)))) := (by unfold Hid; rw [flat_append, List.length_append]; exact hown9); clear hown9 hgrow9))
            go_roundg (l.length + 1 - (k + 1))
            case measure => omega
            case rel => exact ⟨k + 1, last, false, ⟨#[]⟩, p ++ [⟨last, size, P⟩], rfl, by omega, by go_num, rfl, rfl, rfl, by have : (⟨#[]⟩ : ByteArray).size = 0 := rfl; omega, by simp; omega, (fun h => by omega), (fun _ => HN.out), HO9.out, HB9.out⟩
          · cases op
            · go_wp2_with (first | (at_builtin; (refine wpList_append_own_any _ rfl (.tmp 46) (.tmp 51) 22 rfl w.heap.size 45 i0 (.agg #[.int .i64 0, .int .i64 0, .string ⟨#[]⟩]) 3 32 Tryd.underlying22 hi0 hz0 hz1 hz2 rfl (by decide) _ _ _ rfl (HO.out.alloc _) (some ⟨wr.heap.size, 0, none⟩) 1 1 (flat [⟨last, size, P⟩]) rfl (by rfl) (fun h => by cases h) (fun ad had => by cases had; exact cells_new wr (flat [⟨last, size, P⟩]) 45) (flat_oneCell _) (by unfold maxLen; omega) (by omega) (by have := HB.out.size; simp; omega) ?_); intro v9 w9 hown9 hgrow9; have HB9 : Hid (Below w.heap.size w w9) := (HB.out.alloc HB.out.size _).grown hgrow9 (by have := HB.out.size; simp; omega) (fun g h => (HO.out.lt g h).1); have HO9 : Hid (w9.ownsRow w.heap.size 45 3 v9 (p ++ ([⟨last, size, P⟩] : List Ed)).length (flat (p ++ ([⟨last, size, P⟩] : List Ed)))) := (by unfold Hid; rw [flat_append, List.length_append]; exact hown9); clear hown9 hgrow9))
              go_roundg (l.length + 1 - (k + 1))
              case measure => omega
              case rel => exact ⟨k + 1, last, false, ⟨#[]⟩, p ++ [⟨last, size, P⟩], rfl, by omega, by go_num, rfl, rfl, rfl, by have : (⟨#[]⟩ : ByteArray).size = 0 := rfl; omega, by simp; omega, (fun h => by omega), (fun _ => HN.out), HO9.out, HB9.out⟩
            · go_wp2_with (first | (at_builtin; (refine wpList_append_own_any _ rfl (.tmp 46) (.tmp 51) 22 rfl w.heap.size 45 i0 (.agg #[.int .i64 0, .int .i64 0, .string ⟨#[]⟩]) 3 32 Tryd.underlying22 hi0 hz0 hz1 hz2 rfl (by decide) _ _ _ rfl (HO.out.alloc _) (some ⟨wr.heap.size, 0, none⟩) 1 1 (flat [⟨last, size, P⟩]) rfl (by rfl) (fun h => by cases h) (fun ad had => by cases had; exact cells_new wr (flat [⟨last, size, P⟩]) 45) (flat_oneCell _) (by unfold maxLen; omega) (by omega) (by have := HB.out.size; simp; omega) ?_); intro v9 w9 hown9 hgrow9; have HB9 : Hid (Below w.heap.size w w9) := (HB.out.alloc HB.out.size _).grown hgrow9 (by have := HB.out.size; simp; omega) (fun g h => (HO.out.lt g h).1); have HO9 : Hid (w9.ownsRow w.heap.size 45 3 v9 (p ++ ([⟨last, size, P⟩] : List Ed)).length (flat (p ++ ([⟨last, size, P⟩] : List Ed)))) := (by unfold Hid; rw [flat_append, List.length_append]; exact hown9); clear hown9 hgrow9))
              go_roundg (l.length + 1 - (k + 1))
              case measure => omega
              case rel => exact ⟨k + 1, last, false, ⟨#[]⟩, p ++ [⟨last, size, P⟩], rfl, by omega, by go_num, rfl, rfl, rfl, by have : (⟨#[]⟩ : ByteArray).size = 0 := rfl; omega, by simp; omega, (fun h => by omega), (fun _ => HN.out), HO9.out, HB9.out⟩
        · rw [if_neg hop, List.append_nil] at hpq
          have HN : Hid (p = Q) := hpq
          have hof : op = false := Bool.eq_false_iff.2 (fun h => hop (.inl h))
          subst hof
          have hlf : ¬ last < size := fun h => hop (.inr h)
          clear hpq hop
          go_wp2
          go_roundg (l.length + 1 - (k + 1))
          case measure => omega
          case rel => exact ⟨k + 1, last, false, ⟨#[]⟩, p, rfl, by omega, by go_num, rfl, rfl, rfl, by have : (⟨#[]⟩ : ByteArray).size = 0 := rfl; omega, by omega, (fun h => by omega), (fun _ => HN.out), HO.out, HB.out⟩
end Go.Proofs.YteolfolkolpehaaDoor
