import Derived.Test.YteolfolkolpehaaDoorRl
import Derived.Test.YteolfolkolpehaaDoorCm6
namespace Go.Proofs.YteolfolkolpehaaDoor
open Go.ChangeShapes Go.WideShapes Go.ChangeAt Go.RowKit
set_option linter.unusedVariables false

theorem numA_ge (s : ByteArray) (p : Nat) : p ≤ (numA s p).2.1 := by
  unfold numA
  split
  · show p ≤ p + 1; omega
  · split
    · show p ≤ p + 1 + _; omega
    · show p ≤ p + _; omega
theorem line_on {s : ByteArray} {p : Nat} {E : Ed} {Q : Nat} (h : lineA s p = (E, Q, true)) : p < Q ∧ Q ≤ s.size := by
  have g1 := numA_ge s p
  have g2 := numA_ge s ((numA s p).2.1 + 1)
  unfold lineA at h
  split at h
  · split at h
    · split at h
      · split at h
        · rename_i h4
          simp only [Prod.mk.injEq] at h
          have := isAt_lt (Bool.and_eq_true_iff.1 h4).2
          omega
        · simp at h
      · simp at h
    · simp at h
  · simp at h

/-- what Parse answers from p on, with l read: the list, the number of the fault, its place -/
def prs (s : ByteArray) : Nat → Nat → List Ed → List Ed × Int × Nat
  | 0, _, l => (l, 0, 0)
  | m + 1, p, l => if p < s.size then (if l.length = 65536 then ([], 2, p) else if (lineA s p).2.2 then prs s m (lineA s p).2.1 (l ++ [(lineA s p).1]) else ([], 12, (lineA s p).2.1)) else (l, 0, 0)
theorem prs_fuel (s : ByteArray) : ∀ (m p : Nat) (l : List Ed), s.size - p ≤ m → prs s m p l = prs s (s.size - p) p l
  | 0, p, l, h => by rw [show s.size - p = 0 by omega]
  | m + 1, p, l, h => by
    by_cases hp : p < s.size
    · obtain ⟨k, hk⟩ : ∃ k, s.size - p = k + 1 := ⟨s.size - p - 1, by omega⟩
      rw [hk, prs, prs, if_pos hp, if_pos hp]
      cases ho : (lineA s p).2.2
      · rfl
      · have h1 := line_on (E := (lineA s p).1) (Q := (lineA s p).2.1) (show lineA s p = (_, _, true) by rw [← ho])
        rw [prs_fuel s m _ _ (by omega), prs_fuel s k _ _ (by omega)]
    · rw [show s.size - p = 0 by omega, show prs s 0 p l = (l, 0, 0) from rfl]
      conv => lhs; unfold prs
      rw [if_neg hp]
theorem prs_next {s : ByteArray} {p : Nat} {l : List Ed} {E : Ed} {Q : Nat} (hp : p < s.size) (hl : l.length ≠ 65536) (h : lineA s p = (E, Q, true)) : prs s (s.size - p) p l = prs s (s.size - Q) Q (l ++ [E]) := by
  obtain ⟨k, hk⟩ : ∃ k, s.size - p = k + 1 := ⟨s.size - p - 1, by omega⟩
  have h1 := line_on h
  rw [hk, prs, if_pos hp, if_neg hl, h]
  exact prs_fuel s k Q _ (by omega)
theorem prs_many {s : ByteArray} {p : Nat} {l : List Ed} (hp : p < s.size) (hl : l.length = 65536) : prs s (s.size - p) p l = ([], 2, p) := by
  obtain ⟨k, hk⟩ : ∃ k, s.size - p = k + 1 := ⟨s.size - p - 1, by omega⟩
  rw [hk, prs, if_pos hp, if_pos hl]
theorem prs_bad {s : ByteArray} {p : Nat} {l : List Ed} {E : Ed} {Q : Nat} (hp : p < s.size) (hl : l.length ≠ 65536) (h : lineA s p = (E, Q, false)) : prs s (s.size - p) p l = ([], 12, Q) := by
  obtain ⟨k, hk⟩ : ∃ k, s.size - p = k + 1 := ⟨s.size - p - 1, by omega⟩
  rw [hk, prs, if_pos hp, if_neg hl, h]
  rfl
theorem prs_end {s : ByteArray} {p : Nat} {l : List Ed} (hp : ¬ p < s.size) : prs s (s.size - p) p l = (l, 0, 0) := by
  rw [show s.size - p = 0 by omega]; rfl

theorem cells_new2 (w : World) (o : Obj) (e : Ed) : ∀ j u, (flat [e])[j]? = some u → ((w.alloc o).alloc (.cells #[.int .i64 e.f, .int .i64 e.t, .string e.s] 45)).cell? ((⟨w.heap.size + 1, 0, none⟩ : Addr).add j) = some u := by
  have := cells_new (w.alloc o) (flat [e]) 45
  rw [show (w.alloc o).heap.size = w.heap.size + 1 by simp] at this
  exact this
theorem own_baseP {w : World} {base b' e size n : Nat} {v : Value} {xs : List Value} (h : w.ownsRow base e size v n xs) (hb : b' ≤ base) : w.ownsRow b' e size v n xs := by
  refine ⟨h.1, ?_⟩
  rcases h.2 with h' | ⟨q, cap, cur, h1, h2, h3⟩
  · exact .inl h'
  · exact .inr ⟨q, cap, cur, h1, by omega, h3⟩

set_option maxRecDepth 1000000 in
set_option maxHeartbeats 2000000 in
theorem parse_any (s : ByteArray) (v : World) (hs : s.size ≤ 140737488351232) (L : List Ed) (E : Int) (P : Nat) (hq : prs s s.size 0 [] = (L, E, P)) :
    Calls Tryd.prog 9 #[.string s] v fun e w' => ∃ u, e = .returned (.tuple #[u, .int .i64 E, .int .i64 (P : Nat)]) ∧ w'.ownsRow v.heap.size 45 3 u L.length (flat L) ∧ Below v.heap.size v w' := by
  obtain ⟨i0, hi0, hz0, hz1, hz2⟩ := info_parts infoEd
  have HQ : Hid (prs s s.size 0 [] = (L, E, P)) := hq
  clear hq
  go_enter Tryd.func9, Tryd.ntmps9
  go_wp2
  go_loopg [5] s.size (fun gk so wr => ∃ (p : Nat) (l : List Ed), gk = s.size - p ∧ p ≤ s.size ∧ l.length ≤ 65536 ∧ prs s (s.size - p) p l = (L, E, P) ∧ wr.ownsRow (v.heap.size + 1) 45 3 so l.length (flat l) ∧ Rdr wr v.heap.size s (p : Nat) ∧ Below v.heap.size v wr ∧ v.heap.size + 1 ≤ wr.heap.size)
  case atStart => exact ⟨0, [], rfl, Nat.zero_le _, Nat.zero_le _, HQ.out, World.ownsRow_nil _ _ _ _, Rdr.new v s 0, (Below.refl _ v).alloc (Nat.le_refl _) _, by simp⟩
  case round =>
    obtain ⟨p, l, rfl, hp, hll, hpr, hown, hrd, hbel, hsz⟩ := hrel
    clear HQ
    have HQ : Hid (prs s (s.size - p) p l = (L, E, P)) := hpr
    have HO : Hid (wr.ownsRow (v.heap.size + 1) 45 3 u5 l.length (flat l)) := hown
    have HR : Hid (Rdr wr v.heap.size s (p : Nat)) := hrd
    have HB : Hid (Below v.heap.size v wr) := hbel
    have c1 := hrd.c1
    obtain ⟨a5, k5, rfl, -, -, -⟩ := own_form hown
    clear hpr hown hrd hbel
    by_cases hps : p < s.size
    · have hps' : (p : Int) < (s.size : Int) := by omega
      by_cases h65 : l.length = 65536
      · have h65' : ((l.length : Int) == 65536) = true := by rw [h65]; rfl
        have HE : Hid (L = [] ∧ E = 2 ∧ P = p) := by
          have := HQ.out
          rw [prs_many hps h65] at this
          simp only [Prod.mk.injEq] at this
          exact ⟨this.1.symm, this.2.1.symm, this.2.2.symm⟩
        clear HQ h65
        go_upto_region 5 with fail
        clear c1
        obtain ⟨X, F, hX, hF, onto⟩ := class_of (fun x => Below wr.heap.size wr x) (Below.refl _ wr)
        have HF : Hid (∀ y, Below wr.heap.size wr (F y)) := hF
        have HOn : Hid (∀ x, Below wr.heap.size wr x → ∃ y, x = F y) := fun x h => by obtain ⟨y, hy⟩ := onto x h; exact ⟨y, hy.symm⟩
        have c1 := fun y => (HR.out.below (hF y) HR.out.lt).c1
        clear hF onto
        go_upto_region 5 with fail
        refine region_class F (by kernel_rfl) (by kernel_rfl) (by obtain ⟨x, hx⟩ := HOn.out _ (Below.refl _ _).drew; exact ⟨x, hx.symm⟩) ?_
        repeat (go_big_quiet_step (fail))
        refine wpQuiet_nil ?_
        rintro _ ⟨nq, rfl⟩
        have hfn := HF.out nq
        go_wp2
        go_ret3
        refine ⟨.slice none 0 0, by rw [HE.out.2.1, HE.out.2.2]; rfl, by rw [HE.out.1]; exact World.ownsRow_nil _ _ _ _, HB.out.trans (hfn.mono HB.out.size)⟩
      · have h65' : ((l.length : Int) == 65536) = false := by rw [beq_eq_false_iff_ne]; omega
        obtain ⟨e, q, o, hle⟩ : ∃ e q o, lineA s p = (e, q, o) := ⟨_, _, _, rfl⟩
        have HL : Hid (∀ x, Rdr x v.heap.size s (p : Nat) → Calls Tryd.prog 29 #[.pointer (some ⟨v.heap.size, 0, none⟩)] x fun z w' => z = .returned (.tuple #[.agg #[.int .i64 e.f, .int .i64 e.t, .string e.s], .bool o]) ∧ Rdr w' v.heap.size s (q : Nat) ∧ Below v.heap.size x w' ∧ Btg v.heap.size x w') := fun x hx => line_any v.heap.size v.heap.size s p x hs hp (Nat.le_refl _) hx e q o hle
        cases o
        · have HE : Hid (L = [] ∧ E = 12 ∧ P = q) := by
            have := HQ.out
            rw [prs_bad hps h65 hle] at this
            simp only [Prod.mk.injEq] at this
            exact ⟨this.1.symm, this.2.1.symm, this.2.2.symm⟩
          clear HQ h65 hle
          go_wp2_with (go_at_call 29; (with_reducible refine (HL.out _ HR.out).mono ?_); rintro z w3 ⟨rfl, hr, hb, hg⟩; have R3 : Hid (Rdr w3 v.heap.size s (q : Nat)) := hr; have B3 : Hid (Below v.heap.size v w3) := HB.out.trans hb; clear hr hb hg)
          have R4 : Hid (Rdr (w3.alloc (.cells #[.int .i64 e.f, .int .i64 e.t, .string e.s] 45)) v.heap.size s (q : Nat)) := R3.out.alloc _
          have B4 : Hid (Below v.heap.size v (w3.alloc (.cells #[.int .i64 e.f, .int .i64 e.t, .string e.s] 45))) := B3.out.alloc B3.out.size _
          obtain ⟨w4, e4⟩ : ∃ w4, w3.alloc (.cells #[.int .i64 e.f, .int .i64 e.t, .string e.s] 45) = w4 := ⟨_, rfl⟩
          rw [e4] at R4 B4
          rw [e4]
          clear c1 e4
          obtain ⟨X, F, hX, hF, onto⟩ := class_of (fun x => Below w4.heap.size w4 x) (Below.refl _ w4)
          have HF : Hid (∀ y, Below w4.heap.size w4 (F y)) := hF
          have HOn : Hid (∀ x, Below w4.heap.size w4 x → ∃ y, x = F y) := fun x h => by obtain ⟨y, hy⟩ := onto x h; exact ⟨y, hy.symm⟩
          have c1 := fun y => (R4.out.below (hF y) R4.out.lt).c1
          clear hF onto
          go_upto_region 8 with fail
          refine region_class F (by kernel_rfl) (by kernel_rfl) (by obtain ⟨x, hx⟩ := HOn.out _ (Below.refl _ _).drew; exact ⟨x, hx.symm⟩) ?_
          repeat (go_big_quiet_step (fail))
          refine wpQuiet_nil ?_
          rintro _ ⟨nq, rfl⟩
          have hfn := HF.out nq
          go_wp2
          go_ret3
          refine ⟨.slice none 0 0, by rw [HE.out.2.1, HE.out.2.2]; rfl, by rw [HE.out.1]; exact World.ownsRow_nil _ _ _ _, B4.out.trans (hfn.mono B4.out.size)⟩
        · have hon := line_on hle
          have HQ2 : Hid (prs s (s.size - q) q (l ++ [e]) = (L, E, P)) := by unfold Hid; rw [← HQ.out, prs_next hps h65 hle]
          clear HQ hle
          go_wp2_with (first
            | (go_at_call 29; (with_reducible refine (HL.out _ HR.out).mono ?_); rintro z w3 ⟨rfl, hr, hb, hg⟩; have R3 : Hid (Rdr w3 v.heap.size s (q : Nat)) := hr; have B3 : Hid (Below v.heap.size v w3) := HB.out.trans hb; have O3 : Hid (w3.ownsRow (v.heap.size + 1) 45 3 (.slice a5 l.length k5) l.length (flat l)) := ownsRow_btg HO.out hg (by omega); have hs3 := hg.1; clear hr hb hg)
            | (at_builtin; (refine wpList_append_own_any _ rfl _ _ 22 rfl (v.heap.size + 1) 45 i0 (.agg #[.int .i64 0, .int .i64 0, .string ⟨#[]⟩]) 3 32 Tryd.underlying22 hi0 hz0 hz1 hz2 rfl (by decide) _ _ _ rfl ((O3.out.alloc _).alloc _) (some ⟨w3.heap.size + 1, 0, none⟩) 1 1 (flat [e]) rfl (by rfl) (fun h => by cases h) (fun ad had => by cases had; exact cells_new2 w3 _ e) (flat_oneCell _) (by unfold maxLen; omega) (by omega) (by simp; omega) ?_); intro v9 w9 hown9 hgrow9; have R9 : Hid (Rdr w9 v.heap.size s (q : Nat)) := ((R3.out.alloc _).alloc _).grown hgrow9 (fun h => by have := (O3.out.lt _ h).1; omega); have O9 : Hid (w9.ownsRow (v.heap.size + 1) 45 3 v9 (l ++ [e]).length (flat (l ++ [e]))) := (by unfold Hid; rw [flat_append, List.length_append]; exact hown9); have B9 : Hid (Below v.heap.size v w9 ∧ v.heap.size + 1 ≤ w9.heap.size) := ⟨((B3.out.alloc B3.out.size _).alloc (by have := B3.out.size; simp; omega) _).grown hgrow9 (by have := B3.out.size; simp; omega) (fun g h => by have := (O3.out.lt g h).1; omega), by have := hgrow9.size; simp at this; omega⟩; clear hown9 hgrow9))
          go_roundg (s.size - q)
          case measure => omega
          case rel => exact ⟨q, l ++ [e], rfl, hon.2, by rw [List.length_append, List.length_singleton]; omega, HQ2.out, O9.out, R9.out, B9.out⟩
    · have hps' : ¬ (p : Int) < (s.size : Int) := by omega
      have HE : Hid (L = l ∧ E = 0 ∧ P = 0) := by
        have := HQ.out
        rw [prs_end hps] at this
        simp only [Prod.mk.injEq] at this
        exact ⟨this.1.symm, this.2.1.symm, this.2.2.symm⟩
      clear HQ
      go_wp2
      go_ret3
      exact ⟨_, by rw [HE.out.2.1, HE.out.2.2]; rfl, by rw [HE.out.1]; exact own_baseP HO.out (by omega), HB.out⟩
end Go.Proofs.YteolfolkolpehaaDoor
