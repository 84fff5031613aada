import Derived.Test.YtphejjghgalkpaaDoorMd1
import Derived.Test.YtphejjghgalkpaaDoorLxs
import Derived.Lib.Strings
import Derived.Laws.Cover1
namespace Go.Proofs.YtphejjghgalkpaaDoor
open Go.ChangeShapes Go.WideShapes Go.ChangeAt Go.RowKit Go.Maps Go.WideMaps
set_option linter.unusedVariables false
set_option linter.unusedSimpArgs false

/-- the bytes of a gap -/
def gpb (g : Nat) : List UInt8 := byC (gch g)
theorem wrapU (b : Int) : 0 ≤ IntKind.u64.wrap b ∧ IntKind.u64.wrap b < 18446744073709551616 := by
  have e : IntKind.u64.wrap b = b % 18446744073709551616 := by first | rfl | (unfold IntKind.wrap; rfl) | (simp [IntKind.wrap])
  rw [e]
  exact ⟨Int.emod_nonneg _ (by decide), Int.emod_lt_of_pos _ (by decide)⟩
/-- which gap, which word -/
def gpi (b : Int) : Nat := ((IntKind.u64.wrap b).tmod 6).toNat
def wdi (a : Int) : Nat := ((IntKind.u64.wrap a).tmod 90).toNat
theorem gpi_eq (b : Int) : (IntKind.u64.wrap b).tmod 6 = (gpi b : Int) ∧ gpi b < 6 := by
  obtain ⟨h1, h2⟩ := wrapU b
  have h3 := Int.tmod_nonneg 6 h1
  have h4 := Int.tmod_lt_of_pos (IntKind.u64.wrap b) (show (0 : Int) < 6 by decide)
  unfold gpi
  omega
theorem wdi_eq (a : Int) : (IntKind.u64.wrap a).tmod 90 = (wdi a : Int) ∧ wdi a < 90 := by
  obtain ⟨h1, h2⟩ := wrapU a
  have h3 := Int.tmod_nonneg 90 h1
  have h4 := Int.tmod_lt_of_pos (IntKind.u64.wrap a) (show (0 : Int) < 90 by decide)
  unfold wdi
  omega
set_option maxRecDepth 1000000 in
set_option maxHeartbeats 8000000 in
theorem gap_any (a b : Int) (w : World) :
    Calls Tryd.prog 9 #[.agg #[.int .i64 a, .int .i64 b]] w fun e w' => e = .returned (.tuple #[.string (sq (gpb (gpi b))), .bool (gln (gpi b))]) ∧ Below w.heap.size w w' := by
  obtain ⟨w2, e2, hb2, hs2, B2⟩ := bx1 w #[.int .i64 a, .int .i64 b] 36
  have HB2 : Hid (Below w.heap.size w w2) := hb2
  have k1 := B2.cell 1
  have kz := B2.lt
  simp at k1
  obtain ⟨hg, hg6⟩ := gpi_eq b
  generalize gpi b = g at hg hg6 ⊢
  have h6 : g = 0 ∨ g = 1 ∨ g = 2 ∨ g = 3 ∨ g = 4 ∨ g = 5 := by omega
  clear hb2 hs2 B2 hg6
  rcases h6 with rfl | rfl | rfl | rfl | rfl | rfl
  · have h : (IntKind.u64.wrap b).tmod 6 = 0 := hg
    clear hg
    go_enter Tryd.func9, Tryd.ntmps9
    go_wp2
    go_ret2
    exact ⟨rfl, HB2.out⟩
  · have h : (IntKind.u64.wrap b).tmod 6 = 1 := hg
    clear hg
    go_enter Tryd.func9, Tryd.ntmps9
    go_wp2
    go_ret2
    exact ⟨rfl, HB2.out⟩
  · have h : (IntKind.u64.wrap b).tmod 6 = 2 := hg
    clear hg
    go_enter Tryd.func9, Tryd.ntmps9
    go_wp2
    go_ret2
    exact ⟨rfl, HB2.out⟩
  · have h : (IntKind.u64.wrap b).tmod 6 = 3 := hg
    clear hg
    go_enter Tryd.func9, Tryd.ntmps9
    go_wp2
    go_ret2
    exact ⟨rfl, HB2.out⟩
  · have h : (IntKind.u64.wrap b).tmod 6 = 4 := hg
    clear hg
    go_enter Tryd.func9, Tryd.ntmps9
    go_wp2
    go_ret2
    exact ⟨rfl, HB2.out⟩
  · have h : (IntKind.u64.wrap b).tmod 6 = 5 := hg
    clear hg
    go_enter Tryd.func9, Tryd.ntmps9
    go_wp2
    go_ret2
    exact ⟨rfl, HB2.out⟩
theorem sq_toList (l : List UInt8) : (sq l).toList = l := by
  rw [show (sq l).toList = (sq l).data.toList from by first | rfl | simp [ByteArray.toList_eq] | exact Lib.toList_eq _]
  show l.toArray.toList = l
  simp
theorem lit_own (v : World) (l : List UInt8) (hl : l.length ≤ 100) : (v.alloc (.cells (bc l).toArray 5)).ownsRow v.heap.size 5 1 (.slice (some ⟨v.heap.size, 0, none⟩) l.length l.length) l.length (bc l) := by
  have h := World.ownsRow_lit (e := 5) (size := 1) v (bc l).toArray l.length (Nat.le_refl _) (by unfold maxLen; omega) (by simp [bc])
  simpa using h
set_option maxRecDepth 1000000 in
set_option maxHeartbeats 8000000 in
theorem spelt_any (a b : Int) (w : World) :
    Calls Tryd.prog 8 #[.agg #[.int .i64 a, .int .i64 b]] w fun e w' => e = .returned (.tuple #[.string (sq (wrd (wdi a))), .int .u8 (wkd (wdi a) : Int)]) ∧ Below w.heap.size w w' := by
  obtain ⟨w2, e2, hb2, hs2, B2⟩ := bx1 w #[.int .i64 a, .int .i64 b] 36
  have HB2 : Hid (Below w.heap.size w w2) := hb2
  have k0 := B2.cell 0
  have kz := B2.lt
  simp at k0
  obtain ⟨hn, hn90⟩ := wdi_eq a
  generalize wdi a = n at hn hn90 ⊢
  have hsp := rSpell_any (n + 7) w2 (by omega)
  clear hb2 hs2 B2
  by_cases h73 : n < 73
  · have e1 : wrd n = spR (n + 7) := by unfold wrd; rw [if_pos h73]
    have e2 : wkd n = n + 7 := by unfold wkd; rw [if_pos h73]
    have hne := (wrd_ok n 0 hn90).ne
    rw [e1, e2]
    simp only [e1] at hne
    generalize spR (n + 7) = S at hsp hne ⊢
    have HSP : Hid (Calls Tryd.prog 20 #[.int .i64 ((n : Int) + 7)] w2 fun e w' => e = .returned (.string (sq S)) ∧ Below w2.heap.size w2 w') := hsp
    have hE : (sq S).toList.isEmpty = false := by rw [sq_toList]; cases S with | nil => exact absurd rfl hne | cons c r => rfl
    clear hsp e1 e2 hne
    go_enter Tryd.func8, Tryd.ntmps8
    go_wp2_with (go_at_call 20; (with_reducible refine HSP.out.mono ?_); rintro e w3 ⟨rfl, hb3⟩; have HB3 : Hid (Below w.heap.size w w3) := HB2.out.trans (hb3.mono HB2.out.size); clear hb3)
    go_ret2
    exact ⟨rfl, HB3.out⟩
  · rw [spR_80 (n + 7) (by omega)] at hsp
    have HSP : Hid (Calls Tryd.prog 20 #[.int .i64 ((n : Int) + 7)] w2 fun e w' => e = .returned (.string ⟨#[]⟩) ∧ Below w2.heap.size w2 w') := hsp
    have hE : (⟨#[]⟩ : ByteArray).toList.isEmpty = true := by rw [show (⟨#[]⟩ : ByteArray) = sq [] from rfl, sq_toList]; rfl
    have h7 : n % 7 = 0 ∨ n % 7 = 1 ∨ n % 7 = 2 ∨ n % 7 = 3 ∨ n % 7 = 4 ∨ n % 7 = 5 ∨ n % 7 = 6 := by omega
    clear hsp
    rcases h7 with q | q | q | q | q | q | q
    · have e1 : wrd n = [120, UInt8.ofNat (97 + n % 26)] := by unfold wrd; rw [if_neg h73, q]; rfl
      have e2 : wkd n = 2 := by unfold wkd; rw [if_neg h73, q]; rfl
      rw [e1, e2]
      have hq : (n : Int) % 7 = 0 := by omega
      have hm : n % 26 < 26 := by omega
      have hbc : bc [UInt8.ofNat (97 + n % 26)] = [.int .u8 (97 + (n : Int) % 26)] := by
        show [Value.int .u8 ((UInt8.ofNat (97 + n % 26)).toNat : Nat)] = _
        rw [show (UInt8.ofNat (97 + n % 26)).toNat = 97 + n % 26 from by rw [UInt8.toNat_ofNat']; omega]
        simp
      obtain ⟨c, hc⟩ : ∃ c, UInt8.ofNat (97 + n % 26) = c := ⟨_, rfl⟩
      rw [hc] at hbc ⊢
      have hcv : ∀ v : World, (convert 59 9 (.slice (some ⟨v.heap.size, 0, none⟩) 1 1)).run Tryd.prog (v.alloc (.cells #[.int .u8 (97 + (n : Int) % 26)] 5)) = .ok (.string (sq [c])) (v.alloc (.cells #[.int .u8 (97 + (n : Int) % 26)] 5)) := fun v => by
        have h := lit_own v [c] (by simp)
        rw [hbc] at h
        have h2 := own_string (l := [c]) (by rw [hbc]; exact h)
        exact h2
      have hcat : (⟨#[120]⟩ : ByteArray) ++ sq [c] = sq [120, c] := by ext1; simp [sq]
      clear e1 e2 hc hbc
      go_enter Tryd.func8, Tryd.ntmps8
      go_wp2_with (go_at_call 20; (with_reducible refine HSP.out.mono ?_); rintro e w3 ⟨rfl, hb3⟩; have HB3 : Hid (Below w.heap.size w w3) := HB2.out.trans (hb3.mono HB2.out.size); clear hb3)
      go_ret2
      exact ⟨rfl, HB3.out.alloc HB3.out.size _⟩
    · have e1 : wrd n = [95] := by unfold wrd; rw [if_neg h73, q]; rfl
      have e2 : wkd n = 2 := by unfold wkd; rw [if_neg h73, q]; rfl
      rw [e1, e2]
      have hq : (n : Int) % 7 = 1 := by omega
      clear e1 e2
      go_enter Tryd.func8, Tryd.ntmps8
      go_wp2_with (go_at_call 20; (with_reducible refine HSP.out.mono ?_); rintro e w3 ⟨rfl, hb3⟩; have HB3 : Hid (Below w.heap.size w w3) := HB2.out.trans (hb3.mono HB2.out.size); clear hb3)
      go_ret2
      exact ⟨rfl, HB3.out⟩
    · have e1 : wrd n = [48, 120, 95, 49, 70] := by unfold wrd; rw [if_neg h73, q]; rfl
      have e2 : wkd n = 3 := by unfold wkd; rw [if_neg h73, q]; rfl
      rw [e1, e2]
      have hq : (n : Int) % 7 = 2 := by omega
      clear e1 e2
      go_enter Tryd.func8, Tryd.ntmps8
      go_wp2_with (go_at_call 20; (with_reducible refine HSP.out.mono ?_); rintro e w3 ⟨rfl, hb3⟩; have HB3 : Hid (Below w.heap.size w w3) := HB2.out.trans (hb3.mono HB2.out.size); clear hb3)
      go_ret2
      exact ⟨rfl, HB3.out⟩
    · have e1 : wrd n = [39, 92, 39, 39] := by unfold wrd; rw [if_neg h73, q]; rfl
      have e2 : wkd n = 4 := by unfold wkd; rw [if_neg h73, q]; rfl
      rw [e1, e2]
      have hq : (n : Int) % 7 = 3 := by omega
      clear e1 e2
      go_enter Tryd.func8, Tryd.ntmps8
      go_wp2_with (go_at_call 20; (with_reducible refine HSP.out.mono ?_); rintro e w3 ⟨rfl, hb3⟩; have HB3 : Hid (Below w.heap.size w w3) := HB2.out.trans (hb3.mono HB2.out.size); clear hb3)
      go_ret2
      exact ⟨rfl, HB3.out⟩
    · have e1 : wrd n = [34, 97, 92, 110, 34] := by unfold wrd; rw [if_neg h73, q]; rfl
      have e2 : wkd n = 5 := by unfold wkd; rw [if_neg h73, q]; rfl
      rw [e1, e2]
      have hq : (n : Int) % 7 = 4 := by omega
      clear e1 e2
      go_enter Tryd.func8, Tryd.ntmps8
      go_wp2_with (go_at_call 20; (with_reducible refine HSP.out.mono ?_); rintro e w3 ⟨rfl, hb3⟩; have HB3 : Hid (Below w.heap.size w w3) := HB2.out.trans (hb3.mono HB2.out.size); clear hb3)
      go_ret2
      exact ⟨rfl, HB3.out⟩
    · have e1 : wrd n = [57, 48] := by unfold wrd; rw [if_neg h73, q]; rfl
      have e2 : wkd n = 3 := by unfold wkd; rw [if_neg h73, q]; rfl
      rw [e1, e2]
      have hq : (n : Int) % 7 = 5 := by omega
      clear e1 e2
      go_enter Tryd.func8, Tryd.ntmps8
      go_wp2_with (go_at_call 20; (with_reducible refine HSP.out.mono ?_); rintro e w3 ⟨rfl, hb3⟩; have HB3 : Hid (Below w.heap.size w w3) := HB2.out.trans (hb3.mono HB2.out.size); clear hb3)
      go_ret2
      exact ⟨rfl, HB3.out⟩
    · have e1 : wrd n = [96, 10, 96] := by unfold wrd; rw [if_neg h73, q]; rfl
      have e2 : wkd n = 5 := by unfold wkd; rw [if_neg h73, q]; rfl
      rw [e1, e2]
      have hq : (n : Int) % 7 = 6 := by omega
      have hcv : ∀ v : World, (convert 59 9 (.slice (some ⟨v.heap.size, 0, none⟩) 3 3)).run Tryd.prog (v.alloc (.cells #[.int .u8 96, .int .u8 10, .int .u8 96] 5)) = .ok (.string (sq [96, 10, 96])) (v.alloc (.cells #[.int .u8 96, .int .u8 10, .int .u8 96] 5)) := fun v => own_string (lit_own v [96, 10, 96] (by simp))
      clear e1 e2
      go_enter Tryd.func8, Tryd.ntmps8
      go_wp2_with (go_at_call 20; (with_reducible refine HSP.out.mono ?_); rintro e w3 ⟨rfl, hb3⟩; have HB3 : Hid (Below w.heap.size w w3) := HB2.out.trans (hb3.mono HB2.out.size); clear hb3)
      go_ret2
      exact ⟨rfl, HB3.out.alloc HB3.out.size _⟩
end Go.Proofs.YtphejjghgalkpaaDoor
