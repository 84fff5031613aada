import Derived.Test.YthdfccdkomfikaaDoorLy8
namespace Go.Proofs.YthdfccdkomfikaaDoor
open Go.ChangeShapes Go.WideShapes Go.ChangeAt Go.RowKit Go.Maps Go.WideMaps
set_option linter.unusedVariables false
set_option linter.unusedSimpArgs false

theorem ext_get (s : ByteArray) (p i : Nat) (h : p + i < s.size) : (s.extract p s.size).data.toList[i]? = some (s[p + i]'h) := by
  have hz : i < (s.extract p s.size).size := by rw [ByteArray.size_extract]; omega
  rw [Lib.data_getElem? _ i hz, ByteArray.getElem_extract]
theorem ext_out (s : ByteArray) (p i : Nat) (h : ¬ p + i < s.size) : (s.extract p s.size).data.toList[i]? = none := by
  apply List.getElem?_eq_none
  rw [Array.length_toList]
  show (s.extract p s.size).size ≤ i
  rw [ByteArray.size_extract]; omega
theorem pre2 (l : List UInt8) (c d : UInt8) : Lib.hasPrefix l [c, d] = (decide (l[0]? = some c) && decide (l[1]? = some d)) := by
  unfold Lib.hasPrefix
  match l with
  | [] => simp [List.isPrefixOf]
  | [a] => by_cases h : c = a <;> simp [List.isPrefixOf, h, eq_comm]
  | a :: e :: r => simp [List.isPrefixOf, beq_iff_eq, eq_comm, Bool.beq_eq_decide_eq]
theorem pre_bt (s : ByteArray) (p : Nat) (c d : UInt8) : Lib.hasPrefix (s.extract p s.size).data.toList [c, d] = decide (bt s p = c.toNat ∧ bt s (p + 1) = d.toNat) := by
  have key : ∀ (i : Nat) (c : UInt8), decide ((s.extract p s.size).data.toList[i]? = some c) = decide (bt s (p + i) = c.toNat) := by
    intro i c
    by_cases h : p + i < s.size
    · rw [ext_get s p i h, bt_in h]
      congr 1
      simp only [Option.some.injEq, eq_iff_iff]
      exact ⟨fun h => by rw [h], fun h => UInt8.toNat_inj.1 h⟩
    · rw [ext_out s p i h, bt_out h]
      have := c.toNat_lt
      simp
      omega
  rw [pre2, key 0 c, key 1 d]
  simp

set_option maxRecDepth 100000 in
set_option maxHeartbeats 2000000 in
theorem atNote_any (b : Nat) (s : ByteArray) (p : Nat) (hs : s.size ≤ 4294967280) (hp : p < s.size) (w : World) (hb : w.cell? ⟨b, 0, none⟩ = some (.string s)) :
    Calls Tryd.prog 20 #[.pointer (some ⟨b, 0, none⟩), .int .i64 (p : Int)] w fun e w' => e = .returned (.bool (decide (bt s p = 47 ∧ bt s (p + 1) = 47) || decide (bt s p = 47 ∧ bt s (p + 1) = 42))) ∧ w' = w := by
  have hp' : (p : Int) < (s.size : Int) := by omega
  have hbl : b < w.heap.size := World.block_lt_of_cell? _ _ hb
  have H1 : Hid (∀ v, Calls Tryd.prog 34 #[.string (s.extract p s.size), .string ⟨#[47, 47]⟩] v fun e w' => e = .returned (.bool (decide (bt s p = 47 ∧ bt s (p + 1) = 47))) ∧ w' = v) := fun v => by
    have h := Tryd.strings_HasPrefix (s.extract p s.size) ⟨#[47, 47]⟩ v
    have e := pre_bt s p 47 47
    have e2 : (⟨#[47, 47]⟩ : ByteArray).data.toList = [47, 47] := rfl
    rw [e2, e] at h
    exact h
  have H2 : Hid (∀ v, Calls Tryd.prog 34 #[.string (s.extract p s.size), .string ⟨#[47, 42]⟩] v fun e w' => e = .returned (.bool (decide (bt s p = 47 ∧ bt s (p + 1) = 42))) ∧ w' = v) := fun v => by
    have h := Tryd.strings_HasPrefix (s.extract p s.size) ⟨#[47, 42]⟩ v
    have e := pre_bt s p 47 42
    have e2 : (⟨#[47, 42]⟩ : ByteArray).data.toList = [47, 42] := rfl
    rw [e2, e] at h
    exact h
  obtain ⟨x, hx⟩ : ∃ x, decide (bt s p = 47 ∧ bt s (p + 1) = 47) = x := ⟨_, rfl⟩
  obtain ⟨y, hy⟩ : ∃ y, decide (bt s p = 47 ∧ bt s (p + 1) = 42) = y := ⟨_, rfl⟩
  rw [hx] at H1 ⊢
  rw [hy] at H2 ⊢
  clear hx hy
  cases x
  · go_enter Tryd.func20, Tryd.ntmps20
    go_wp2_with (first
      | (go_at_call 34; (with_reducible refine (H1.out _).mono ?_); rintro e w3 ⟨rfl, hw3⟩; subst hw3)
      | (go_at_call 34; (with_reducible refine (H2.out _).mono ?_); rintro e w3 ⟨rfl, hw3⟩; subst hw3))
    go_ret
    exact ⟨by simp, rfl⟩
  · go_enter Tryd.func20, Tryd.ntmps20
    go_wp2_with (go_at_call 34; (with_reducible refine (H1.out _).mono ?_); rintro e w3 ⟨rfl, hw3⟩; subst hw3)
    go_ret
    exact ⟨rfl, rfl⟩
end Go.Proofs.YthdfccdkomfikaaDoor
