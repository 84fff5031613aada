import Derived.Test.YthdfccdkomfikaaDoorLy7
namespace Go.Proofs.YthdfccdkomfikaaDoor
open Go.ChangeShapes Go.WideShapes Go.ChangeAt Go.RowKit Go.Maps Go.WideMaps
set_option linter.unusedVariables false
set_option linter.unusedSimpArgs false

/-- a method as a value -/
def mv (f b : Nat) : Value := .func (Fn.func f) #[.pointer (some ⟨b, 0, none⟩)] #[]
/-- the table of what may begin at a byte -/
def sts (b : Nat) : Array Value := #[mv 18 b, mv 19 b, mv 20 b, mv 21 b, mv 22 b, mv 23 b, mv 24 b, mv 25 b, mv 26 b, mv 27 b, mv 28 b, mv 29 b]

theorem ownsMap_below {P : Program} {k : TypeId} {R : Value → Option (DataW Unit × List MemPlace)} {b n B : Nat} {D : DataW Unit} {w w' : World} (h : w.ownsMap P k R b n D) (hb : Below B w w') (hB : b < B) : w'.ownsMap P k R b n D := by
  obtain ⟨es, clock, h1, h2, h3, h4⟩ := h
  exact ⟨es, clock, (hb.block b hB).trans h1, h2, h3, h4⟩
theorem ownsMap_lt {P : Program} {k : TypeId} {R : Value → Option (DataW Unit × List MemPlace)} {b n : Nat} {D : DataW Unit} {w : World} (h : w.ownsMap P k R b n D) : b < w.heap.size := by
  obtain ⟨es, clock, h1, _⟩ := h
  exact lt_of_block h1

set_option maxRecDepth 1000000 in
set_option maxHeartbeats 4000000 in
theorem newScanner_any (s : ByteArray) (w : World) (hS : Spl w) :
    Calls Tryd.prog 12 #[.string s] w fun e w' => ∃ b, w.heap.size < b ∧ e = .returned (.pointer (some ⟨b, 0, none⟩)) ∧ Bx w' b #[.string s, .slice (some ⟨b + 1, 0, none⟩) 6 6, .map (some w.heap.size), .int .u32 0, .int .i32 0, .int .u32 0, .pointer none] 63 ∧ Bx w' (b + 1) (sts b) 66 ∧ w'.ownsMap Tryd.prog 9 (plainElem (H := Unit) Tryd.prog 29) w.heap.size 25 (KW 25) ∧ Below w.heap.size w w' := by
  have hmf : ∀ (fn : Fn) (first cap : Array Value) (w : World), (Instr.makeFunc fn first cap).run Tryd.prog w = .ok (.func fn first cap) w := fun _ _ _ _ => rfl
  have HK : Hid (Calls Tryd.prog 17 #[] w fun e w' => e = .returned (.map (some w.heap.size)) ∧ w'.ownsMap Tryd.prog 9 (plainElem (H := Unit) Tryd.prog 29) w.heap.size 25 (KW 25) ∧ Below w.heap.size w w') := keywords_any w hS
  clear hS
  go_enter Tryd.func12, Tryd.ntmps12
  go_wp2_with (go_at_call 17; (with_reducible refine HK.out.mono ?_); rintro e w1 ⟨rfl, ho1, hb1⟩; have HO1 : Hid (w1.ownsMap Tryd.prog 9 (plainElem (H := Unit) Tryd.prog 29) w.heap.size 25 (KW 25)) := ho1; have HB1 : Hid (Below w.heap.size w w1) := hb1; clear ho1 hb1)
  have hlt := ownsMap_lt HO1.out
  obtain ⟨w2, e2, hw, hs2, B0, B1⟩ := bx2 w1 #[.string s, .slice (some ⟨w1.heap.size + 1, 0, none⟩) 6 6, .map (some w.heap.size), .int .u32 0, .int .i32 0, .int .u32 0, .pointer none] (sts w1.heap.size) 63 66
  go_ret
  refine ⟨w1.heap.size, hlt, rfl, ?_⟩
  show _ ∧ _ ∧ _ ∧ _
  rw [← show _ = w2 from e2] at hw B0 B1
  exact ⟨B0, B1, ownsMap_below HO1.out hw hlt, HB1.out.trans (hw.mono HB1.out.size)⟩
end Go.Proofs.YthdfccdkomfikaaDoor

namespace Go.Proofs.YthdfccdkomfikaaDoor
open Go.ChangeShapes Go.WideShapes Go.ChangeAt Go.RowKit Go.Maps Go.WideMaps
set_option linter.unusedVariables false
set_option linter.unusedSimpArgs false

theorem ext_get (s : ByteArray) (p i : Nat) (h : p + i < s.size) : (s.extract p s.size).data.toList[i]? = some (s[p + i]'h) := by
  have hz : i < (s.extract p s.size).size := by rw [ByteArray.size_extract]; omega
  rw [Lib.data_getElem? _ i hz, ByteArray.getElem_extract]
theorem ext_out (s : ByteArray) (p i : Nat) (h : ¬ p + i < s.size) : (s.extract p s.size).data.toList[i]? = none := by
  apply List.getElem?_eq_none
  rw [Array.length_toList]
  show (s.extract p s.size).size ≤ i
  rw [ByteArray.size_extract]; omega
theorem pre2 (l : List UInt8) (c d : UInt8) : Lib.hasPrefix l [c, d] = (decide (l[0]? = some c) && decide (l[1]? = some d)) := by
  unfold Lib.hasPrefix
  match l with
  | [] => simp [List.isPrefixOf]
  | [a] => by_cases h : c = a <;> simp [List.isPrefixOf, h, eq_comm]
  | a :: e :: r => simp [List.isPrefixOf, beq_iff_eq, eq_comm, Bool.beq_eq_decide_eq]
theorem pre_bt (s : ByteArray) (p : Nat) (c d : UInt8) : Lib.hasPrefix (s.extract p s.size).data.toList [c, d] = decide (bt s p = c.toNat ∧ bt s (p + 1) = d.toNat) := by
  have key : ∀ (i : Nat) (c : UInt8), decide ((s.extract p s.size).data.toList[i]? = some c) = decide (bt s (p + i) = c.toNat) := by
    intro i c
    by_cases h : p + i < s.size
    · rw [ext_get s p i h, bt_in h]
      congr 1
      simp only [Option.some.injEq, eq_iff_iff]
      exact ⟨fun h => by rw [h], fun h => UInt8.toNat_inj.1 h⟩
    · rw [ext_out s p i h, bt_out h]
      have := c.toNat_lt
      simp
      omega
  rw [pre2, key 0 c, key 1 d]
  simp

set_option maxRecDepth 100000 in
set_option maxHeartbeats 2000000 in
theorem atNote_any (b : Nat) (s : ByteArray) (p : Nat) (hs : s.size ≤ 4294967280) (hp : p < s.size) (w : World) (hb : w.cell? ⟨b, 0, none⟩ = some (.string s)) :
    Calls Tryd.prog 20 #[.pointer (some ⟨b, 0, none⟩), .int .i64 (p : Int)] w fun e w' => e = .returned (.bool (decide (bt s p = 47 ∧ bt s (p + 1) = 47) || decide (bt s p = 47 ∧ bt s (p + 1) = 42))) ∧ w' = w := by
  have hp' : (p : Int) < (s.size : Int) := by omega
  have hbl : b < w.heap.size := World.block_lt_of_cell? _ _ hb
  have H1 : Hid (∀ v, Calls Tryd.prog 34 #[.string (s.extract p s.size), .string ⟨#[47, 47]⟩] v fun e w' => e = .returned (.bool (decide (bt s p = 47 ∧ bt s (p + 1) = 47))) ∧ w' = v) := fun v => by
    have h := Tryd.strings_HasPrefix (s.extract p s.size) ⟨#[47, 47]⟩ v
    have e := pre_bt s p 47 47
    have e2 : (⟨#[47, 47]⟩ : ByteArray).data.toList = [47, 47] := rfl
    rw [e2, e] at h
    exact h
  have H2 : Hid (∀ v, Calls Tryd.prog 34 #[.string (s.extract p s.size), .string ⟨#[47, 42]⟩] v fun e w' => e = .returned (.bool (decide (bt s p = 47 ∧ bt s (p + 1) = 42))) ∧ w' = v) := fun v => by
    have h := Tryd.strings_HasPrefix (s.extract p s.size) ⟨#[47, 42]⟩ v
    have e := pre_bt s p 47 42
    have e2 : (⟨#[47, 42]⟩ : ByteArray).data.toList = [47, 42] := rfl
    rw [e2, e] at h
    exact h
  obtain ⟨x, hx⟩ : ∃ x, decide (bt s p = 47 ∧ bt s (p + 1) = 47) = x := ⟨_, rfl⟩
  obtain ⟨y, hy⟩ : ∃ y, decide (bt s p = 47 ∧ bt s (p + 1) = 42) = y := ⟨_, rfl⟩
  rw [hx] at H1 ⊢
  rw [hy] at H2 ⊢
  clear hx hy
  cases x
  · go_enter Tryd.func20, Tryd.ntmps20
    go_wp2_with (first
      | (go_at_call 34; (with_reducible refine (H1.out _).mono ?_); rintro e w3 ⟨rfl, hw3⟩; subst hw3)
      | (go_at_call 34; (with_reducible refine (H2.out _).mono ?_); rintro e w3 ⟨rfl, hw3⟩; subst hw3))
    go_ret
    exact ⟨by simp, rfl⟩
  · go_enter Tryd.func20, Tryd.ntmps20
    go_wp2_with (go_at_call 34; (with_reducible refine (H1.out _).mono ?_); rintro e w3 ⟨rfl, hw3⟩; subst hw3)
    go_ret
    exact ⟨rfl, rfl⟩
end Go.Proofs.YthdfccdkomfikaaDoor
