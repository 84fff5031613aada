import Derived.Test.YtphejjghgalkpaaDoorRs6
namespace Go.Proofs.YtphejjghgalkpaaDoor
open Go.ChangeShapes Go.WideShapes Go.ChangeAt Go.RowKit Go.Maps Go.WideMaps
set_option linter.unusedVariables false
set_option linter.unusedSimpArgs false

/-- what Rescan answers: the text, the list, the fault and its place -/
structure Rsc where
  tx : ByteArray
  ls : List Tk
  y : Nat
  z : Nat
def rcut (s : ByteArray) : Rsc := match (cut s 0).2 with
  | none => ⟨s, wau s (cut s 0).1, 0, 0⟩
  | some (y, z) => ⟨s, [], y, z⟩
def rsc (s : ByteArray) (xs : List Tk) (ef et : Int) (n : ByteArray) : Rsc :=
  if sdB s xs = false then ⟨.empty, [], 1, 0⟩
  else if ef < 0 ∨ et < ef ∨ (s.size : Int) < et then ⟨.empty, [], 10, 0⟩
  else rcut (edE s n ef.toNat et.toNat)
theorem rescan_all (s : ByteArray) (a : Option Addr) (c : Nat) (xs : List Tk) (ef et : Int) (n : ByteArray) (hs : s.size ≤ 2147483640) (hn : n.size ≤ 2147483640) (hx : xs.length ≤ 281474976710656) (w : World) (hl : LiesA w a xs) (hS : Spl w) (hT : Lt w) (hM : MaxL w) :
    Calls Tryd.prog 6 #[.string s, .slice a xs.length c, .agg #[.int .i64 ef, .int .i64 et, .string n]] w fun e w' => ∃ a' c', e = .returned (.tuple #[.string (rsc s xs ef et n).tx, .slice a' (rsc s xs ef et n).ls.length c', .agg #[.int .i64 ((rsc s xs ef et n).y : Int), .int .i64 0, .int .i64 ((rsc s xs ef et n).z : Int)]]) ∧ w'.ownsRow w.heap.size 41 3 (.slice a' (rsc s xs ef et n).ls.length c') (rsc s xs ef et n).ls.length (flat (rsc s xs ef et n).ls) ∧ Below w.heap.size w w' := by
  unfold rsc
  cases hb : sdB s xs with
  | false =>
    rw [if_pos rfl]
    refine (rescan_arg s a c xs ef et n (by omega) hx hb w hl hS hT hM).mono ?_
    rintro e w' ⟨rfl, hb⟩
    exact ⟨none, 0, rfl, World.ownsRow_nil _ _ _ _, hb⟩
  | true =>
    rw [if_neg (by simp)]
    by_cases hE : ef < 0 ∨ et < ef ∨ (s.size : Int) < et
    · rw [if_pos hE]
      refine (rescan_span s a c xs ef et n (by omega) hx hb hE w hl hS hT hM).mono ?_
      rintro e w' ⟨rfl, hb⟩
      exact ⟨none, 0, rfl, World.ownsRow_nil _ _ _ _, hb⟩
    · rw [if_neg hE]
      obtain ⟨f, hf⟩ : ∃ f : Nat, ef = f := ⟨ef.toNat, by omega⟩
      obtain ⟨t, ht⟩ : ∃ t : Nat, et = t := ⟨et.toNat, by omega⟩
      subst hf
      subst ht
      rw [Int.toNat_natCast, Int.toNat_natCast]
      refine (rescan_in s a c xs f t n hs hn hb (by omega) (by omega) w hl hS hT hM).mono ?_
      intro e w' h
      unfold RcE at h
      unfold rcut
      obtain ⟨h1, h2⟩ := h
      cases hN : (cut (edE s n f t) 0).2 with
      | none =>
        rw [hN] at h2
        obtain ⟨v, rfl, ho⟩ := h2
        obtain ⟨a', c', rfl, -, -⟩ := own_form' ho
        exact ⟨a', c', rfl, ho, h1⟩
      | some yz =>
        obtain ⟨y, z⟩ := yz
        rw [hN] at h2
        exact ⟨none, 0, h2, World.ownsRow_nil _ _ _ _, h1⟩
end Go.Proofs.YtphejjghgalkpaaDoor
