import Derived.Test.YtcanabbjliloeaaDoorRec
namespace Go.Proofs.YtcanabbjliloeaaDoor
set_option linter.unusedVariables false

/-- the kinds' names -/
def nams : List (List UInt8) := [[78, 111, 110, 101], [76, 105, 115, 116], [70, 105, 108, 101], [73, 109, 112, 111, 114, 116], [73, 109, 112, 111, 114, 116, 83, 112, 101, 99], [67, 111, 110, 115, 116], [86, 97, 114], [84, 121, 112, 101, 115], [67, 111, 110, 115, 116, 83, 112, 101, 99], [86, 97, 114, 83, 112, 101, 99], [84, 121, 112, 101, 83, 112, 101, 99], [70, 117, 110, 99], [82, 101, 99, 118], [83, 105, 103], [80, 97, 114, 97, 109], [83, 116, 114, 117, 99, 116], [70, 105, 101, 108, 100], [69, 109, 98, 101, 100], [73, 110, 116, 101, 114, 102, 97, 99, 101], [77, 101, 116, 104, 111, 100], [83, 104, 97, 112, 101], [83, 116, 97, 114], [83, 108, 105, 99, 101, 79, 102], [77, 97, 112, 79, 102], [70, 117, 110, 99, 79, 102], [80, 97, 114, 101, 110], [83, 101, 108, 101, 99, 116], [66, 108, 111, 99, 107], [73, 102], [83, 119, 105, 116, 99, 104], [77, 97, 116, 99, 104], [67, 97, 115, 101], [68, 101, 102, 97, 117, 108, 116], [70, 111, 114], [82, 97, 110, 103, 101], [76, 97, 98, 101, 108], [82, 101, 116, 117, 114, 110], [66, 114, 101, 97, 107], [67, 111, 110, 116, 105, 110, 117, 101], [70, 97, 108, 108], [69, 109, 112, 116, 121], [68, 111], [83, 116, 101, 112], [65, 115, 115, 105, 103, 110], [68, 101, 102, 105, 110, 101], [78, 97, 109, 101], [78, 117, 109, 98, 101, 114], [67, 104, 97, 114], [84, 101, 120, 116], [66, 105, 110, 97, 114, 121], [83, 105, 103, 110], [73, 110, 100, 101, 120], [83, 108, 105, 99, 101], [65, 115, 115, 101, 114, 116], [67, 97, 108, 108], [70, 117, 110, 99, 76, 105, 116], [67, 111, 109, 112, 111, 115, 105, 116, 101], [80, 97, 105, 114]]
theorem nams_len : nams.length = 58 := rfl
theorem nams_get {k : Nat} (hk : k < nams.length) : nams.getD k [] = nams[k] := by rw [List.getD, List.getElem?_eq_getElem hk]; rfl
theorem nams_12 (k : Nat) : (nams.getD k []).length ≤ 12 := by
  have h : ∀ l ∈ nams, l.length ≤ 12 := by decide
  by_cases hk : k < nams.length
  · rw [nams_get hk]
    exact h _ (List.getElem_mem hk)
  · rw [List.getD, List.getElem?_eq_none (by omega)]
    exact Nat.zero_le _
theorem nams_some (k : Nat) (hk : k < nams.length) : nams.getD k [] ≠ [] := by
  have h : ∀ l ∈ nams, l ≠ [] := by decide
  rw [nams_get hk]
  exact h _ (List.getElem_mem hk)
set_option maxRecDepth 100000 in
theorem nams_once (i j : Nat) (hi : i < nams.length) (hj : j < nams.length) (h : nams.getD i [] = nams.getD j []) : i = j := by
  have hd : nams.Nodup := by decide +kernel
  rw [nams_get hi, nams_get hj] at h
  exact (List.getElem_inj hd).1 h
end Go.Proofs.YtcanabbjliloeaaDoor
