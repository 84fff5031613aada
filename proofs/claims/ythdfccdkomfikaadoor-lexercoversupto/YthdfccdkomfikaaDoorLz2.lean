import Derived.Test.YthdfccdkomfikaaDoorLz1
namespace Go.Proofs.YthdfccdkomfikaaDoor
open Go.ChangeShapes Go.WideShapes Go.ChangeAt Go.RowKit
set_option linter.unusedVariables false
set_option linter.unusedSimpArgs false

/-- the items up to the closing quote: its place, how many there are, the first bad byte -/
def quo (s : ByteArray) (q k c : Nat) (bad : Option Nat) : Option (Nat × Nat × Option Nat) :=
  if h : k < s.size ∧ bt s k ≠ 10 then
    (if bt s k = q then some (k, c, bad) else
     match itm s k q with
     | none => none
     | some it => if hn : 0 < it.n then quo s q (k + it.n) (c + 1) (if it.b = true ∧ bad = none then some k else bad) else none)
  else none
termination_by s.size - k
/-- a piece: its kind and its end, or a fault: why, and where -/
inductive Pce where
  | ok (k t : Nat)
  | no (y p : Nat)
def quP (s : ByteArray) (p : Nat) : Pce :=
  if bt s p = 96 then (if fnd s 96 (p + 1) < s.size then .ok 5 (fnd s 96 (p + 1) + 1) else .no 22 p) else
  match quo s (bt s p) (p + 1) 0 none with
  | none => .no 22 p
  | some (t, c, bad) => if bt s p = 39 ∧ c ≠ 1 then .no 22 p else
    match bad with
    | some z => .no 20 z
    | none => .ok (if bt s p = 39 then 4 else 5) (t + 1)
def wds : List (List UInt8) := [[98, 114, 101, 97, 107], [99, 97, 115, 101], [99, 104, 97, 110], [99, 111, 110, 115, 116], [99, 111, 110, 116, 105, 110, 117, 101], [100, 101, 102, 97, 117, 108, 116], [100, 101, 102, 101, 114], [101, 108, 115, 101], [102, 97, 108, 108, 116, 104, 114, 111, 117, 103, 104], [102, 111, 114], [102, 117, 110, 99], [103, 111], [103, 111, 116, 111], [105, 102], [105, 109, 112, 111, 114, 116], [105, 110, 116, 101, 114, 102, 97, 99, 101], [109, 97, 112], [112, 97, 99, 107, 97, 103, 101], [114, 97, 110, 103, 101], [114, 101, 116, 117, 114, 110], [115, 101, 108, 101, 99, 116], [115, 116, 114, 117, 99, 116], [115, 119, 105, 116, 99, 104], [116, 121, 112, 101], [118, 97, 114]]
def mks : List (List UInt8) := [[43], [45], [42], [47], [37], [38], [124], [94], [60, 60], [62, 62], [38, 94], [43, 61], [45, 61], [42, 61], [47, 61], [37, 61], [38, 61], [124, 61], [94, 61], [60, 60, 61], [62, 62, 61], [38, 94, 61], [38, 38], [124, 124], [60, 45], [43, 43], [45, 45], [61, 61], [60], [62], [61], [33], [126], [33, 61], [60, 61], [62, 61], [58, 61], [46, 46, 46], [40], [41], [91], [93], [123], [125], [44], [46], [59], [58]]
def kwd (t : List UInt8) : Nat := match wds.idxOf? t with | some i => 7 + i | none => 2
def nmP (s : ByteArray) (p : Nat) : Pce := if 200 < rnE s p - p then .no 24 p else .ok (kwd (s.extract p (rnE s p)).data.toList) (rnE s p)
def ruP (s : ByteArray) (p : Nat) : Pce := if num (s.extract p (rnE s p)) then .ok 3 (rnE s p) else .no 21 p
/-- does the text go on so at a place? -/
def bgn (s : ByteArray) (p : Nat) (m : List UInt8) : Bool := decide (p + m.length ≤ s.size) && (s.extract p (p + m.length)).data.toList == m
/-- the longest of the marks that fit: its kind and its end -/
def mkF (s : ByteArray) (p : Nat) : List (List UInt8) → Nat → Nat × Nat → Nat × Nat
  | [], _, b => b
  | m :: r, i, b => mkF s p r (i + 1) (if bgn s p m = true ∧ b.2 < p + m.length then (32 + i, p + m.length) else b)
def mkP (s : ByteArray) (p : Nat) : Pce := if (mkF s p mks 0 (0, p)).2 = p then .no 20 p else .ok (mkF s p mks 0 (0, p)).1 (mkF s p mks 0 (0, p)).2
/-- what begins at a place -/
def pce (s : ByteArray) (p : Nat) : Pce :=
  if blk (bt s p) then .ok 0 (blE s p) else
  if bt s p = 47 ∧ bt s (p + 1) = 47 then .ok 1 (fnd s 10 p) else
  if bt s p = 47 ∧ bt s (p + 1) = 42 then (match fn2 s 42 47 (p + 2) with | some k => .ok 1 (k + 2) | none => .no 23 p) else
  if isL (rn s p) then nmP s p else
  if 48 ≤ bt s p ∧ bt s p ≤ 57 then ruP s p else
  if bt s p = 39 ∨ bt s p = 34 ∨ bt s p = 96 then quP s p else mkP s p
end Go.Proofs.YthdfccdkomfikaaDoor
