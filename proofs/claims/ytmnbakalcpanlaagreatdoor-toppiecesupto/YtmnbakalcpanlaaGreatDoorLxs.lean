import Derived.Test.YtmnbakalcpanlaaGreatDoorRows
import Derived.Test.YtmnbakalcpanlaaGreatDoorShf
import Derived.Test.YtmnbakalcpanlaaGreatDoorRec
import Derived.WalkKit
import Derived.ProofKit
import Derived.OpenShut
import Derived.ShutString
import Derived.ChangeOld
import Derived.Below
import Derived.Handy
import Derived.Deep.Slices
import Derived.Deep.Strs
import Derived.Deep.LoopGhost
import Derived.Deep.QuietTactic
import Derived.BigQuiet
import Derived.WalkSpells
import Derived.WalkMore
import Derived.WalkSmall
import Derived.Lib.AppendStr
import Derived.Laws.IdiomStrings
import Derived.Laws.OwnMore
import Derived.Lib.ConvBytes
import Derived.Deep.RegionHeld3
import Derived.Deep.RegionLaw
import Derived.Shelf.Unicode.DecodeLastEight
import Derived.Shelf.Unicode.PredsAny
namespace Go.Proofs.YtmnbakalcpanlaaGreatDoor
open Go.ChangeShapes Go.WideShapes Go.ChangeAt Go.RowKit
set_option linter.unusedVariables false
set_option linter.unusedSimpArgs false

/-- the cells of bytes -/
def bc (l : List UInt8) : List Value := l.map fun b => Value.int .u8 b.toNat
theorem bc_str (s : ByteArray) : Lib.strCells s = bc s.data.toList := rfl
theorem bc_append (a b : List UInt8) : bc (a ++ b) = bc a ++ bc b := by simp [bc]
theorem bc_length (l : List UInt8) : (bc l).length = l.length := by simp [bc]
theorem bc_one (l : List UInt8) : ∀ u ∈ bc l, u.oneCell' = true := by
  intro u hu
  obtain ⟨b, _, rfl⟩ := List.mem_map.1 hu
  rfl
theorem infoU8b : (Tryz.prog.info? 5).map (fun i => (i.zero, i.size, i.bytes)) = some (some (.int .u8 0), 1, 1) := by kernel_rfl

theorem wpList_append_own_any {P : Program} (w : World) {ops : Array Oper} {rest : List Oper} {o : Oper} {a : Act} {Q : Exit → Act → World → Prop} (hgd : o.guard = none) (s x : Operand) (t : TypeId)
    (ho : o.op = .call { callee := .builtin .append, args := #[s, x], argTypes := #[t, t] })
    (base : Nat) (e : TypeId) (i : TypeInfo) (z : Value) (size bytes : Nat) (ht : P.underlying t = some (.slice e)) (hi : P.info? e = some i) (hz : i.zero = some z)
    (hsize : i.size = size) (hby : i.bytes = bytes) (hzs : z.cells.size = size) (hsz : 0 < size)
    (v : Value) (n : Nat) (xs : List Value) (hs : a.eval s = v) (hown : w.ownsRow base e size v n xs)
    (ao : Option Addr) (m c : Nat) (news : List Value) (hx : a.eval x = .slice ao m c) (hl : news.length = m * size) (hnone : ao = none → m = 0 ∧ c = 0)
    (hnews : ∀ ad, ao = some ad → ∀ j u, news[j]? = some u → w.cell? (ad.add j) = some u) (h1 : ∀ u ∈ news, u.oneCell' = true)
    (h63 : n + m ≤ maxLen) (hbytes : (n + m) * bytes ≤ 140737488355328) (hbase : base ≤ w.heap.size)
    (h : ∀ v' w', w'.ownsRow base e size v' (n + m) (xs ++ news) → w.grownBy w' v.ownBlock → wpList P ops Q rest (a.put o.dst v') w') : wpList P ops Q (o :: rest) a w := by
  cases ao with
  | some ad => exact wpList_append_own w hgd s x t ho base e i z size bytes ht hi hz hsize hby hzs hsz v n xs hs hown ad m c news hx hl (hnews ad rfl) h1 h63 hbytes hbase (fun v' w' h2 h3 _ => h v' w' h2 h3)
  | none =>
    obtain ⟨rfl, rfl⟩ := hnone rfl
    have hn : news = [] := List.eq_nil_of_length_eq_zero (by simpa using hl)
    subst hn
    refine wpList_plain hgd fun K hK' => ?_
    have hrun := run_append_owned_none (P := P) w base t o.type e i size ht hi v n xs hown
    unfold Oper.wp
    simp [execOp, ho, resolve, invoke, builtin, hs, hx, hrun, Result.andThen]
    exact hK' _ _ (h v w (by simpa using hown) (World.grownBy.refl _ _))
theorem step_append_at {P : Program} {w : World} {ops : Array Oper} {o : Oper} {a : Act} {K : Act → World → Prop} {Q : Exit → Act → World → Prop} {E : Prop} (hgd : o.guard = none) (s x : Operand) (t : TypeId)
    (ho : o.op = .call { callee := .builtin .append, args := #[s, x], argTypes := #[t, t] })
    (base : Nat) (e : TypeId) (i : TypeInfo) (z : Value) (size bytes : Nat) (ht : P.underlying t = some (.slice e)) (hi : P.info? e = some i) (hz : i.zero = some z)
    (hsize : i.size = size) (hby : i.bytes = bytes) (hzs : z.cells.size = size) (hsz : 0 < size)
    (v : Value) (n : Nat) (xs : List Value) (hs : a.eval s = v) (hown : w.ownsRow base e size v n xs)
    (ao : Option Addr) (m c : Nat) (news : List Value) (hx : a.eval x = .slice ao m c) (hl : news.length = m * size) (hnone : ao = none → m = 0 ∧ c = 0)
    (hnews : ∀ ad, ao = some ad → ∀ j u, news[j]? = some u → w.cell? (ad.add j) = some u) (h1 : ∀ u ∈ news, u.oneCell' = true)
    (h63 : n + m ≤ maxLen) (hbytes : (n + m) * bytes ≤ 140737488355328) (hbase : base ≤ w.heap.size)
    (h : ∀ v' w', w'.ownsRow base e size v' (n + m) (xs ++ news) → w.grownBy w' v.ownBlock → (v'.ownBlock = v.ownBlock ∨ v'.ownBlock = some w.heap.size) → K (a.put o.dst v') w') :
    if Region.wanted o (yielded ops a.tmps) = true then Oper.wp P o a w K Q else E := by
  have hw : Region.wanted o (yielded ops a.tmps) = true := by simp [Region.wanted, hgd]
  rw [if_pos hw]
  cases ao with
  | some ad =>
    obtain ⟨v', w', hr, h2, h3, _, h5⟩ := run_append_own_at (P := P) w base t o.type e i z size bytes ht hi hz hsize hby hzs hsz v n xs hown ad m c news hl (hnews ad rfl) h1 h63 hbytes hbase
    unfold Oper.wp execOp
    simp only [ho, resolve, invoke, builtin, Sem.run_bind, Sem.run_pure, Result.andThen_ok, List.map_toArray, List.map_cons, List.map_nil, hs, hx, hr]
    exact h v' w' h2 h3 h5
  | none =>
    obtain ⟨rfl, rfl⟩ := hnone rfl
    have hn : news = [] := List.eq_nil_of_length_eq_zero (by simpa using hl)
    subst hn
    have hrun := run_append_owned_none (P := P) w base t o.type e i size ht hi v n xs hown
    unfold Oper.wp execOp
    simp only [ho, resolve, invoke, builtin, Sem.run_bind, Sem.run_pure, Result.andThen_ok, List.map_toArray, List.map_cons, List.map_nil, hs, hx, hrun]
    exact h v w (by simpa using hown) (World.grownBy.refl _ _) (.inl rfl)
/-- a digit of sixteen -/
def hx (n : Nat) : UInt8 := [48, 49, 50, 51, 52, 53, 54, 55, 56, 57, 97, 98, 99, 100, 101, 102].getD n 0
/-- a byte within quotes that is a rune below 128, or a bad one -/
def qe (c : UInt8) : List UInt8 :=
  if c = 7 then [92, 97] else if c = 8 then [92, 98] else if c = 12 then [92, 102] else if c = 10 then [92, 110] else if c = 13 then [92, 114] else if c = 9 then [92, 116] else if c = 11 then [92, 118]
  else if c = 34 ∨ c = 92 then [92, c] else if 32 ≤ c.toNat ∧ c.toNat ≤ 126 then [c] else [92, 120, hx (c.toNat / 16), hx (c.toNat % 16)]
theorem qe_len (c : UInt8) : (qe c).length ≤ 4 ∧ 1 ≤ (qe c).length := by
  unfold qe; repeat' split
  all_goals simp
end Go.Proofs.YtmnbakalcpanlaaGreatDoor

namespace Go.Proofs.YtmnbakalcpanlaaGreatDoor
open Go.ChangeShapes Go.WideShapes Go.ChangeAt Go.RowKit
set_option linter.unusedVariables false
set_option linter.unusedSimpArgs false

/-- the rune at a place, and its width -/
def rn (s : ByteArray) (k : Nat) : Nat := (Lib.decodeGo (s.extract k s.size)).1
def wd (s : ByteArray) (k : Nat) : Nat := (Lib.decodeGo (s.extract k s.size)).2
theorem ext0 (s : ByteArray) (k : Nat) (h : k < s.size) : (s.extract k s.size).get! 0 = s[k]'h := by
  rw [Utf8W.get!_of_lt _ _ (by rw [ByteArray.size_extract]; omega)]
  rw [ByteArray.getElem_extract]
  simp
theorem dN (n b0 b1 b2 b3 : Nat) : 1 ≤ (Lib.decodeN n b0 b1 b2 b3).2 ∧ (b0 < 128 → Lib.decodeN n b0 b1 b2 b3 = (b0, 1)) ∧ (128 ≤ b0 → (Lib.decodeN n b0 b1 b2 b3).2 = 1 → (Lib.decodeN n b0 b1 b2 b3).1 = 65533) := by
  unfold Lib.decodeN
  refine ⟨?_, ?_, ?_⟩
  · repeat' split
    all_goals simp
  · intro h; rw [if_pos h]
  · intro h; rw [if_neg (by omega)]
    repeat' split
    all_goals simp
theorem dec_facts (s : ByteArray) (k : Nat) (h : k < s.size) : 1 ≤ wd s k ∧ k + wd s k ≤ s.size ∧ ((s[k]'h).toNat < 128 → wd s k = 1 ∧ rn s k = (s[k]'h).toNat) ∧ (128 ≤ (s[k]'h).toNat → wd s k = 1 → rn s k = 65533) := by
  have hz : (s.extract k s.size).size = s.size - k := by rw [ByteArray.size_extract]; omega
  have h1 := Lib.decodeGo_le_size (s.extract k s.size)
  have h0 : Lib.decodeGo (s.extract k s.size) = Utf8.decode (s.extract k s.size) 0 := by
    unfold Lib.decodeGo; rw [if_neg (by omega)]
  unfold rn wd
  rw [h0] at h1 ⊢
  rw [Lib.decode_at, ext0 s k h] at h1 ⊢
  obtain ⟨a, b, c⟩ := dN ((s.extract k s.size).size - 0) (s[k]'h).toNat ((s.extract k s.size).get! (0 + 1)).toNat ((s.extract k s.size).get! (0 + 2)).toNat ((s.extract k s.size).get! (0 + 3)).toNat
  refine ⟨a, by omega, fun hb => ?_, c⟩
  rw [b hb]
  exact ⟨rfl, rfl⟩
/-- what stands within quotes for the rune at a place -/
def q1 (s : ByteArray) (k : Nat) (h : k < s.size) : List UInt8 := if 1 < wd s k then (s.extract k (k + wd s k)).data.toList else qe (s[k]'h)
def qs (s : ByteArray) : Nat → Nat → List UInt8
  | 0, _ => []
  | n + 1, k => if h : k < s.size then q1 s k h ++ qs s n (k + wd s k) else []
/-- a text within quotes -/
def qt (s : ByteArray) : List UInt8 := 34 :: (qs s s.size 0 ++ [34])
theorem qs_step (s : ByteArray) (n k : Nat) (hn : s.size - k ≤ n) (h : k < s.size) : ∃ m, s.size - (k + wd s k) ≤ m ∧ qs s n k = q1 s k h ++ qs s m (k + wd s k) := by
  cases n with
  | zero => omega
  | succ m =>
    have := (dec_facts s k h).1
    refine ⟨m, by omega, ?_⟩
    rw [qs, dif_pos h]
theorem qs_end (s : ByteArray) (n k : Nat) (h : ¬ k < s.size) : qs s n k = [] := by
  cases n with
  | zero => rfl
  | succ m => rw [qs, dif_neg h]
theorem q1_len (s : ByteArray) (k : Nat) (h : k < s.size) : (q1 s k h).length ≤ 4 * wd s k := by
  obtain ⟨a, b, _⟩ := dec_facts s k h
  unfold q1
  split
  · rw [Array.length_toList]
    show (s.extract k (k + wd s k)).size ≤ _
    rw [ByteArray.size_extract]; omega
  · have := (qe_len (s[k]'h)).1; omega
end Go.Proofs.YtmnbakalcpanlaaGreatDoor

namespace Go.Proofs.YtmnbakalcpanlaaGreatDoor
open Go.ChangeShapes Go.WideShapes Go.ChangeAt Go.RowKit
set_option linter.unusedVariables false
set_option linter.unusedSimpArgs false

/-- the byte at a place; 256 behind the end -/
def bt (s : ByteArray) (i : Nat) : Nat := if h : i < s.size then (s[i]'h).toNat else 256
theorem bt_in {s : ByteArray} {i : Nat} (h : i < s.size) : bt s i = (s[i]'h).toNat := by unfold bt; rw [dif_pos h]
theorem bt_out {s : ByteArray} {i : Nat} (h : ¬ i < s.size) : bt s i = 256 := by unfold bt; rw [dif_neg h]
theorem bt_lt {s : ByteArray} {i : Nat} (h : i < s.size) : bt s i < 256 := by rw [bt_in h]; exact (s[i]'h).toNat_lt
def blk (c : Nat) : Bool := c == 32 || c == 9 || c == 13 || c == 10
/-- the place behind the blanks from a place on -/
def blE (s : ByteArray) (k : Nat) : Nat := if h : k < s.size ∧ blk (bt s k) = true then blE s (k + 1) else k
termination_by s.size - k
/-- the place of the next byte c, or the end -/
def fnd (s : ByteArray) (c : Nat) (k : Nat) : Nat := if h : k < s.size ∧ bt s k ≠ c then fnd s c (k + 1) else k
termination_by s.size - k
/-- the place of the next two bytes c, d -/
def fn2 (s : ByteArray) (c d : Nat) (k : Nat) : Option Nat := if h : k < s.size then (if bt s k = c ∧ bt s (k + 1) = d then some k else fn2 s c d (k + 1)) else none
termination_by s.size - k
/-- letters and digits of Unicode -/
def uL (r : Nat) : Bool := if Lib.latin1 (r : Int) then Lib.isLetterL (r : Int) else Lib.exclGo Lib.letterT (r : Int)
def uD (r : Nat) : Bool := if (r : Int) ≤ 255 then Lib.isDigitL (r : Int) else Lib.exclGo Lib.digitT (r : Int)
def isL (r : Nat) : Bool := r == 95 || uL r
def isLD (r : Nat) : Bool := isL r || uD r
set_option maxRecDepth 100000 in
theorem bad_none : isL 65533 = false ∧ isLD 65533 = false := by constructor <;> kernel_rfl
/-- the place behind the letters and digits from a place on -/
def rnE (s : ByteArray) (k : Nat) : Nat := if h : k < s.size ∧ isLD (rn s k) = true then rnE s (k + wd s k) else k
termination_by s.size - k
decreasing_by have := (dec_facts s k h.1).1; omega

/-- a digit's value; 99: none -/
def dgv (c : Nat) : Nat := if 48 ≤ c ∧ c ≤ 57 then c - 48 else if 97 ≤ c ∧ c ≤ 102 then c - 87 else if 65 ≤ c ∧ c ≤ 70 then c - 55 else 99
/-- what n digits from a place on say, behind what was said -/
def dgs (s : ByteArray) (b : Nat) : Nat → Nat → Nat → Option Nat
  | 0, _, acc => some acc
  | n + 1, k, acc => if dgv (bt s k) < b then dgs s b n (k + 1) (acc * b + dgv (bt s k)) else none
theorem dgv_le (c : Nat) : dgv c ≤ 99 := by unfold dgv; repeat (first | omega | split)
theorem dgs_lt (s : ByteArray) (b : Nat) (hb : b ≤ 16) : ∀ n k acc v, dgs s b n k acc = some v → v < (acc + 1) * b ^ n
  | 0, k, acc, v, h => by simp [dgs] at h; subst h; simp
  | n + 1, k, acc, v, h => by
    rw [dgs] at h
    split at h
    · rename_i hd
      have := dgs_lt s b hb n (k + 1) _ v h
      refine Nat.lt_of_lt_of_le this ?_
      rw [Nat.pow_succ, Nat.mul_comm (b ^ n), ← Nat.mul_assoc]
      apply Nat.mul_le_mul_right
      rw [Nat.add_mul]
      omega
    · cases h
/-- an item: how many bytes, its value, is it a byte, is it a bad byte -/
structure Itm where
  n : Nat
  v : Nat
  e : Bool
  b : Bool
/-- an escape by digits: count of them from a place on, which is f bytes behind the backslash -/
def cod (s : ByteArray) (at_ f count b : Nat) : Option Itm :=
  if s.size < at_ + count then none else
  match dgs s b count at_ 0 with
  | none => none
  | some v => if (count < 4 ∧ 255 < v) ∨ 1114111 < v ∨ (4 ≤ count ∧ 55296 ≤ v ∧ v ≤ 57343) then none else some ⟨f + count, v, decide (count < 4), false⟩
/-- what a letter behind a backslash stands for -/
def esc (c q : Nat) : Option Nat :=
  if c = 97 then some 7 else if c = 98 then some 8 else if c = 102 then some 12 else if c = 110 then some 10 else if c = 114 then some 13 else if c = 116 then some 9 else if c = 118 then some 11 else if c = 92 then some 92 else if c = q then some c else none
/-- the item at a place within quotes -/
def itm (s : ByteArray) (k q : Nat) : Option Itm :=
  if bt s k ≠ 92 then some ⟨wd s k, rn s k, false, decide (rn s k = 65533 ∧ wd s k = 1)⟩ else
  if s.size ≤ k + 1 then none else
  match esc (bt s (k + 1)) q with
  | some v => some ⟨2, v, false, false⟩
  | none =>
    if bt s (k + 1) = 120 then cod s (k + 2) 2 2 16 else
    if bt s (k + 1) = 117 then cod s (k + 2) 2 4 16 else
    if bt s (k + 1) = 85 then cod s (k + 2) 2 8 16 else
    if 48 ≤ bt s (k + 1) ∧ bt s (k + 1) ≤ 55 then cod s (k + 1) 1 3 8 else none
end Go.Proofs.YtmnbakalcpanlaaGreatDoor

namespace Go.Proofs.YtmnbakalcpanlaaGreatDoor
open Go.ChangeShapes Go.WideShapes Go.ChangeAt Go.RowKit
set_option linter.unusedVariables false
set_option linter.unusedSimpArgs false

theorem tabs_below {a b B : Nat} {w w' : World} (h : Lib.Utf8Tabs a b w) (hb : Below B w w') (ha : a < B) (hc : b < B) : Lib.Utf8Tabs a b w' :=
  ⟨fun c hc' => (World.cell?_of_block (a := ⟨a, c, none⟩) (hb.block a ha)).trans (h.1 c hc'), fun i hi => ⟨(World.cell?_of_block (a := ⟨b, 2 * i, none⟩) (hb.block b hc)).trans (h.2 i hi).1, (World.cell?_of_block (a := ⟨b, 2 * i + 1, none⟩) (hb.block b hc)).trans (h.2 i hi).2⟩⟩
end Go.Proofs.YtmnbakalcpanlaaGreatDoor

namespace Go.Proofs.YtmnbakalcpanlaaGreatDoor
open Go.ChangeShapes Go.WideShapes Go.ChangeAt Go.RowKit
set_option linter.unusedVariables false
set_option linter.unusedSimpArgs false

theorem nil_string (w : World) : (convert 51 9 (.slice none 0 0)).run Tryz.prog w = .ok (.string ⟨#[]⟩) w := by kernel_rfl
theorem own_string {w : World} {base n cap g : Nat} {l : List UInt8} (h : w.ownsRow base 5 1 (.slice (some ⟨g, 0, none⟩) n cap) n (bc l)) :
    (convert 51 9 (.slice (some ⟨g, 0, none⟩) n cap)).run Tryz.prog w = .ok (.string ⟨l.toArray⟩) w := by
  have hn : n = l.length := by have := h.1; rw [bc_length] at this; omega
  subst hn
  exact run_convert_bytes_back (P := Tryz.prog) w 51 9 5 ⟨g, 0, none⟩ cap l Tryz.underlying51 Tryz.underlying5 Tryz.underlying9 (fun j hj => h.cells rfl j _ (by simp [bc, hj]))
theorem own_string_any {w : World} {base n : Nat} {v : Value} {l : List UInt8} (h : w.ownsRow base 5 1 v n (bc l)) : (convert 51 9 v).run Tryz.prog w = .ok (.string ⟨l.toArray⟩) w := by
  rcases h.2 with ⟨rfl, h2⟩ | ⟨g, cp, cur, rfl, _⟩
  · have hl : l = [] := List.eq_nil_of_length_eq_zero (by have := h.1; rw [bc_length] at this; omega)
    subst hl
    exact nil_string w
  · exact own_string h
end Go.Proofs.YtmnbakalcpanlaaGreatDoor
