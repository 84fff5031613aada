import Derived.Test.YtnaipmgdipflgaaGreatDoorCt0
import Derived.Test.YtnaipmgdipflgaaGreatDoorRows
import Derived.Lib.LaidU8
import Derived.Lib.SmallJoins
import Derived.JoinedCond
import Derived.Test.YtnaipmgdipflgaaGreatDoorLxs
import Derived.Test.YtnaipmgdipflgaaGreatDoorLye
import Derived.Test.YtnaipmgdipflgaaGreatDoorShowsW
import Derived.Laws.Cover1
import Derived.Lib.Strings
import Derived.Test.YtnaipmgdipflgaaGreatDoorRds
import Derived.Test.YtnaipmgdipflgaaGreatDoorCards
import Derived.Test.YtnaipmgdipflgaaGreatDoorTie
import Derived.Deep.DeepHandedRow
import Derived.Deep.DeepWitnessRowRef
import Derived.Deep.CondSized
import Derived.Lib.LaidTab
import Derived.Lib.LaidRTab
import Derived.PinnedBridge
import Derived.Shelf.Unicode.PredsPay
import Derived.LaidSub
import Derived.Lib.AppendIntMem
import Derived.Lay
namespace Go.Proofs.YtnaipmgdipflgaaGreatDoor
open Go.ChangeShapes Go.WideShapes Go.ChangeAt Go.RowKit Go.Deep
set_option linter.unusedVariables false
set_option linter.unusedSimpArgs false

set_option maxRecDepth 100000

theorem laidOutC : laidOutB Tryz.prog = true := by kernel_rfl
theorem bnd_u8 {n : Int} (h : (Lit.int .u8 n).wf = true) : 0 ≤ n ∧ n ≤ 255 := by
  have h1 : IntKind.u8.min = 0 := rfl
  have h2 : IntKind.u8.max = 255 := rfl
  simp [Lit.wf] at h
  omega
theorem bnd_i64 {n : Int} (h : (Lit.int .i64 n).wf = true) : -9223372036854775808 ≤ n ∧ n ≤ 9223372036854775807 := by
  have h1 : IntKind.i64.min = -9223372036854775808 := rfl
  have h2 : IntKind.i64.max = 9223372036854775807 := rfl
  simp [Lit.wf] at h
  omega
theorem open_val {H : Type} {enc : TypeId × Value → H} {w : World} {r : Reach} {b0 : Nat} {v : Value} {d : DataW H} {p : List MemPlace} (hv : Value.okWide Tryz.prog w r b0 25 v) (h : DataW.Trod enc Tryz.prog w 0 (fun _ => true) true 25 v d p) :
    ∃ x : Vl, v = x.v ∧ d = .agg [.lit (.int .u8 x.k), .lit (.bool x.b), .lit (.int .i64 x.i), .lit (.string x.s.data.toList)] ∧ 0 ≤ x.k ∧ x.k ≤ 255 ∧ -9223372036854775808 ≤ x.i ∧ x.i ≤ 9223372036854775807 := by
  obtain ⟨v0, v1, v2, v3, y0, y1, y2, y3, n, rfl, rfl, _, g0, g1, g2, g3⟩ := Joins.open_agg4 Tryz.underlying25 (by kernel_rfl) (by kernel_rfl) hv h
  obtain ⟨k, e0, rfl, w0⟩ := DataW.trod_int Tryz.underlying23 g0
  obtain ⟨b, e1, rfl⟩ := DataW.trod_bool Tryz.underlying4 g1
  obtain ⟨i, e2, rfl, w2⟩ := DataW.trod_int Tryz.underlying2 g2
  obtain ⟨s, e3, rfl, w3⟩ := DataW.trod_string Tryz.underlying9 g3
  simp at e0 e1 e2 e3
  subst e0 e1 e2 e3
  exact ⟨⟨k, b, i, s⟩, rfl, rfl, (bnd_u8 w0).1, (bnd_u8 w0).2, (bnd_i64 w2).1, (bnd_i64 w2).2⟩
theorem bulk_val {H : Type} (x : Vl) : x.s.size ≤ Rows.uptoBulk (H := H) (.agg [.lit (.int .u8 x.k), .lit (.bool x.b), .lit (.int .i64 x.i), .lit (.string x.s.data.toList)]) := by
  have e2 : x.s.data.toList.length = x.s.size := by rw [Array.length_toList]; rfl
  simp only [Rows.uptoBulk, Rows.uptoBulkAll]
  omega
/-- a variable that holds an interface's value -/
theorem iface_of_reads {P : Program} {w : World} {name : String} {g : Nat} {t : TypeId} {ms : Array (String × TypeId)} {n : String} {d : DataW Unit} (hn : P.globalNamed name = some g) (hy : (P.globals[g]?).map (·.type) = some t)
    (ht : P.underlying t = some (.interface ms)) (h : Lib.VarReads P w name (.iface n d)) : ∃ tp p, w.cell? ⟨g, 0, none⟩ = some (.iface tp p) := by
  obtain ⟨g', t', cs, fuel, p, hg, hty, hvar, hd⟩ := h
  obtain rfl := Option.some.inj (hn.symm.trans hg)
  obtain rfl := Option.some.inj (hy.symm.trans hty)
  have h1 := World.var?_cell hg hvar 0
  obtain ⟨l, hl⟩ : ∃ l, cs.toList = l := ⟨_, rfl⟩
  rw [hl] at hd
  cases fuel with
  | zero => simp [DataW.trod] at hd
  | succ fuel =>
    match l, hl, hd with
    | [], hl, hd => simp [DataW.trod, ht] at hd
    | [v], hl, hd =>
      have e : cs[0]? = some v := by rw [← Array.getElem?_toList, hl]; rfl
      cases v with
      | iface u x => exact ⟨u, x, h1.trans e⟩
      | _ => simp [DataW.trod, ht] at hd
    | a :: b :: r, hl, hd => simp [DataW.trod, ht] at hd
end Go.Proofs.YtnaipmgdipflgaaGreatDoor

namespace Go.Proofs.YtnaipmgdipflgaaGreatDoor
open Go.ChangeShapes Go.WideShapes Go.ChangeAt Go.RowKit
set_option linter.unusedVariables false
set_option linter.unusedSimpArgs false

/-- a text, by its bytes -/
def sq (l : List UInt8) : ByteArray := ⟨l.toArray⟩
theorem sq_size (l : List UInt8) : (sq l).size = l.length := by show l.toArray.size = _; simp
theorem bt_at {l : List UInt8} {i : Nat} {c : UInt8} (h : l[i]? = some c) : bt (sq l) i = c.toNat := by
  have hi := (List.getElem?_eq_some_iff.1 h)
  have hs : i < (sq l).size := by rw [sq_size]; exact hi.1
  rw [bt_in hs]
  have : (sq l)[i]'hs = c := by rw [← hi.2]; rfl
  rw [this]
theorem bt_mid (P R : List UInt8) (c : UInt8) (i : Nat) (C : List UInt8) (h : C[i]? = some c) : bt (sq (P ++ C ++ R)) (P.length + i) = c.toNat := by
  apply bt_at
  rw [List.append_assoc, List.getElem?_append_right (by omega), Nat.add_sub_cancel_left, List.getElem?_append_left (List.getElem?_eq_some_iff.1 h).1]
  exact h
theorem sq_len (P C R : List UInt8) : (sq (P ++ C ++ R)).size = P.length + C.length + R.length := by rw [sq_size]; simp [Nat.add_assoc]
end Go.Proofs.YtnaipmgdipflgaaGreatDoor

namespace Go.Proofs.YtnaipmgdipflgaaGreatDoor
open Go.ChangeShapes Go.WideShapes Go.ChangeAt Go.RowKit
set_option linter.unusedVariables false
set_option linter.unusedSimpArgs false

/-- a byte that stands for itself -/
theorem ita_plain (P R : List UInt8) (c : UInt8) (h1 : 32 ≤ c.toNat) (h2 : c.toNat ≤ 126) (h3 : c.toNat ≠ 34) (h4 : c.toNat ≠ 92) : ita (sq (P ++ [c] ++ R)) P.length 34 = some ⟨1, c.toNat, false, false⟩ := by
  have hb : bt (sq (P ++ [c] ++ R)) P.length = c.toNat := by have := bt_mid P R c 0 [c] rfl; simpa using this
  have hl := sq_len P [c] R
  have hk : P.length < (sq (P ++ [c] ++ R)).size := by rw [hl]; simp; omega
  unfold ita
  rw [if_neg (by omega), itm_else (by omega)]
  have hd := (dec_facts _ _ hk).2.2.1 (by rw [← bt_in hk]; omega)
  rw [hd.1, hd.2, ← bt_in hk, hb]
  simp
  omega
/-- a letter behind a backslash -/
theorem ita_esc (P R : List UInt8) (c : UInt8) (v : Nat) (h : esc c.toNat 34 = some v) : ita (sq (P ++ [92, c] ++ R)) P.length 34 = some ⟨2, v, false, false⟩ := by
  have hb : bt (sq (P ++ [92, c] ++ R)) P.length = 92 := by have := bt_mid P R 92 0 [92, c] rfl; simpa using this
  have hb1 : bt (sq (P ++ [92, c] ++ R)) (P.length + 1) = c.toNat := bt_mid P R c 1 [92, c] rfl
  have hl : (sq (P ++ [92, c] ++ R)).size = P.length + 2 + R.length := sq_len P [92, c] R
  unfold ita
  rw [if_neg (by omega), itm_back hb]
  unfold esA
  rw [if_neg (by omega), hb1, h]
/-- two hex digits -/
theorem ita_hex (P R : List UInt8) (x y : UInt8) (hx : dgv x.toNat < 16) (hy : dgv y.toNat < 16) : ita (sq (P ++ [92, 120, x, y] ++ R)) P.length 34 = some ⟨4, dgv x.toNat * 16 + dgv y.toNat, true, false⟩ := by
  have hb : bt (sq (P ++ [92, 120, x, y] ++ R)) P.length = 92 := by have := bt_mid P R 92 0 [92, 120, x, y] rfl; simpa using this
  have hb1 : bt (sq (P ++ [92, 120, x, y] ++ R)) (P.length + 1) = 120 := bt_mid P R 120 1 [92, 120, x, y] rfl
  have hb2 : bt (sq (P ++ [92, 120, x, y] ++ R)) (P.length + 2) = x.toNat := bt_mid P R x 2 [92, 120, x, y] rfl
  have hb3 : bt (sq (P ++ [92, 120, x, y] ++ R)) (P.length + 2 + 1) = y.toNat := bt_mid P R y 3 [92, 120, x, y] rfl
  have hl : (sq (P ++ [92, 120, x, y] ++ R)).size = P.length + 4 + R.length := sq_len P [92, 120, x, y] R
  unfold ita
  rw [if_neg (by omega), itm_back hb]
  unfold esA
  rw [if_neg (by omega), hb1]
  have he : esc 120 34 = none := by decide
  rw [he]
  simp only [if_true]
  unfold cod
  rw [if_neg (by omega)]
  have hd : dgs (sq (P ++ [92, 120, x, y] ++ R)) 16 2 (P.length + 2) 0 = some (dgv x.toNat * 16 + dgv y.toNat) := by
    rw [dgs, hb2, if_pos hx, dgs, hb3, if_pos hy, dgs]; simp
  rw [hd]
  simp only
  rw [if_neg (by omega)]
  simp
theorem hx_dgv (n : Nat) (h : n < 16) : dgv (hx n).toNat = n := by
  have key : ∀ n, n < 16 → dgv (hx n).toNat = n := by decide
  exact key n h
/-- what stands for a byte within quotes is read as that byte -/
theorem ita_qe (P R : List UInt8) (c : UInt8) : ∃ i : Itm, ita (sq (P ++ qe c ++ R)) P.length 34 = some i ∧ i.n = (qe c).length ∧ i.b = false ∧ itB i = [c] := by
  have one : ∀ v : Nat, v < 128 → Lib.encodeRune (v : Int) = [v.toUInt8] := fun v hv => by
    unfold Lib.encodeRune; rw [Lib.encodeRuneZ_one (by omega) (by omega)]; simp
  unfold qe
  have hc := c.toNat_lt
  by_cases h7 : c = 7
  · subst h7; exact ⟨_, ita_esc P R 97 7 (by decide), rfl, rfl, by unfold itB; rw [if_neg (by simp), one _ (by decide)]; rfl⟩
  rw [if_neg h7]
  by_cases h8 : c = 8
  · subst h8; exact ⟨_, ita_esc P R 98 8 (by decide), rfl, rfl, by unfold itB; rw [if_neg (by simp), one _ (by decide)]; rfl⟩
  rw [if_neg h8]
  by_cases h12 : c = 12
  · subst h12; exact ⟨_, ita_esc P R 102 12 (by decide), rfl, rfl, by unfold itB; rw [if_neg (by simp), one _ (by decide)]; rfl⟩
  rw [if_neg h12]
  by_cases h10 : c = 10
  · subst h10; exact ⟨_, ita_esc P R 110 10 (by decide), rfl, rfl, by unfold itB; rw [if_neg (by simp), one _ (by decide)]; rfl⟩
  rw [if_neg h10]
  by_cases h13 : c = 13
  · subst h13; exact ⟨_, ita_esc P R 114 13 (by decide), rfl, rfl, by unfold itB; rw [if_neg (by simp), one _ (by decide)]; rfl⟩
  rw [if_neg h13]
  by_cases h9 : c = 9
  · subst h9; exact ⟨_, ita_esc P R 116 9 (by decide), rfl, rfl, by unfold itB; rw [if_neg (by simp), one _ (by decide)]; rfl⟩
  rw [if_neg h9]
  by_cases h11 : c = 11
  · subst h11; exact ⟨_, ita_esc P R 118 11 (by decide), rfl, rfl, by unfold itB; rw [if_neg (by simp), one _ (by decide)]; rfl⟩
  rw [if_neg h11]
  by_cases hq : c = 34 ∨ c = 92
  · rw [if_pos hq]
    rcases hq with rfl | rfl
    · exact ⟨_, ita_esc P R 34 34 (by decide), rfl, rfl, by unfold itB; rw [if_neg (by simp), one _ (by decide)]; rfl⟩
    · exact ⟨_, ita_esc P R 92 92 (by decide), rfl, rfl, by unfold itB; rw [if_neg (by simp), one _ (by decide)]; rfl⟩
  rw [if_neg hq]
  have n34 : c.toNat ≠ 34 := fun h => hq (.inl (UInt8.toNat_inj.1 h))
  have n92 : c.toNat ≠ 92 := fun h => hq (.inr (UInt8.toNat_inj.1 h))
  by_cases hp : 32 ≤ c.toNat ∧ c.toNat ≤ 126
  · rw [if_pos hp]
    exact ⟨_, ita_plain P R c hp.1 hp.2 n34 n92, rfl, rfl, by unfold itB; rw [if_neg (by simp), one _ (by simp only; omega)]; simp⟩
  · rw [if_neg hp]
    have h1 := hx_dgv (c.toNat / 16) (by omega)
    have h2 := hx_dgv (c.toNat % 16) (by omega)
    refine ⟨_, ita_hex P R _ _ (by omega) (by omega), rfl, rfl, ?_⟩
    unfold itB
    rw [if_pos rfl]
    simp only [h1, h2]
    have e : c.toNat / 16 * 16 + c.toNat % 16 = c.toNat := by omega
    rw [e]
    simp
end Go.Proofs.YtnaipmgdipflgaaGreatDoor

namespace Go.Proofs.YtnaipmgdipflgaaGreatDoor
open Go.ChangeShapes Go.WideShapes Go.ChangeAt Go.RowKit
set_option linter.unusedVariables false
set_option linter.unusedSimpArgs false

/-- a rune of more than one byte: which bytes it looks at, and what they are again -/
theorem dN_wide (n b0 b1 b2 b3 : Nat) (h0 : b0 < 256) (h1 : b1 < 256) (h2 : b2 < 256) (h3 : b3 < 256) (h : 1 < (Lib.decodeN n b0 b1 b2 b3).2) :
    128 ≤ b0 ∧
    (((Lib.decodeN n b0 b1 b2 b3).2 = 2 ∧ 2 ≤ n ∧ (∀ n' c2 c3, 2 ≤ n' → Lib.decodeN n' b0 b1 c2 c3 = Lib.decodeN n b0 b1 b2 b3) ∧ Lib.encodeRuneZ ((Lib.decodeN n b0 b1 b2 b3).1 : Int) = [(b0 : Int), (b1 : Int)]) ∨
     ((Lib.decodeN n b0 b1 b2 b3).2 = 3 ∧ 3 ≤ n ∧ (∀ n' c3, 3 ≤ n' → Lib.decodeN n' b0 b1 b2 c3 = Lib.decodeN n b0 b1 b2 b3) ∧ Lib.encodeRuneZ ((Lib.decodeN n b0 b1 b2 b3).1 : Int) = [(b0 : Int), (b1 : Int), (b2 : Int)]) ∨
     ((Lib.decodeN n b0 b1 b2 b3).2 = 4 ∧ 4 ≤ n ∧ (∀ n', 4 ≤ n' → Lib.decodeN n' b0 b1 b2 b3 = Lib.decodeN n b0 b1 b2 b3) ∧ Lib.encodeRuneZ ((Lib.decodeN n b0 b1 b2 b3).1 : Int) = [(b0 : Int), (b1 : Int), (b2 : Int), (b3 : Int)])) := by
  by_cases g0 : b0 < 128
  · unfold Lib.decodeN at h; rw [if_pos g0] at h; simp at h
  refine ⟨by omega, ?_⟩
  by_cases g1 : b0 / 32 = 6 ∧ (1 < n ∧ b1 / 64 = 2)
  · have E : ∀ n' c2 c3, 2 ≤ n' → Lib.decodeN n' b0 b1 c2 c3 = if b0 % 32 * 64 + b1 % 64 ≥ 128 then (b0 % 32 * 64 + b1 % 64, 2) else (65533, 1) := fun n' c2 c3 hn => by
      unfold Lib.decodeN; rw [if_neg g0, if_pos ⟨g1.1, by omega, g1.2.2⟩]
    have E0 := E n b2 b3 (by omega)
    by_cases g2 : b0 % 32 * 64 + b1 % 64 ≥ 128
    · rw [if_pos g2] at E0
      left
      rw [E0]
      refine ⟨rfl, by omega, fun n' c2 c3 hn => by rw [E n' c2 c3 hn, if_pos g2], ?_⟩
      simp only
      unfold Lib.encodeRuneZ
      rw [if_neg (by omega), if_pos (by omega)]
      congr 1
      · omega
      · congr 1; omega
    · rw [if_neg g2] at E0; rw [E0] at h; simp at h
  by_cases g2 : b0 / 16 = 14 ∧ (1 < n ∧ b1 / 64 = 2) ∧ (2 < n ∧ b2 / 64 = 2)
  · have E : ∀ n' c3, 3 ≤ n' → Lib.decodeN n' b0 b1 b2 c3 = if b0 % 16 * 4096 + b1 % 64 * 64 + b2 % 64 ≥ 2048 ∧ (b0 % 16 * 4096 + b1 % 64 * 64 + b2 % 64 < 55296 ∨ (57344 ≤ b0 % 16 * 4096 + b1 % 64 * 64 + b2 % 64 ∧ b0 % 16 * 4096 + b1 % 64 * 64 + b2 % 64 ≤ 1114111)) then (b0 % 16 * 4096 + b1 % 64 * 64 + b2 % 64, 3) else (65533, 1) := fun n' c3 hn => by
      unfold Lib.decodeN; rw [if_neg g0, if_neg (by omega), if_pos ⟨g2.1, ⟨by omega, g2.2.1.2⟩, by omega, g2.2.2.2⟩]
    have E0 := E n b3 (by omega)
    split at E0
    · rename_i g3
      right; left
      rw [E0]
      refine ⟨rfl, by omega, fun n' c3 hn => by rw [E n' c3 hn, if_pos g3], ?_⟩
      simp only
      unfold Lib.encodeRuneZ
      rw [if_neg (by omega), if_neg (by omega), if_pos (by omega)]
      congr 1
      · omega
      · congr 1
        · omega
        · congr 1; omega
    · rw [E0] at h; simp at h
  by_cases g3 : b0 / 8 = 30 ∧ (1 < n ∧ b1 / 64 = 2) ∧ (2 < n ∧ b2 / 64 = 2) ∧ (3 < n ∧ b3 / 64 = 2)
  · have E : ∀ n', 4 ≤ n' → Lib.decodeN n' b0 b1 b2 b3 = if b0 % 8 * 262144 + b1 % 64 * 4096 + b2 % 64 * 64 + b3 % 64 ≥ 65536 ∧ (b0 % 8 * 262144 + b1 % 64 * 4096 + b2 % 64 * 64 + b3 % 64 < 55296 ∨ (57344 ≤ b0 % 8 * 262144 + b1 % 64 * 4096 + b2 % 64 * 64 + b3 % 64 ∧ b0 % 8 * 262144 + b1 % 64 * 4096 + b2 % 64 * 64 + b3 % 64 ≤ 1114111)) then (b0 % 8 * 262144 + b1 % 64 * 4096 + b2 % 64 * 64 + b3 % 64, 4) else (65533, 1) := fun n' hn => by
      unfold Lib.decodeN; rw [if_neg g0, if_neg (by omega), if_neg (by omega), if_pos ⟨g3.1, ⟨by omega, g3.2.1.2⟩, ⟨by omega, g3.2.2.1.2⟩, by omega, g3.2.2.2.2⟩]
    have E0 := E n (by omega)
    split at E0
    · rename_i g4
      right; right
      rw [E0]
      refine ⟨rfl, by omega, fun n' hn => by rw [E n' hn, if_pos g4], ?_⟩
      simp only
      unfold Lib.encodeRuneZ
      rw [if_neg (by omega), if_neg (by omega), if_neg (by omega), if_pos (by omega)]
      congr 1
      · omega
      · congr 1
        · omega
        · congr 1
          · omega
          · congr 1; omega
    · rw [E0] at h; simp at h
  · unfold Lib.decodeN at h; rw [if_neg g0, if_neg g1, if_neg g2, if_neg g3] at h; simp at h
theorem get_sq (l : List UInt8) (k j : Nat) (h : k + j < l.length) : ((sq l).extract k (sq l).size).get! j = l[k + j]'h := by
  rw [Utf8W.get!_of_lt _ _ (by rw [ByteArray.size_extract, sq_size]; omega)]
  rw [ByteArray.getElem_extract]
  rfl
theorem get_ex (u : ByteArray) (k j : Nat) (h : k + j < u.size) : (u.extract k u.size).get! j = u[k + j]'h := by
  rw [Utf8W.get!_of_lt _ _ (by rw [ByteArray.size_extract]; omega)]
  rw [ByteArray.getElem_extract]
theorem dec_here (u : ByteArray) (k : Nat) (h : k < u.size) : (rn u k, wd u k) = Lib.decodeN (u.size - k) ((u.extract k u.size).get! 0).toNat ((u.extract k u.size).get! 1).toNat ((u.extract k u.size).get! 2).toNat ((u.extract k u.size).get! 3).toNat := by
  have hz : (u.extract k u.size).size = u.size - k := by rw [ByteArray.size_extract]; omega
  have h0 : Lib.decodeGo (u.extract k u.size) = Utf8.decode (u.extract k u.size) 0 := by
    unfold Lib.decodeGo; rw [if_neg (by omega)]
  unfold rn wd
  rw [h0, Lib.decode_at, hz]
  simp
theorem ext_list (u : ByteArray) (i w : Nat) (h : i + w ≤ u.size) : ∀ j (hj : j < w), (u.extract i (i + w)).data.toList[j]? = some (u[i + j]'(by omega)) := by
  intro j hj
  have hl : j < (u.extract i (i + w)).size := by rw [ByteArray.size_extract]; omega
  have e : (u.extract i (i + w))[j]'hl = u[i + j]'(by omega) := by rw [ByteArray.getElem_extract]
  rw [← e, Array.getElem?_toList]
  exact Array.getElem?_eq_getElem hl
theorem ext_len (u : ByteArray) (i w : Nat) (h : i + w ≤ u.size) : (u.extract i (i + w)).data.toList.length = w := by
  rw [Array.length_toList]
  show (u.extract i (i + w)).size = w
  rw [ByteArray.size_extract]; omega
theorem two_list {l : List UInt8} (a b : UInt8) (hl : l.length = 2) (h0 : l[0]? = some a) (h1 : l[1]? = some b) : l = [a, b] := by
  match l, hl with
  | [x, y], _ => simp at h0 h1; rw [h0, h1]
theorem three_list {l : List UInt8} (a b c : UInt8) (hl : l.length = 3) (h0 : l[0]? = some a) (h1 : l[1]? = some b) (h2 : l[2]? = some c) : l = [a, b, c] := by
  match l, hl with
  | [x, y, z], _ => simp at h0 h1 h2; rw [h0, h1, h2]
theorem four_list {l : List UInt8} (a b c d : UInt8) (hl : l.length = 4) (h0 : l[0]? = some a) (h1 : l[1]? = some b) (h2 : l[2]? = some c) (h3 : l[3]? = some d) : l = [a, b, c, d] := by
  match l, hl with
  | [x, y, z, t], _ => simp at h0 h1 h2 h3; rw [h0, h1, h2, h3]
/-- a rune of more than one byte is read as it was -/
theorem wide_again (u : ByteArray) (i : Nat) (h : i < u.size) (hw : 1 < wd u i) (P R : List UInt8) :
    rn (sq (P ++ (u.extract i (i + wd u i)).data.toList ++ R)) P.length = rn u i ∧ wd (sq (P ++ (u.extract i (i + wd u i)).data.toList ++ R)) P.length = wd u i ∧ 128 ≤ bt (sq (P ++ (u.extract i (i + wd u i)).data.toList ++ R)) P.length ∧ Lib.encodeRune (rn u i : Int) = (u.extract i (i + wd u i)).data.toList := by
  obtain ⟨f1, f2, -, -⟩ := dec_facts u i h
  have hd := dec_here u i h
  obtain ⟨w, hwd⟩ : ∃ w, wd u i = w := ⟨_, rfl⟩
  have hget := ext_list u i w (by omega)
  have hlen := ext_len u i w (by omega)
  rw [hwd] at hw f1 f2 ⊢
  obtain ⟨C, hC⟩ : ∃ C, (u.extract i (i + w)).data.toList = C := ⟨_, rfl⟩
  rw [hC] at hget hlen ⊢
  have hsz : (sq (P ++ C ++ R)).size = P.length + C.length + R.length := sq_len P C R
  have hk : P.length < (sq (P ++ C ++ R)).size := by omega
  have hd2 := dec_here (sq (P ++ C ++ R)) P.length hk
  have same : ∀ j, j < w → (((sq (P ++ C ++ R)).extract P.length (sq (P ++ C ++ R)).size).get! j) = (u.extract i u.size).get! j := fun j hj => by
    rw [get_sq _ _ _ (by simp; omega), get_ex u i j (by omega)]
    have := hget j hj
    rw [List.getElem_append_left (by simp; omega), List.getElem_append_right (by omega)]
    rw [List.getElem?_eq_some_iff] at this
    obtain ⟨_, e⟩ := this
    rw [← e]
    congr 1
    omega
  have hb0 : bt (sq (P ++ C ++ R)) P.length = ((u.extract i u.size).get! 0).toNat := by
    rw [bt_at (c := (u.extract i u.size).get! 0)]
    rw [get_ex u i 0 (by omega), List.append_assoc, List.getElem?_append_right (by omega), Nat.sub_self, List.getElem?_append_left (by omega)]
    exact hget 0 (by omega)
  rw [hb0]
  have g0 := get_ex u i 0 (by omega)
  have g1 := get_ex u i 1 (by omega)
  obtain ⟨x0, e0⟩ : ∃ x, (u.extract i u.size).get! 0 = x := ⟨_, rfl⟩
  obtain ⟨x1, e1⟩ : ∃ x, (u.extract i u.size).get! 1 = x := ⟨_, rfl⟩
  obtain ⟨x2, e2⟩ : ∃ x, (u.extract i u.size).get! 2 = x := ⟨_, rfl⟩
  obtain ⟨x3, e3⟩ : ∃ x, (u.extract i u.size).get! 3 = x := ⟨_, rfl⟩
  rw [e0, e1, e2, e3] at hd
  have hR : rn u i = (Lib.decodeN (u.size - i) x0.toNat x1.toNat x2.toNat x3.toNat).1 := congrArg Prod.fst hd
  have hW : wd u i = (Lib.decodeN (u.size - i) x0.toNat x1.toNat x2.toNat x3.toNat).2 := congrArg Prod.snd hd
  rw [hwd] at hW
  have key := dN_wide (u.size - i) x0.toNat x1.toNat x2.toNat x3.toNat x0.toNat_lt x1.toNat_lt x2.toNat_lt x3.toNat_lt (by omega)
  have bk : ∀ x : UInt8, ((x.toNat : Int)).toNat.toUInt8 = x := fun x => by simp
  rw [same 0 (by omega), same 1 (by omega), e0, e1] at hd2
  rw [e0]
  refine ⟨?_, ?_, key.1, ?_⟩
  · rcases key.2 with ⟨k1, k2, k3, k4⟩ | ⟨k1, k2, k3, k4⟩ | ⟨k1, k2, k3, k4⟩
    · rw [k3 _ _ _ (by omega), ← hd] at hd2; exact (Prod.mk.inj hd2).1
    · rw [same 2 (by omega), e2, k3 _ _ (by omega), ← hd] at hd2; exact (Prod.mk.inj hd2).1
    · rw [same 2 (by omega), same 3 (by omega), e2, e3, k3 _ (by omega), ← hd] at hd2; exact (Prod.mk.inj hd2).1
  · rw [← hwd]
    rcases key.2 with ⟨k1, k2, k3, k4⟩ | ⟨k1, k2, k3, k4⟩ | ⟨k1, k2, k3, k4⟩
    · rw [k3 _ _ _ (by omega), ← hd] at hd2; exact (Prod.mk.inj hd2).2
    · rw [same 2 (by omega), e2, k3 _ _ (by omega), ← hd] at hd2; exact (Prod.mk.inj hd2).2
    · rw [same 2 (by omega), same 3 (by omega), e2, e3, k3 _ (by omega), ← hd] at hd2; exact (Prod.mk.inj hd2).2
  · unfold Lib.encodeRune
    have c0 := hget 0 (by omega)
    have c1 := hget 1 (by omega)
    rw [← get_ex u i 0 (by omega), e0] at c0
    rw [← get_ex u i 1 (by omega), e1] at c1
    rw [hR]
    rcases key.2 with ⟨k1, k2, k3, k4⟩ | ⟨k1, k2, k3, k4⟩ | ⟨k1, k2, k3, k4⟩
    · rw [k4, two_list x0 x1 (by omega) c0 c1]; simp
    · have c2 := hget 2 (by omega)
      rw [← get_ex u i 2 (by omega), e2] at c2
      rw [k4, three_list x0 x1 x2 (by omega) c0 c1 c2]; simp
    · have c2 := hget 2 (by omega)
      rw [← get_ex u i 2 (by omega), e2] at c2
      have c3 := hget 3 (by omega)
      rw [← get_ex u i 3 (by omega), e3] at c3
      rw [k4, four_list x0 x1 x2 x3 (by omega) c0 c1 c2 c3]; simp
/-- what stands for a rune within quotes is read as its bytes -/
theorem ita_q1 (P R : List UInt8) (u : ByteArray) (i : Nat) (h : i < u.size) : ∃ it : Itm, ita (sq (P ++ q1 u i h ++ R)) P.length 34 = some it ∧ it.n = (q1 u i h).length ∧ it.b = false ∧ itB it = (u.extract i (i + wd u i)).data.toList := by
  obtain ⟨f1, f2, -, -⟩ := dec_facts u i h
  unfold q1
  split
  · rename_i hw
    obtain ⟨a, b, c, d⟩ := wide_again u i h hw P R
    have hl := ext_len u i (wd u i) f2
    refine ⟨⟨wd u i, rn u i, false, false⟩, ?_, hl.symm, rfl, ?_⟩
    · unfold ita
      have hsz := sq_len P (u.extract i (i + wd u i)).data.toList R
      rw [if_neg (by omega), itm_else (by omega), a, b]
      simp
      omega
    · unfold itB; rw [if_neg (by simp)]; exact d
  · rename_i hw
    obtain ⟨it, h1, h2, h3, h4⟩ := ita_qe P R (u[i]'h)
    refine ⟨it, h1, h2, h3, h4.trans ?_⟩
    have hw1 : wd u i = 1 := by omega
    rw [hw1]
    have e := ext_list u i 1 (by omega) 0 (by omega)
    have l := ext_len u i 1 (by omega)
    match hc : (u.extract i (i + 1)).data.toList, l with
    | [x], _ => rw [hc] at e; simp at e; rw [e]
theorem ext_cut (u : ByteArray) (i w : Nat) (h : i + w ≤ u.size) : (u.extract i (i + w)).data.toList ++ (u.extract (i + w) u.size).data.toList = (u.extract i u.size).data.toList := by
  simp only [ByteArray.data_extract, Array.toList_extract, List.extract_eq_take_drop]
  have hu : u.data.toList.length = u.size := by rw [Array.length_toList]; rfl
  apply List.ext_getElem?
  intro j
  by_cases hj : j < w
  · rw [List.getElem?_append_left (by simp [hu]; omega)]
    rw [List.getElem?_take_of_lt (by omega), List.getElem?_take_of_lt (by omega)]
  · rw [List.getElem?_append_right (by simp [hu]; omega)]
    simp only [List.length_take, List.length_drop, hu]
    rw [List.getElem?_take, List.getElem?_take, List.getElem?_drop, List.getElem?_drop]
    have e1 : min (i + w - i) (u.size - i) = w := by omega
    rw [e1]
    have e2 : i + w + (j - w) = i + j := by omega
    rw [e2]
    by_cases hj2 : j < u.size - i
    · rw [if_pos (by omega), if_pos hj2]
    · rw [if_neg (by omega), if_neg hj2]
theorem ita_end (P : List UInt8) : ita (sq (P ++ [34])) P.length 34 = none := by
  have hb : bt (sq (P ++ [34])) P.length = 34 := by have := bt_mid P [] 34 0 [34] rfl; simpa using this
  unfold ita
  rw [if_pos (.inr (.inr hb))]
/-- what is quoted is read back -/
theorem tvs_qs (u : ByteArray) : ∀ n k, u.size - k ≤ n → ∀ P : List UInt8, tvs (sq (P ++ qs u n k ++ [34])) P.length = (u.extract k u.size).data.toList
  | n, k, hn, P => by
    by_cases hk : k < u.size
    · match n, hn with
      | 0, hn => omega
      | m + 1, hn =>
        rw [qs, dif_pos hk]
        obtain ⟨f1, f2, -, -⟩ := dec_facts u k hk
        obtain ⟨it, h1, h2, h3, h4⟩ := ita_q1 P (qs u m (k + wd u k) ++ [34]) u k hk
        have e : P ++ (q1 u k hk ++ qs u m (k + wd u k)) ++ [34] = P ++ q1 u k hk ++ (qs u m (k + wd u k) ++ [34]) := by simp
        have t := tvs_qs u m (k + wd u k) (by omega) (P ++ q1 u k hk)
        rw [List.length_append, show P ++ q1 u k hk ++ qs u m (k + wd u k) ++ [34] = P ++ q1 u k hk ++ (qs u m (k + wd u k) ++ [34]) from List.append_assoc _ _ _] at t
        rw [e, tvs_some h1, h4, h2, t, ext_cut u k (wd u k) f2]
    · rw [qs_end u n k hk, List.append_nil, tvs_none (ita_end P)]
      have : (u.extract k u.size).data.toList.length = 0 := by
        rw [Array.length_toList]
        show (u.extract k u.size).size = 0
        rw [ByteArray.size_extract]; omega
      exact (List.eq_nil_of_length_eq_zero this).symm
theorem quo_qs (u : ByteArray) : ∀ n k, u.size - k ≤ n → ∀ (P : List UInt8) (c : Nat), ∃ c', quo (sq (P ++ qs u n k ++ [34])) 34 P.length c none = some (P.length + (qs u n k).length, c', none)
  | n, k, hn, P, c => by
    by_cases hk : k < u.size
    · match n, hn with
      | 0, hn => omega
      | m + 1, hn =>
        rw [qs, dif_pos hk]
        obtain ⟨f1, f2, -, -⟩ := dec_facts u k hk
        obtain ⟨it, h1, h2, h3, h4⟩ := ita_q1 P (qs u m (k + wd u k) ++ [34]) u k hk
        have e : P ++ (q1 u k hk ++ qs u m (k + wd u k)) ++ [34] = P ++ q1 u k hk ++ (qs u m (k + wd u k) ++ [34]) := by simp
        rw [e]
        obtain ⟨i1, i2, i3, i4⟩ := ita_in h1
        unfold ita at h1
        split at h1
        · cases h1
        · rename_i h0
          rw [quo, dif_pos ⟨i1, fun x => h0 (.inr (.inl x))⟩, if_neg (fun x => h0 (.inr (.inr x))), h1]
          simp only
          rw [dif_pos i2, h3]
          simp only [Bool.false_eq_true, false_and, if_false]
          obtain ⟨c', hc⟩ := quo_qs u m (k + wd u k) (by omega) (P ++ q1 u k hk) (c + 1)
          refine ⟨c', ?_⟩
          rw [h2]
          rw [List.length_append] at hc
          have e2 : P ++ q1 u k hk ++ (qs u m (k + wd u k) ++ [34]) = P ++ q1 u k hk ++ qs u m (k + wd u k) ++ [34] := by simp
          rw [e2, hc, List.length_append, Nat.add_assoc]
    · refine ⟨c, ?_⟩
      rw [qs_end u n k hk, List.append_nil]
      have hb : bt (sq (P ++ [34])) P.length = 34 := by have := bt_mid P [] 34 0 [34] rfl; simpa using this
      have hs : P.length < (sq (P ++ [34])).size := by rw [sq_size]; simp
      rw [quo, dif_pos ⟨hs, by omega⟩, if_pos hb]
      simp
theorem qt_cut (u : ByteArray) : qt u = [34] ++ qs u u.size 0 ++ [34] := by unfold qt; simp
theorem qt_text (u : ByteArray) : tvs (sq (qt u)) 1 = u.data.toList := by
  rw [qt_cut]
  have := tvs_qs u u.size 0 (by omega) [34]
  rw [show ([34] : List UInt8).length = 1 from rfl] at this
  rw [this]
  congr 2
  exact ByteArray.extract_zero_size
theorem qt_first (u : ByteArray) (h : 0 < (sq (qt u)).size) : ((sq (qt u))[0]'h).toNat = 34 := rfl
theorem qt_quP (u : ByteArray) : quP (sq (qt u)) 0 = .ok 5 (sq (qt u)).size := by
  have hb : bt (sq (qt u)) 0 = 34 := (bt_at (c := 34) rfl).trans rfl
  obtain ⟨c', hc⟩ := quo_qs u u.size 0 (by omega) [34] 0
  rw [← qt_cut] at hc
  unfold quP
  rw [hb, if_neg (by omega)]
  have h1 : (0 : Nat) + 1 = ([34] : List UInt8).length := rfl
  rw [h1, hc]
  simp only
  rw [if_neg (by omega), if_neg (by omega), sq_size, qt_cut]
  simp
  omega
theorem qt_one (u v : ByteArray) : sq (qt u) = sq (qt v) ↔ u = v := by
  constructor
  · intro h
    have a := qt_text u
    rw [h, qt_text v] at a
    have b : v.data = u.data := Array.toList_inj.1 a
    cases u; cases v
    simp at b
    rw [b]
  · rintro rfl; rfl
theorem qt_back (u : ByteArray) : (⟨(tvs (sq (qt u)) 1).toArray⟩ : ByteArray) = u := by rw [qt_text]
end Go.Proofs.YtnaipmgdipflgaaGreatDoor

namespace Go.Proofs.YtnaipmgdipflgaaGreatDoor
open Go.ChangeShapes Go.WideShapes Go.ChangeAt Go.RowKit
set_option linter.unusedVariables false
set_option linter.unusedSimpArgs false

theorem low_34 : isL 34 = false ∧ blk 34 = false := by constructor <;> decide
theorem kOf_qt (u : ByteArray) : kOf (sq (qt u)) = some 5 := by
  have hb : bt (sq (qt u)) 0 = 34 := (bt_at (c := 34) rfl).trans rfl
  have hz : 0 < (sq (qt u)).size := by rw [sq_size, qt_cut]; simp
  have hr : rn (sq (qt u)) 0 = 34 := by rw [asc_rn hz (by omega)]; exact hb
  have hp : pce (sq (qt u)) 0 = .ok 5 (sq (qt u)).size := by
    unfold pce
    rw [hb, hr, if_neg (by rw [low_34.2]; decide), if_neg (by omega), if_neg (by omega), if_neg (by rw [low_34.1]; decide), if_neg (by omega), if_pos (by omega)]
    exact qt_quP u
  unfold kOf
  rw [if_neg (by omega), hp]
  simp
theorem txB_qt (u : ByteArray) : txB (sq (qt u)) = u.data.toList := by
  have hb : bt (sq (qt u)) 0 = 34 := (bt_at (c := 34) rfl).trans rfl
  unfold txB
  rw [if_neg (by omega), qt_text]
theorem itoa_head (n : Int) : ∃ c r, Lib.itoa n = c :: r ∧ (c.toNat = 45 ∨ 48 ≤ c.toNat ∧ c.toNat ≤ 57) := by
  by_cases h : n < 0
  · have e : n = -((n.natAbs : Nat) : Int) := by omega
    rw [e, Lib.itoa_neg _ (by omega)]
    exact ⟨_, _, rfl, .inl rfl⟩
  · have e : n = ((n.toNat : Nat) : Int) := by omega
    rw [e, Lib.itoa_nonneg]
    obtain ⟨c, r, e2, h3, h4⟩ := dec_head n.toNat
    exact ⟨c, r, e2, .inr ⟨h3, h4⟩⟩
/-- the values that are one of a sort -/
theorem rgt_cases {x : Vl} (h : rgt x = true) : (∃ b, x = ⟨1, b, 0, ⟨#[]⟩⟩) ∨ (∃ n, x = ⟨2, false, n, ⟨#[]⟩⟩) ∨ ∃ t, x = ⟨3, false, 0, t⟩ := by
  obtain ⟨k, b, i, s⟩ := x
  have he : s.toList.isEmpty = true → s = ⟨#[]⟩ := by
    intro e
    rw [Lib.toList_data] at e
    cases s with | mk a => simp at e; subst e; rfl
  simp only [rgt, Bool.or_eq_true, Bool.and_eq_true, beq_iff_eq, Bool.not_eq_true'] at h
  rcases h with (⟨⟨h1, h2⟩, h3⟩ | ⟨⟨h1, h2⟩, h3⟩) | ⟨⟨h1, h2⟩, h3⟩
  · exact .inl ⟨b, by rw [h1, h2, he h3]⟩
  · exact .inr (.inl ⟨i, by rw [h1, h2, he h3]⟩)
  · exact .inr (.inr ⟨s, by rw [h1, h2, h3]⟩)
theorem shw_no {x : Vl} (h : rgt x = false) : shw x = [] := by unfold shw; rw [h]; rfl
theorem shw_tru : shw ⟨1, true, 0, ⟨#[]⟩⟩ = [116, 114, 117, 101] := by
  have e : (⟨#[]⟩ : ByteArray).toList = [] := by rw [Lib.toList_data]
  simp [shw, rgt, e]
theorem shw_fls : shw ⟨1, false, 0, ⟨#[]⟩⟩ = [102, 97, 108, 115, 101] := by
  have e : (⟨#[]⟩ : ByteArray).toList = [] := by rw [Lib.toList_data]
  simp [shw, rgt, e]
theorem rdA_nil : rdA ⟨#[]⟩ = (zVl, 1) := by
  unfold rdA
  rw [if_neg (by simp), if_neg (by simp), if_neg (by simp)]
  rfl
/-- what is shown is read back -/
theorem rdA_shw {x : Vl} (hi : -9223372036854775808 ≤ x.i ∧ x.i ≤ 9223372036854775807) (h : rgt x = true) : rdA ⟨(shw x).toArray⟩ = (x, 0) := by
  rcases rgt_cases h with ⟨b, rfl⟩ | ⟨n, rfl⟩ | ⟨t, rfl⟩
  · cases b
    · rw [shw_fls]
      unfold rdA
      rw [if_neg (by simp), if_pos (by simp)]
    · rw [shw_tru]
      unfold rdA
      rw [if_pos (by simp)]
  · rw [shw_num]
    obtain ⟨c, r, e, hc⟩ := itoa_head n
    have hd := dcm_itoa n hi.1 hi.2
    have n1 : ∀ d : UInt8, (d.toNat = 116 ∨ d.toNat = 102 ∨ d.toNat = 34) → c ≠ d := by
      intro d hd e; subst e; omega
    unfold rdA
    rw [show (⟨(Lib.itoa n).toArray⟩ : ByteArray).data.toList = Lib.itoa n by simp]
    rw [if_neg (by rw [e]; intro h; exact n1 116 (by decide) (List.cons.inj h).1), if_neg (by rw [e]; intro h; exact n1 102 (by decide) (List.cons.inj h).1),
      if_neg (by rw [e]; intro h; exact n1 34 (by decide) (Option.some.inj h)), hd]
    simp
  · rw [shw_txt]
    unfold rdA
    rw [show (⟨(qt t).toArray⟩ : ByteArray).data.toList = qt t by simp]
    rw [if_neg (by rw [qt_cut]; simp), if_neg (by rw [qt_cut]; simp), if_pos (qt_head t)]
    have e1 := kOf_qt t
    have e2 := txB_qt t
    unfold sq at e1 e2
    have e3 : (⟨(txB ⟨(qt t).toArray⟩).toArray⟩ : ByteArray) = t := by rw [e2]
    rw [e3, if_pos ⟨e1, rfl⟩]
/-- what is read is shown as it was -/
theorem rdA_back (s : ByteArray) : ((rdA s).2 = 0 ∧ shw (rdA s).1 = s.data.toList ∧ rgt (rdA s).1 = true) ∨ rdA s = (zVl, 1) := by
  have e : (⟨#[]⟩ : ByteArray).toList = [] := by rw [Lib.toList_data]
  unfold rdA
  by_cases h1 : s.data.toList = [116, 114, 117, 101]
  · rw [if_pos h1]
    exact .inl ⟨rfl, by rw [shw_tru, h1], by simp [rgt, e]⟩
  · rw [if_neg h1]
    by_cases h2 : s.data.toList = [102, 97, 108, 115, 101]
    · rw [if_pos h2]
      exact .inl ⟨rfl, by rw [shw_fls, h2], by simp [rgt, e]⟩
    · rw [if_neg h2]
      by_cases h3 : s.data.toList.head? = some 34
      · rw [if_pos h3]
        by_cases h4 : kOf s = some 5 ∧ qt ⟨(txB s).toArray⟩ = s.data.toList
        · rw [if_pos h4]
          exact .inl ⟨rfl, by rw [shw_txt]; exact h4.2, by simp [rgt]⟩
        · rw [if_neg h4]
          exact .inr rfl
      · rw [if_neg h3]
        cases hd : dcm s.data.toList with
        | none => exact .inr rfl
        | some n =>
          simp only
          by_cases h5 : Lib.itoa n = s.data.toList
          · rw [if_pos h5]
            exact .inl ⟨rfl, by rw [shw_num]; exact h5, by simp [rgt, e]⟩
          · rw [if_neg h5]
            exact .inr rfl
theorem shw_one {x y : Vl} (hx : -9223372036854775808 ≤ x.i ∧ x.i ≤ 9223372036854775807) (hy : -9223372036854775808 ≤ y.i ∧ y.i ≤ 9223372036854775807) (h1 : rgt x = true) (h2 : rgt y = true) : shw x = shw y ↔ x = y := by
  constructor
  · intro h
    have a := rdA_shw hx h1
    rw [h, rdA_shw hy h2] at a
    exact (Prod.mk.inj a).1.symm
  · rintro rfl; rfl
end Go.Proofs.YtnaipmgdipflgaaGreatDoor

namespace Go.Proofs.YtnaipmgdipflgaaGreatDoor
open Go.ChangeShapes Go.WideShapes Go.ChangeAt Go.RowKit
set_option linter.unusedVariables false
set_option linter.unusedSimpArgs false

set_option maxRecDepth 1000000 in
set_option maxHeartbeats 8000000 in
theorem back_no_ok (xk xi : Int) (xb : Bool) (xt : ByteArray) (uk ui : Int) (ub : Bool) (ut : ByteArray) (yk yi : Int) (yb : Bool) (yt : ByteArray) (zk zi : Int) (zb : Bool) (zt : ByteArray) (s q : ByteArray) (hq : (q.toList == []) = true) (hq2 : (q.toList != []) = false) (hq3 : q.toList.isEmpty = true) (w : World)
    (H1 : (∀ v, Below w.heap.size w v → Calls Tryz.prog 9 #[.agg #[.int .u8 xk, .bool xb, .int .i64 xi, .string xt]] v fun e w' => e = .returned (.string q) ∧ Below v.heap.size v w'))
    (H2 : (∀ v, Below w.heap.size w v → Calls Tryz.prog 8 #[.string q] v fun e w' => e = .returned (.tuple #[.agg #[.int .u8 zk, .bool zb, .int .i64 zi, .string zt], .int .i64 1]) ∧ Below v.heap.size v w'))
    (H3 : (∀ v, Below w.heap.size w v → Calls Tryz.prog 10 #[.agg #[.int .u8 xk, .bool xb, .int .i64 xi, .string xt]] v fun e w' => e = .returned (.bool false) ∧ Below v.heap.size v w'))
    (H6 : (∀ v, Below w.heap.size w v → Calls Tryz.prog 8 #[.string s] v fun e w' => e = .returned (.tuple #[.agg #[.int .u8 uk, .bool ub, .int .i64 ui, .string ut], .int .i64 0]) ∧ Below v.heap.size v w'))
    (H7 : (∀ v, Below w.heap.size w v → Calls Tryz.prog 9 #[.agg #[.int .u8 uk, .bool ub, .int .i64 ui, .string ut]] v fun e w' => e = .returned (.string s) ∧ Below v.heap.size v w'))
    : Calls Tryz.prog 4 #[.agg #[.int .u8 xk, .bool xb, .int .i64 xi, .string xt], .agg #[.int .u8 yk, .bool yb, .int .i64 yi, .string yt], .string s] w fun e w' => e = .returned (.bool true) ∧ Below w.heap.size w w' := by
  have G1 : Hid (∀ v, Below w.heap.size w v → Calls Tryz.prog 9 #[.agg #[.int .u8 xk, .bool xb, .int .i64 xi, .string xt]] v fun e w' => e = .returned (.string q) ∧ Below v.heap.size v w') := H1
  have G2 : Hid (∀ v, Below w.heap.size w v → Calls Tryz.prog 8 #[.string q] v fun e w' => e = .returned (.tuple #[.agg #[.int .u8 zk, .bool zb, .int .i64 zi, .string zt], .int .i64 1]) ∧ Below v.heap.size v w') := H2
  have G3 : Hid (∀ v, Below w.heap.size w v → Calls Tryz.prog 10 #[.agg #[.int .u8 xk, .bool xb, .int .i64 xi, .string xt]] v fun e w' => e = .returned (.bool false) ∧ Below v.heap.size v w') := H3
  have G6 : Hid (∀ v, Below w.heap.size w v → Calls Tryz.prog 8 #[.string s] v fun e w' => e = .returned (.tuple #[.agg #[.int .u8 uk, .bool ub, .int .i64 ui, .string ut], .int .i64 0]) ∧ Below v.heap.size v w') := H6
  have G7 : Hid (∀ v, Below w.heap.size w v → Calls Tryz.prog 9 #[.agg #[.int .u8 uk, .bool ub, .int .i64 ui, .string ut]] v fun e w' => e = .returned (.string s) ∧ Below v.heap.size v w') := H7
  clear H1 H2 H3 H6 H7
  have hxx : (xt.toList == xt.toList) = true := by simp
  have hss : (s.toList == s.toList) = true := by simp
  have hqq : (q.toList == q.toList) = true := by simp
  obtain ⟨w2, e2, hb2, hs2, B2, D2⟩ := bx2 w #[.int .u8 xk, .bool xb, .int .i64 xi, .string xt] #[.int .u8 yk, .bool yb, .int .i64 yi, .string yt] 25 25
  have HB2 : Hid (Below w.heap.size w w2) := hb2
  have HX2 : Hid (Bx w2 w.heap.size #[.int .u8 xk, .bool xb, .int .i64 xi, .string xt] 25) := B2
  have HY2 : Hid (Bx w2 (w.heap.size + 1) #[.int .u8 yk, .bool yb, .int .i64 yi, .string yt] 25) := D2
  obtain ⟨cX20, cX21, cX22, cX23, cX24, cX25, cX26, cX27, cX28⟩ := B2.facts4
  clear hb2 B2 D2 hs2
  go_enter Tryz.func4, Tryz.ntmps4
  go_upto_region 4 with (first
    | (go_at_call 9; (with_reducible refine (G1.out _ HB2.out).mono ?_); rintro e w3 ⟨rfl, hb3⟩; have HB3 : Hid (Below w.heap.size w w3) := HB2.out.trans (hb3.mono HB2.out.size); have HX3 : Hid (Bx w3 w.heap.size #[.int .u8 xk, .bool xb, .int .i64 xi, .string xt] 25) := HX2.out.below hb3 HX2.out.lt; obtain ⟨cX30, cX31, cX32, cX33, cX34, cX35, cX36, cX37, cX38⟩ := HX3.out.facts4; have HY3 : Hid (Bx w3 (w.heap.size + 1) #[.int .u8 yk, .bool yb, .int .i64 yi, .string yt] 25) := HY2.out.below hb3 HY2.out.lt; clear hb3 HB2 HX2 HY2)
    | (go_at_call 8; (with_reducible refine (G2.out _ HB3.out).mono ?_); rintro e w4 ⟨rfl, hb4⟩; have HB4 : Hid (Below w.heap.size w w4) := HB3.out.trans (hb4.mono HB3.out.size); have HX4 : Hid (Bx w4 w.heap.size #[.int .u8 xk, .bool xb, .int .i64 xi, .string xt] 25) := HX3.out.below hb4 HX3.out.lt; obtain ⟨cX40, cX41, cX42, cX43, cX44, cX45, cX46, cX47, cX48⟩ := HX4.out.facts4; have HY4 : Hid (Bx w4 (w.heap.size + 1) #[.int .u8 yk, .bool yb, .int .i64 yi, .string yt] 25) := HY3.out.below hb4 HY3.out.lt; clear hb4 HB3 HX3 HY3; obtain ⟨w5, e5, hb5, hs5, B5⟩ := bx1 w4 #[.int .u8 zk, .bool zb, .int .i64 zi, .string zt] 25; have HB5 : Hid (Below w.heap.size w w5) := HB4.out.trans (hb5.mono HB4.out.size); have HX5 : Hid (Bx w5 w.heap.size #[.int .u8 xk, .bool xb, .int .i64 xi, .string xt] 25) := HX4.out.below hb5 HX4.out.lt; obtain ⟨cX50, cX51, cX52, cX53, cX54, cX55, cX56, cX57, cX58⟩ := HX5.out.facts4; have HY5 : Hid (Bx w5 (w.heap.size + 1) #[.int .u8 yk, .bool yb, .int .i64 yi, .string yt] 25) := HY4.out.below hb5 HY4.out.lt; have HZ5 : Hid (Bx w5 w4.heap.size #[.int .u8 zk, .bool zb, .int .i64 zi, .string zt] 25) := B5; obtain ⟨cZ50, cZ51, cZ52, cZ53, cZ54, cZ55, cZ56, cZ57, cZ58⟩ := B5.facts4; clear hb5 B5 hs5 HB4 HX4 HY4)
    | (go_at_call 10; (with_reducible refine (G3.out _ HB5.out).mono ?_); rintro e w6 ⟨rfl, hb6⟩; have HB6 : Hid (Below w.heap.size w w6) := HB5.out.trans (hb6.mono HB5.out.size); have HX6 : Hid (Bx w6 w.heap.size #[.int .u8 xk, .bool xb, .int .i64 xi, .string xt] 25) := HX5.out.below hb6 HX5.out.lt; obtain ⟨cX60, cX61, cX62, cX63, cX64, cX65, cX66, cX67, cX68⟩ := HX6.out.facts4; have HY6 : Hid (Bx w6 (w.heap.size + 1) #[.int .u8 yk, .bool yb, .int .i64 yi, .string yt] 25) := HY5.out.below hb6 HY5.out.lt; have HZ6 : Hid (Bx w6 w4.heap.size #[.int .u8 zk, .bool zb, .int .i64 zi, .string zt] 25) := HZ5.out.below hb6 HZ5.out.lt; obtain ⟨cZ60, cZ61, cZ62, cZ63, cZ64, cZ65, cZ66, cZ67, cZ68⟩ := HZ6.out.facts4; clear hb6 HB5 HX5 HY5 HZ5)
    | (go_at_call 10; (with_reducible refine (G3.out _ HB6.out).mono ?_); rintro e w7 ⟨rfl, hb7⟩; have HB7 : Hid (Below w.heap.size w w7) := HB6.out.trans (hb7.mono HB6.out.size); have HX7 : Hid (Bx w7 w.heap.size #[.int .u8 xk, .bool xb, .int .i64 xi, .string xt] 25) := HX6.out.below hb7 HX6.out.lt; obtain ⟨cX70, cX71, cX72, cX73, cX74, cX75, cX76, cX77, cX78⟩ := HX7.out.facts4; have HY7 : Hid (Bx w7 (w.heap.size + 1) #[.int .u8 yk, .bool yb, .int .i64 yi, .string yt] 25) := HY6.out.below hb7 HY6.out.lt; have HZ7 : Hid (Bx w7 w4.heap.size #[.int .u8 zk, .bool zb, .int .i64 zi, .string zt] 25) := HZ6.out.below hb7 HZ6.out.lt; obtain ⟨cZ70, cZ71, cZ72, cZ73, cZ74, cZ75, cZ76, cZ77, cZ78⟩ := HZ7.out.facts4; clear hb7 HB6 HX6 HY6 HZ6)
    | (go_at_call 9; (with_reducible refine (G1.out _ HB7.out).mono ?_); rintro e w8 ⟨rfl, hb8⟩; have HB8 : Hid (Below w.heap.size w w8) := HB7.out.trans (hb8.mono HB7.out.size); have HX8 : Hid (Bx w8 w.heap.size #[.int .u8 xk, .bool xb, .int .i64 xi, .string xt] 25) := HX7.out.below hb8 HX7.out.lt; obtain ⟨cX80, cX81, cX82, cX83, cX84, cX85, cX86, cX87, cX88⟩ := HX8.out.facts4; have HY8 : Hid (Bx w8 (w.heap.size + 1) #[.int .u8 yk, .bool yb, .int .i64 yi, .string yt] 25) := HY7.out.below hb8 HY7.out.lt; have HZ8 : Hid (Bx w8 w4.heap.size #[.int .u8 zk, .bool zb, .int .i64 zi, .string zt] 25) := HZ7.out.below hb8 HZ7.out.lt; obtain ⟨cZ80, cZ81, cZ82, cZ83, cZ84, cZ85, cZ86, cZ87, cZ88⟩ := HZ8.out.facts4; clear hb8 HB7 HX7 HY7 HZ7))
  obtain ⟨X, F, hX, hF, onto⟩ := class_of (fun v => Below w8.heap.size w8 v) (Below.refl _ w8)
  have HF : Hid (∀ y, Below w8.heap.size w8 (F y)) := hF
  have HFw : Hid (∀ y, Below w.heap.size w (F y)) := fun y => HB8.out.trans ((hF y).mono HB8.out.size)
  have HO : Hid (∀ v, Below w8.heap.size w8 v → ∃ x, v = F x) := fun v h => by obtain ⟨x, hx⟩ := onto v h; exact ⟨x, hx.symm⟩
  have fX0 : ∀ v, (F v).cell? ⟨w.heap.size, 0, none⟩ = some (.int .u8 xk) := fun v => (HX8.out.below (hF v) HX8.out.lt).cell 0
  have fX1 : ∀ v, (F v).cell? ⟨w.heap.size, 1, none⟩ = some (.bool xb) := fun v => (HX8.out.below (hF v) HX8.out.lt).cell 1
  have fX2 : ∀ v, (F v).cell? ⟨w.heap.size, 2, none⟩ = some (.int .i64 xi) := fun v => (HX8.out.below (hF v) HX8.out.lt).cell 2
  have fX3 : ∀ v, (F v).cell? ⟨w.heap.size, 3, none⟩ = some (.string xt) := fun v => (HX8.out.below (hF v) HX8.out.lt).cell 3
  have fY0 : ∀ v, (F v).cell? ⟨w.heap.size + 1, 0, none⟩ = some (.int .u8 yk) := fun v => (HY8.out.below (hF v) HY8.out.lt).cell 0
  have fY1 : ∀ v, (F v).cell? ⟨w.heap.size + 1, 1, none⟩ = some (.bool yb) := fun v => (HY8.out.below (hF v) HY8.out.lt).cell 1
  have fY2 : ∀ v, (F v).cell? ⟨w.heap.size + 1, 2, none⟩ = some (.int .i64 yi) := fun v => (HY8.out.below (hF v) HY8.out.lt).cell 2
  have fY3 : ∀ v, (F v).cell? ⟨w.heap.size + 1, 3, none⟩ = some (.string yt) := fun v => (HY8.out.below (hF v) HY8.out.lt).cell 3
  clear hF onto
  refine region_class F (by kernel_rfl) (by kernel_rfl) (by obtain ⟨x, hx⟩ := HO.out _ (Below.refl _ _).drew; exact ⟨x, hx.symm⟩) ?_
  repeat (go_big_quiet_step (first
      | (go_at_call 10; (with_reducible refine (G3.out _ (HFw.out _)).mono ?_); rintro e w9 ⟨rfl, hb9⟩; exact ⟨rfl, HO.out _ ((HF.out _).trans (hb9.mono (HF.out _).size))⟩)
      | (go_at_call 9; (with_reducible refine (G1.out _ (HFw.out _)).mono ?_); rintro e w9 ⟨rfl, hb9⟩; exact ⟨rfl, HO.out _ ((HF.out _).trans (hb9.mono (HF.out _).size))⟩)))
  refine wpQuiet_nil ?_
  rintro _ ⟨nq, rfl⟩
  have HB10 : Hid (Below w.heap.size w (F nq)) := HFw.out nq
  generalize F nq = w10 at HB10 ⊢
  clear HF HFw HO fX0 fX1 fX2 fX3 fY0 fY1 fY2 fY3
  go_wp2_with (first
    | (go_at_call 8; (with_reducible refine (G6.out _ HB10.out).mono ?_); rintro e w11 ⟨rfl, hb11⟩; have HB11 : Hid (Below w.heap.size w w11) := HB10.out.trans (hb11.mono HB10.out.size); obtain ⟨w12, e12, hb12, hs12, B12⟩ := bx1 w11 #[.int .u8 uk, .bool ub, .int .i64 ui, .string ut] 25; have HB12 : Hid (Below w.heap.size w w12) := HB11.out.trans (hb12.mono HB11.out.size); have HU12 : Hid (Bx w12 w11.heap.size #[.int .u8 uk, .bool ub, .int .i64 ui, .string ut] 25) := B12; obtain ⟨d0, d1, d2, d3, g0, g1, g2, g3, l2⟩ := B12.facts4; clear hb11 hb12 B12 hs12)
    | (go_at_call 9; (with_reducible refine (G7.out _ HB12.out).mono ?_); rintro e w13 ⟨rfl, hb13⟩; have HB13 : Hid (Below w.heap.size w w13) := HB12.out.trans (hb13.mono HB12.out.size); clear hb13))
  go_ret
  refine ⟨?_, HB13.out⟩
  first | rfl | simp

set_option maxRecDepth 1000000 in
set_option maxHeartbeats 8000000 in
theorem back_no_bad (xk xi : Int) (xb : Bool) (xt : ByteArray) (uk ui : Int) (ub : Bool) (ut : ByteArray) (yk yi : Int) (yb : Bool) (yt : ByteArray) (zk zi : Int) (zb : Bool) (zt : ByteArray) (s q : ByteArray) (hq : (q.toList == []) = true) (hq2 : (q.toList != []) = false) (hq3 : q.toList.isEmpty = true) (hZ : ∀ v, (Op.equalIn 10000 25 (.agg #[.int .u8 uk, .bool ub, .int .i64 ui, .string ut]) (.agg #[.int .u8 0, .bool false, .int .i64 0, .string ⟨#[]⟩])).run Tryz.prog v = .ok true v) (w : World)
    (H1 : (∀ v, Below w.heap.size w v → Calls Tryz.prog 9 #[.agg #[.int .u8 xk, .bool xb, .int .i64 xi, .string xt]] v fun e w' => e = .returned (.string q) ∧ Below v.heap.size v w'))
    (H2 : (∀ v, Below w.heap.size w v → Calls Tryz.prog 8 #[.string q] v fun e w' => e = .returned (.tuple #[.agg #[.int .u8 zk, .bool zb, .int .i64 zi, .string zt], .int .i64 1]) ∧ Below v.heap.size v w'))
    (H3 : (∀ v, Below w.heap.size w v → Calls Tryz.prog 10 #[.agg #[.int .u8 xk, .bool xb, .int .i64 xi, .string xt]] v fun e w' => e = .returned (.bool false) ∧ Below v.heap.size v w'))
    (H6 : (∀ v, Below w.heap.size w v → Calls Tryz.prog 8 #[.string s] v fun e w' => e = .returned (.tuple #[.agg #[.int .u8 uk, .bool ub, .int .i64 ui, .string ut], .int .i64 1]) ∧ Below v.heap.size v w'))
    : Calls Tryz.prog 4 #[.agg #[.int .u8 xk, .bool xb, .int .i64 xi, .string xt], .agg #[.int .u8 yk, .bool yb, .int .i64 yi, .string yt], .string s] w fun e w' => e = .returned (.bool true) ∧ Below w.heap.size w w' := by
  have G1 : Hid (∀ v, Below w.heap.size w v → Calls Tryz.prog 9 #[.agg #[.int .u8 xk, .bool xb, .int .i64 xi, .string xt]] v fun e w' => e = .returned (.string q) ∧ Below v.heap.size v w') := H1
  have G2 : Hid (∀ v, Below w.heap.size w v → Calls Tryz.prog 8 #[.string q] v fun e w' => e = .returned (.tuple #[.agg #[.int .u8 zk, .bool zb, .int .i64 zi, .string zt], .int .i64 1]) ∧ Below v.heap.size v w') := H2
  have G3 : Hid (∀ v, Below w.heap.size w v → Calls Tryz.prog 10 #[.agg #[.int .u8 xk, .bool xb, .int .i64 xi, .string xt]] v fun e w' => e = .returned (.bool false) ∧ Below v.heap.size v w') := H3
  have G6 : Hid (∀ v, Below w.heap.size w v → Calls Tryz.prog 8 #[.string s] v fun e w' => e = .returned (.tuple #[.agg #[.int .u8 uk, .bool ub, .int .i64 ui, .string ut], .int .i64 1]) ∧ Below v.heap.size v w') := H6
  clear H1 H2 H3 H6
  have hxx : (xt.toList == xt.toList) = true := by simp
  have hss : (s.toList == s.toList) = true := by simp
  have hqq : (q.toList == q.toList) = true := by simp
  obtain ⟨w2, e2, hb2, hs2, B2, D2⟩ := bx2 w #[.int .u8 xk, .bool xb, .int .i64 xi, .string xt] #[.int .u8 yk, .bool yb, .int .i64 yi, .string yt] 25 25
  have HB2 : Hid (Below w.heap.size w w2) := hb2
  have HX2 : Hid (Bx w2 w.heap.size #[.int .u8 xk, .bool xb, .int .i64 xi, .string xt] 25) := B2
  have HY2 : Hid (Bx w2 (w.heap.size + 1) #[.int .u8 yk, .bool yb, .int .i64 yi, .string yt] 25) := D2
  obtain ⟨cX20, cX21, cX22, cX23, cX24, cX25, cX26, cX27, cX28⟩ := B2.facts4
  clear hb2 B2 D2 hs2
  go_enter Tryz.func4, Tryz.ntmps4
  go_upto_region 4 with (first
    | (go_at_call 9; (with_reducible refine (G1.out _ HB2.out).mono ?_); rintro e w3 ⟨rfl, hb3⟩; have HB3 : Hid (Below w.heap.size w w3) := HB2.out.trans (hb3.mono HB2.out.size); have HX3 : Hid (Bx w3 w.heap.size #[.int .u8 xk, .bool xb, .int .i64 xi, .string xt] 25) := HX2.out.below hb3 HX2.out.lt; obtain ⟨cX30, cX31, cX32, cX33, cX34, cX35, cX36, cX37, cX38⟩ := HX3.out.facts4; have HY3 : Hid (Bx w3 (w.heap.size + 1) #[.int .u8 yk, .bool yb, .int .i64 yi, .string yt] 25) := HY2.out.below hb3 HY2.out.lt; clear hb3 HB2 HX2 HY2)
    | (go_at_call 8; (with_reducible refine (G2.out _ HB3.out).mono ?_); rintro e w4 ⟨rfl, hb4⟩; have HB4 : Hid (Below w.heap.size w w4) := HB3.out.trans (hb4.mono HB3.out.size); have HX4 : Hid (Bx w4 w.heap.size #[.int .u8 xk, .bool xb, .int .i64 xi, .string xt] 25) := HX3.out.below hb4 HX3.out.lt; obtain ⟨cX40, cX41, cX42, cX43, cX44, cX45, cX46, cX47, cX48⟩ := HX4.out.facts4; have HY4 : Hid (Bx w4 (w.heap.size + 1) #[.int .u8 yk, .bool yb, .int .i64 yi, .string yt] 25) := HY3.out.below hb4 HY3.out.lt; clear hb4 HB3 HX3 HY3; obtain ⟨w5, e5, hb5, hs5, B5⟩ := bx1 w4 #[.int .u8 zk, .bool zb, .int .i64 zi, .string zt] 25; have HB5 : Hid (Below w.heap.size w w5) := HB4.out.trans (hb5.mono HB4.out.size); have HX5 : Hid (Bx w5 w.heap.size #[.int .u8 xk, .bool xb, .int .i64 xi, .string xt] 25) := HX4.out.below hb5 HX4.out.lt; obtain ⟨cX50, cX51, cX52, cX53, cX54, cX55, cX56, cX57, cX58⟩ := HX5.out.facts4; have HY5 : Hid (Bx w5 (w.heap.size + 1) #[.int .u8 yk, .bool yb, .int .i64 yi, .string yt] 25) := HY4.out.below hb5 HY4.out.lt; have HZ5 : Hid (Bx w5 w4.heap.size #[.int .u8 zk, .bool zb, .int .i64 zi, .string zt] 25) := B5; obtain ⟨cZ50, cZ51, cZ52, cZ53, cZ54, cZ55, cZ56, cZ57, cZ58⟩ := B5.facts4; clear hb5 B5 hs5 HB4 HX4 HY4)
    | (go_at_call 10; (with_reducible refine (G3.out _ HB5.out).mono ?_); rintro e w6 ⟨rfl, hb6⟩; have HB6 : Hid (Below w.heap.size w w6) := HB5.out.trans (hb6.mono HB5.out.size); have HX6 : Hid (Bx w6 w.heap.size #[.int .u8 xk, .bool xb, .int .i64 xi, .string xt] 25) := HX5.out.below hb6 HX5.out.lt; obtain ⟨cX60, cX61, cX62, cX63, cX64, cX65, cX66, cX67, cX68⟩ := HX6.out.facts4; have HY6 : Hid (Bx w6 (w.heap.size + 1) #[.int .u8 yk, .bool yb, .int .i64 yi, .string yt] 25) := HY5.out.below hb6 HY5.out.lt; have HZ6 : Hid (Bx w6 w4.heap.size #[.int .u8 zk, .bool zb, .int .i64 zi, .string zt] 25) := HZ5.out.below hb6 HZ5.out.lt; obtain ⟨cZ60, cZ61, cZ62, cZ63, cZ64, cZ65, cZ66, cZ67, cZ68⟩ := HZ6.out.facts4; clear hb6 HB5 HX5 HY5 HZ5)
    | (go_at_call 10; (with_reducible refine (G3.out _ HB6.out).mono ?_); rintro e w7 ⟨rfl, hb7⟩; have HB7 : Hid (Below w.heap.size w w7) := HB6.out.trans (hb7.mono HB6.out.size); have HX7 : Hid (Bx w7 w.heap.size #[.int .u8 xk, .bool xb, .int .i64 xi, .string xt] 25) := HX6.out.below hb7 HX6.out.lt; obtain ⟨cX70, cX71, cX72, cX73, cX74, cX75, cX76, cX77, cX78⟩ := HX7.out.facts4; have HY7 : Hid (Bx w7 (w.heap.size + 1) #[.int .u8 yk, .bool yb, .int .i64 yi, .string yt] 25) := HY6.out.below hb7 HY6.out.lt; have HZ7 : Hid (Bx w7 w4.heap.size #[.int .u8 zk, .bool zb, .int .i64 zi, .string zt] 25) := HZ6.out.below hb7 HZ6.out.lt; obtain ⟨cZ70, cZ71, cZ72, cZ73, cZ74, cZ75, cZ76, cZ77, cZ78⟩ := HZ7.out.facts4; clear hb7 HB6 HX6 HY6 HZ6)
    | (go_at_call 9; (with_reducible refine (G1.out _ HB7.out).mono ?_); rintro e w8 ⟨rfl, hb8⟩; have HB8 : Hid (Below w.heap.size w w8) := HB7.out.trans (hb8.mono HB7.out.size); have HX8 : Hid (Bx w8 w.heap.size #[.int .u8 xk, .bool xb, .int .i64 xi, .string xt] 25) := HX7.out.below hb8 HX7.out.lt; obtain ⟨cX80, cX81, cX82, cX83, cX84, cX85, cX86, cX87, cX88⟩ := HX8.out.facts4; have HY8 : Hid (Bx w8 (w.heap.size + 1) #[.int .u8 yk, .bool yb, .int .i64 yi, .string yt] 25) := HY7.out.below hb8 HY7.out.lt; have HZ8 : Hid (Bx w8 w4.heap.size #[.int .u8 zk, .bool zb, .int .i64 zi, .string zt] 25) := HZ7.out.below hb8 HZ7.out.lt; obtain ⟨cZ80, cZ81, cZ82, cZ83, cZ84, cZ85, cZ86, cZ87, cZ88⟩ := HZ8.out.facts4; clear hb8 HB7 HX7 HY7 HZ7))
  obtain ⟨X, F, hX, hF, onto⟩ := class_of (fun v => Below w8.heap.size w8 v) (Below.refl _ w8)
  have HF : Hid (∀ y, Below w8.heap.size w8 (F y)) := hF
  have HFw : Hid (∀ y, Below w.heap.size w (F y)) := fun y => HB8.out.trans ((hF y).mono HB8.out.size)
  have HO : Hid (∀ v, Below w8.heap.size w8 v → ∃ x, v = F x) := fun v h => by obtain ⟨x, hx⟩ := onto v h; exact ⟨x, hx.symm⟩
  have fX0 : ∀ v, (F v).cell? ⟨w.heap.size, 0, none⟩ = some (.int .u8 xk) := fun v => (HX8.out.below (hF v) HX8.out.lt).cell 0
  have fX1 : ∀ v, (F v).cell? ⟨w.heap.size, 1, none⟩ = some (.bool xb) := fun v => (HX8.out.below (hF v) HX8.out.lt).cell 1
  have fX2 : ∀ v, (F v).cell? ⟨w.heap.size, 2, none⟩ = some (.int .i64 xi) := fun v => (HX8.out.below (hF v) HX8.out.lt).cell 2
  have fX3 : ∀ v, (F v).cell? ⟨w.heap.size, 3, none⟩ = some (.string xt) := fun v => (HX8.out.below (hF v) HX8.out.lt).cell 3
  have fY0 : ∀ v, (F v).cell? ⟨w.heap.size + 1, 0, none⟩ = some (.int .u8 yk) := fun v => (HY8.out.below (hF v) HY8.out.lt).cell 0
  have fY1 : ∀ v, (F v).cell? ⟨w.heap.size + 1, 1, none⟩ = some (.bool yb) := fun v => (HY8.out.below (hF v) HY8.out.lt).cell 1
  have fY2 : ∀ v, (F v).cell? ⟨w.heap.size + 1, 2, none⟩ = some (.int .i64 yi) := fun v => (HY8.out.below (hF v) HY8.out.lt).cell 2
  have fY3 : ∀ v, (F v).cell? ⟨w.heap.size + 1, 3, none⟩ = some (.string yt) := fun v => (HY8.out.below (hF v) HY8.out.lt).cell 3
  clear hF onto
  refine region_class F (by kernel_rfl) (by kernel_rfl) (by obtain ⟨x, hx⟩ := HO.out _ (Below.refl _ _).drew; exact ⟨x, hx.symm⟩) ?_
  repeat (go_big_quiet_step (first
      | (go_at_call 10; (with_reducible refine (G3.out _ (HFw.out _)).mono ?_); rintro e w9 ⟨rfl, hb9⟩; exact ⟨rfl, HO.out _ ((HF.out _).trans (hb9.mono (HF.out _).size))⟩)
      | (go_at_call 9; (with_reducible refine (G1.out _ (HFw.out _)).mono ?_); rintro e w9 ⟨rfl, hb9⟩; exact ⟨rfl, HO.out _ ((HF.out _).trans (hb9.mono (HF.out _).size))⟩)))
  refine wpQuiet_nil ?_
  rintro _ ⟨nq, rfl⟩
  have HB10 : Hid (Below w.heap.size w (F nq)) := HFw.out nq
  generalize F nq = w10 at HB10 ⊢
  clear HF HFw HO fX0 fX1 fX2 fX3 fY0 fY1 fY2 fY3
  go_wp2_with (first
    | (go_at_call 8; (with_reducible refine (G6.out _ HB10.out).mono ?_); rintro e w11 ⟨rfl, hb11⟩; have HB11 : Hid (Below w.heap.size w w11) := HB10.out.trans (hb11.mono HB10.out.size); obtain ⟨w12, e12, hb12, hs12, B12⟩ := bx1 w11 #[.int .u8 uk, .bool ub, .int .i64 ui, .string ut] 25; have HB12 : Hid (Below w.heap.size w w12) := HB11.out.trans (hb12.mono HB11.out.size); have HU12 : Hid (Bx w12 w11.heap.size #[.int .u8 uk, .bool ub, .int .i64 ui, .string ut] 25) := B12; obtain ⟨d0, d1, d2, d3, g0, g1, g2, g3, l2⟩ := B12.facts4; clear hb11 hb12 B12 hs12))
  go_ret
  refine ⟨?_, HB12.out⟩
  first | rfl | simp

set_option maxRecDepth 1000000 in
set_option maxHeartbeats 8000000 in
theorem back_rn_ok (xk xi : Int) (xb : Bool) (xt : ByteArray) (uk ui : Int) (ub : Bool) (ut : ByteArray) (yk yi : Int) (yb : Bool) (yt : ByteArray) (s q : ByteArray)  (w : World)
    (H1 : (∀ v, Below w.heap.size w v → Calls Tryz.prog 9 #[.agg #[.int .u8 xk, .bool xb, .int .i64 xi, .string xt]] v fun e w' => e = .returned (.string q) ∧ Below v.heap.size v w'))
    (H2 : (∀ v, Below w.heap.size w v → Calls Tryz.prog 8 #[.string q] v fun e w' => e = .returned (.tuple #[.agg #[.int .u8 xk, .bool xb, .int .i64 xi, .string xt], .int .i64 0]) ∧ Below v.heap.size v w'))
    (H3 : (∀ v, Below w.heap.size w v → Calls Tryz.prog 10 #[.agg #[.int .u8 xk, .bool xb, .int .i64 xi, .string xt]] v fun e w' => e = .returned (.bool true) ∧ Below v.heap.size v w'))
    (H4 : (∀ v, Below w.heap.size w v → Calls Tryz.prog 10 #[.agg #[.int .u8 yk, .bool yb, .int .i64 yi, .string yt]] v fun e w' => e = .returned (.bool false) ∧ Below v.heap.size v w'))
    (H6 : (∀ v, Below w.heap.size w v → Calls Tryz.prog 8 #[.string s] v fun e w' => e = .returned (.tuple #[.agg #[.int .u8 uk, .bool ub, .int .i64 ui, .string ut], .int .i64 0]) ∧ Below v.heap.size v w'))
    (H7 : (∀ v, Below w.heap.size w v → Calls Tryz.prog 9 #[.agg #[.int .u8 uk, .bool ub, .int .i64 ui, .string ut]] v fun e w' => e = .returned (.string s) ∧ Below v.heap.size v w'))
    : Calls Tryz.prog 4 #[.agg #[.int .u8 xk, .bool xb, .int .i64 xi, .string xt], .agg #[.int .u8 yk, .bool yb, .int .i64 yi, .string yt], .string s] w fun e w' => e = .returned (.bool true) ∧ Below w.heap.size w w' := by
  have G1 : Hid (∀ v, Below w.heap.size w v → Calls Tryz.prog 9 #[.agg #[.int .u8 xk, .bool xb, .int .i64 xi, .string xt]] v fun e w' => e = .returned (.string q) ∧ Below v.heap.size v w') := H1
  have G2 : Hid (∀ v, Below w.heap.size w v → Calls Tryz.prog 8 #[.string q] v fun e w' => e = .returned (.tuple #[.agg #[.int .u8 xk, .bool xb, .int .i64 xi, .string xt], .int .i64 0]) ∧ Below v.heap.size v w') := H2
  have G3 : Hid (∀ v, Below w.heap.size w v → Calls Tryz.prog 10 #[.agg #[.int .u8 xk, .bool xb, .int .i64 xi, .string xt]] v fun e w' => e = .returned (.bool true) ∧ Below v.heap.size v w') := H3
  have G4 : Hid (∀ v, Below w.heap.size w v → Calls Tryz.prog 10 #[.agg #[.int .u8 yk, .bool yb, .int .i64 yi, .string yt]] v fun e w' => e = .returned (.bool false) ∧ Below v.heap.size v w') := H4
  have G6 : Hid (∀ v, Below w.heap.size w v → Calls Tryz.prog 8 #[.string s] v fun e w' => e = .returned (.tuple #[.agg #[.int .u8 uk, .bool ub, .int .i64 ui, .string ut], .int .i64 0]) ∧ Below v.heap.size v w') := H6
  have G7 : Hid (∀ v, Below w.heap.size w v → Calls Tryz.prog 9 #[.agg #[.int .u8 uk, .bool ub, .int .i64 ui, .string ut]] v fun e w' => e = .returned (.string s) ∧ Below v.heap.size v w') := H7
  clear H1 H2 H3 H4 H6 H7
  have hxx : (xt.toList == xt.toList) = true := by simp
  have hss : (s.toList == s.toList) = true := by simp
  have hqq : (q.toList == q.toList) = true := by simp
  have hXX : ∀ v, (Op.equalIn 10000 25 (.agg #[.int .u8 xk, .bool xb, .int .i64 xi, .string xt]) (.agg #[.int .u8 xk, .bool xb, .int .i64 xi, .string xt])).run Tryz.prog v = .ok true v := fun v => by rw [val_eqIn]; simp
  obtain ⟨w2, e2, hb2, hs2, B2, D2⟩ := bx2 w #[.int .u8 xk, .bool xb, .int .i64 xi, .string xt] #[.int .u8 yk, .bool yb, .int .i64 yi, .string yt] 25 25
  have HB2 : Hid (Below w.heap.size w w2) := hb2
  have HX2 : Hid (Bx w2 w.heap.size #[.int .u8 xk, .bool xb, .int .i64 xi, .string xt] 25) := B2
  have HY2 : Hid (Bx w2 (w.heap.size + 1) #[.int .u8 yk, .bool yb, .int .i64 yi, .string yt] 25) := D2
  obtain ⟨cX20, cX21, cX22, cX23, cX24, cX25, cX26, cX27, cX28⟩ := B2.facts4
  clear hb2 B2 D2 hs2
  go_enter Tryz.func4, Tryz.ntmps4
  go_upto_region 4 with (first
    | (go_at_call 9; (with_reducible refine (G1.out _ HB2.out).mono ?_); rintro e w3 ⟨rfl, hb3⟩; have HB3 : Hid (Below w.heap.size w w3) := HB2.out.trans (hb3.mono HB2.out.size); have HX3 : Hid (Bx w3 w.heap.size #[.int .u8 xk, .bool xb, .int .i64 xi, .string xt] 25) := HX2.out.below hb3 HX2.out.lt; obtain ⟨cX30, cX31, cX32, cX33, cX34, cX35, cX36, cX37, cX38⟩ := HX3.out.facts4; have HY3 : Hid (Bx w3 (w.heap.size + 1) #[.int .u8 yk, .bool yb, .int .i64 yi, .string yt] 25) := HY2.out.below hb3 HY2.out.lt; clear hb3 HB2 HX2 HY2)
    | (go_at_call 8; (with_reducible refine (G2.out _ HB3.out).mono ?_); rintro e w4 ⟨rfl, hb4⟩; have HB4 : Hid (Below w.heap.size w w4) := HB3.out.trans (hb4.mono HB3.out.size); have HX4 : Hid (Bx w4 w.heap.size #[.int .u8 xk, .bool xb, .int .i64 xi, .string xt] 25) := HX3.out.below hb4 HX3.out.lt; obtain ⟨cX40, cX41, cX42, cX43, cX44, cX45, cX46, cX47, cX48⟩ := HX4.out.facts4; have HY4 : Hid (Bx w4 (w.heap.size + 1) #[.int .u8 yk, .bool yb, .int .i64 yi, .string yt] 25) := HY3.out.below hb4 HY3.out.lt; clear hb4 HB3 HX3 HY3; obtain ⟨w5, e5, hb5, hs5, B5⟩ := bx1 w4 #[.int .u8 xk, .bool xb, .int .i64 xi, .string xt] 25; have HB5 : Hid (Below w.heap.size w w5) := HB4.out.trans (hb5.mono HB4.out.size); have HX5 : Hid (Bx w5 w.heap.size #[.int .u8 xk, .bool xb, .int .i64 xi, .string xt] 25) := HX4.out.below hb5 HX4.out.lt; obtain ⟨cX50, cX51, cX52, cX53, cX54, cX55, cX56, cX57, cX58⟩ := HX5.out.facts4; have HY5 : Hid (Bx w5 (w.heap.size + 1) #[.int .u8 yk, .bool yb, .int .i64 yi, .string yt] 25) := HY4.out.below hb5 HY4.out.lt; have HZ5 : Hid (Bx w5 w4.heap.size #[.int .u8 xk, .bool xb, .int .i64 xi, .string xt] 25) := B5; obtain ⟨cZ50, cZ51, cZ52, cZ53, cZ54, cZ55, cZ56, cZ57, cZ58⟩ := B5.facts4; clear hb5 B5 hs5 HB4 HX4 HY4)
    | (go_at_call 10; (with_reducible refine (G3.out _ HB5.out).mono ?_); rintro e w6 ⟨rfl, hb6⟩; have HB6 : Hid (Below w.heap.size w w6) := HB5.out.trans (hb6.mono HB5.out.size); have HX6 : Hid (Bx w6 w.heap.size #[.int .u8 xk, .bool xb, .int .i64 xi, .string xt] 25) := HX5.out.below hb6 HX5.out.lt; obtain ⟨cX60, cX61, cX62, cX63, cX64, cX65, cX66, cX67, cX68⟩ := HX6.out.facts4; have HY6 : Hid (Bx w6 (w.heap.size + 1) #[.int .u8 yk, .bool yb, .int .i64 yi, .string yt] 25) := HY5.out.below hb6 HY5.out.lt; have HZ6 : Hid (Bx w6 w4.heap.size #[.int .u8 xk, .bool xb, .int .i64 xi, .string xt] 25) := HZ5.out.below hb6 HZ5.out.lt; obtain ⟨cZ60, cZ61, cZ62, cZ63, cZ64, cZ65, cZ66, cZ67, cZ68⟩ := HZ6.out.facts4; clear hb6 HB5 HX5 HY5 HZ5)
    | (go_at_call 10; (with_reducible refine (G3.out _ HB6.out).mono ?_); rintro e w7 ⟨rfl, hb7⟩; have HB7 : Hid (Below w.heap.size w w7) := HB6.out.trans (hb7.mono HB6.out.size); have HX7 : Hid (Bx w7 w.heap.size #[.int .u8 xk, .bool xb, .int .i64 xi, .string xt] 25) := HX6.out.below hb7 HX6.out.lt; obtain ⟨cX70, cX71, cX72, cX73, cX74, cX75, cX76, cX77, cX78⟩ := HX7.out.facts4; have HY7 : Hid (Bx w7 (w.heap.size + 1) #[.int .u8 yk, .bool yb, .int .i64 yi, .string yt] 25) := HY6.out.below hb7 HY6.out.lt; have HZ7 : Hid (Bx w7 w4.heap.size #[.int .u8 xk, .bool xb, .int .i64 xi, .string xt] 25) := HZ6.out.below hb7 HZ6.out.lt; obtain ⟨cZ70, cZ71, cZ72, cZ73, cZ74, cZ75, cZ76, cZ77, cZ78⟩ := HZ7.out.facts4; clear hb7 HB6 HX6 HY6 HZ6))
  obtain ⟨X, F, hX, hF, onto⟩ := class_of (fun v => Below w7.heap.size w7 v) (Below.refl _ w7)
  have HF : Hid (∀ y, Below w7.heap.size w7 (F y)) := hF
  have HFw : Hid (∀ y, Below w.heap.size w (F y)) := fun y => HB7.out.trans ((hF y).mono HB7.out.size)
  have HO : Hid (∀ v, Below w7.heap.size w7 v → ∃ x, v = F x) := fun v h => by obtain ⟨x, hx⟩ := onto v h; exact ⟨x, hx.symm⟩
  have fX0 : ∀ v, (F v).cell? ⟨w.heap.size, 0, none⟩ = some (.int .u8 xk) := fun v => (HX7.out.below (hF v) HX7.out.lt).cell 0
  have fX1 : ∀ v, (F v).cell? ⟨w.heap.size, 1, none⟩ = some (.bool xb) := fun v => (HX7.out.below (hF v) HX7.out.lt).cell 1
  have fX2 : ∀ v, (F v).cell? ⟨w.heap.size, 2, none⟩ = some (.int .i64 xi) := fun v => (HX7.out.below (hF v) HX7.out.lt).cell 2
  have fX3 : ∀ v, (F v).cell? ⟨w.heap.size, 3, none⟩ = some (.string xt) := fun v => (HX7.out.below (hF v) HX7.out.lt).cell 3
  have fY0 : ∀ v, (F v).cell? ⟨w.heap.size + 1, 0, none⟩ = some (.int .u8 yk) := fun v => (HY7.out.below (hF v) HY7.out.lt).cell 0
  have fY1 : ∀ v, (F v).cell? ⟨w.heap.size + 1, 1, none⟩ = some (.bool yb) := fun v => (HY7.out.below (hF v) HY7.out.lt).cell 1
  have fY2 : ∀ v, (F v).cell? ⟨w.heap.size + 1, 2, none⟩ = some (.int .i64 yi) := fun v => (HY7.out.below (hF v) HY7.out.lt).cell 2
  have fY3 : ∀ v, (F v).cell? ⟨w.heap.size + 1, 3, none⟩ = some (.string yt) := fun v => (HY7.out.below (hF v) HY7.out.lt).cell 3
  clear hF onto
  refine region_class F (by kernel_rfl) (by kernel_rfl) (by obtain ⟨x, hx⟩ := HO.out _ (Below.refl _ _).drew; exact ⟨x, hx.symm⟩) ?_
  repeat (go_big_quiet_step (first
      | (go_at_call 10; (with_reducible refine (G3.out _ (HFw.out _)).mono ?_); rintro e w9 ⟨rfl, hb9⟩; exact ⟨rfl, HO.out _ ((HF.out _).trans (hb9.mono (HF.out _).size))⟩)
      | (go_at_call 9; (with_reducible refine (G1.out _ (HFw.out _)).mono ?_); rintro e w9 ⟨rfl, hb9⟩; exact ⟨rfl, HO.out _ ((HF.out _).trans (hb9.mono (HF.out _).size))⟩)
      | (go_at_call 10; (with_reducible refine (G4.out _ (HFw.out _)).mono ?_); rintro e w9 ⟨rfl, hb9⟩; exact ⟨rfl, HO.out _ ((HF.out _).trans (hb9.mono (HF.out _).size))⟩)))
  refine wpQuiet_nil ?_
  rintro _ ⟨nq, rfl⟩
  have HB10 : Hid (Below w.heap.size w (F nq)) := HFw.out nq
  generalize F nq = w10 at HB10 ⊢
  clear HF HFw HO fX0 fX1 fX2 fX3 fY0 fY1 fY2 fY3
  go_wp2_with (first
    | (go_at_call 8; (with_reducible refine (G6.out _ HB10.out).mono ?_); rintro e w11 ⟨rfl, hb11⟩; have HB11 : Hid (Below w.heap.size w w11) := HB10.out.trans (hb11.mono HB10.out.size); obtain ⟨w12, e12, hb12, hs12, B12⟩ := bx1 w11 #[.int .u8 uk, .bool ub, .int .i64 ui, .string ut] 25; have HB12 : Hid (Below w.heap.size w w12) := HB11.out.trans (hb12.mono HB11.out.size); have HU12 : Hid (Bx w12 w11.heap.size #[.int .u8 uk, .bool ub, .int .i64 ui, .string ut] 25) := B12; obtain ⟨d0, d1, d2, d3, g0, g1, g2, g3, l2⟩ := B12.facts4; clear hb11 hb12 B12 hs12)
    | (go_at_call 9; (with_reducible refine (G7.out _ HB12.out).mono ?_); rintro e w13 ⟨rfl, hb13⟩; have HB13 : Hid (Below w.heap.size w w13) := HB12.out.trans (hb13.mono HB12.out.size); clear hb13))
  go_ret
  refine ⟨?_, HB13.out⟩
  first | rfl | simp

set_option maxRecDepth 1000000 in
set_option maxHeartbeats 8000000 in
theorem back_rn_bad (xk xi : Int) (xb : Bool) (xt : ByteArray) (uk ui : Int) (ub : Bool) (ut : ByteArray) (yk yi : Int) (yb : Bool) (yt : ByteArray) (s q : ByteArray) (hZ : ∀ v, (Op.equalIn 10000 25 (.agg #[.int .u8 uk, .bool ub, .int .i64 ui, .string ut]) (.agg #[.int .u8 0, .bool false, .int .i64 0, .string ⟨#[]⟩])).run Tryz.prog v = .ok true v) (w : World)
    (H1 : (∀ v, Below w.heap.size w v → Calls Tryz.prog 9 #[.agg #[.int .u8 xk, .bool xb, .int .i64 xi, .string xt]] v fun e w' => e = .returned (.string q) ∧ Below v.heap.size v w'))
    (H2 : (∀ v, Below w.heap.size w v → Calls Tryz.prog 8 #[.string q] v fun e w' => e = .returned (.tuple #[.agg #[.int .u8 xk, .bool xb, .int .i64 xi, .string xt], .int .i64 0]) ∧ Below v.heap.size v w'))
    (H3 : (∀ v, Below w.heap.size w v → Calls Tryz.prog 10 #[.agg #[.int .u8 xk, .bool xb, .int .i64 xi, .string xt]] v fun e w' => e = .returned (.bool true) ∧ Below v.heap.size v w'))
    (H4 : (∀ v, Below w.heap.size w v → Calls Tryz.prog 10 #[.agg #[.int .u8 yk, .bool yb, .int .i64 yi, .string yt]] v fun e w' => e = .returned (.bool false) ∧ Below v.heap.size v w'))
    (H6 : (∀ v, Below w.heap.size w v → Calls Tryz.prog 8 #[.string s] v fun e w' => e = .returned (.tuple #[.agg #[.int .u8 uk, .bool ub, .int .i64 ui, .string ut], .int .i64 1]) ∧ Below v.heap.size v w'))
    : Calls Tryz.prog 4 #[.agg #[.int .u8 xk, .bool xb, .int .i64 xi, .string xt], .agg #[.int .u8 yk, .bool yb, .int .i64 yi, .string yt], .string s] w fun e w' => e = .returned (.bool true) ∧ Below w.heap.size w w' := by
  have G1 : Hid (∀ v, Below w.heap.size w v → Calls Tryz.prog 9 #[.agg #[.int .u8 xk, .bool xb, .int .i64 xi, .string xt]] v fun e w' => e = .returned (.string q) ∧ Below v.heap.size v w') := H1
  have G2 : Hid (∀ v, Below w.heap.size w v → Calls Tryz.prog 8 #[.string q] v fun e w' => e = .returned (.tuple #[.agg #[.int .u8 xk, .bool xb, .int .i64 xi, .string xt], .int .i64 0]) ∧ Below v.heap.size v w') := H2
  have G3 : Hid (∀ v, Below w.heap.size w v → Calls Tryz.prog 10 #[.agg #[.int .u8 xk, .bool xb, .int .i64 xi, .string xt]] v fun e w' => e = .returned (.bool true) ∧ Below v.heap.size v w') := H3
  have G4 : Hid (∀ v, Below w.heap.size w v → Calls Tryz.prog 10 #[.agg #[.int .u8 yk, .bool yb, .int .i64 yi, .string yt]] v fun e w' => e = .returned (.bool false) ∧ Below v.heap.size v w') := H4
  have G6 : Hid (∀ v, Below w.heap.size w v → Calls Tryz.prog 8 #[.string s] v fun e w' => e = .returned (.tuple #[.agg #[.int .u8 uk, .bool ub, .int .i64 ui, .string ut], .int .i64 1]) ∧ Below v.heap.size v w') := H6
  clear H1 H2 H3 H4 H6
  have hxx : (xt.toList == xt.toList) = true := by simp
  have hss : (s.toList == s.toList) = true := by simp
  have hqq : (q.toList == q.toList) = true := by simp
  have hXX : ∀ v, (Op.equalIn 10000 25 (.agg #[.int .u8 xk, .bool xb, .int .i64 xi, .string xt]) (.agg #[.int .u8 xk, .bool xb, .int .i64 xi, .string xt])).run Tryz.prog v = .ok true v := fun v => by rw [val_eqIn]; simp
  obtain ⟨w2, e2, hb2, hs2, B2, D2⟩ := bx2 w #[.int .u8 xk, .bool xb, .int .i64 xi, .string xt] #[.int .u8 yk, .bool yb, .int .i64 yi, .string yt] 25 25
  have HB2 : Hid (Below w.heap.size w w2) := hb2
  have HX2 : Hid (Bx w2 w.heap.size #[.int .u8 xk, .bool xb, .int .i64 xi, .string xt] 25) := B2
  have HY2 : Hid (Bx w2 (w.heap.size + 1) #[.int .u8 yk, .bool yb, .int .i64 yi, .string yt] 25) := D2
  obtain ⟨cX20, cX21, cX22, cX23, cX24, cX25, cX26, cX27, cX28⟩ := B2.facts4
  clear hb2 B2 D2 hs2
  go_enter Tryz.func4, Tryz.ntmps4
  go_upto_region 4 with (first
    | (go_at_call 9; (with_reducible refine (G1.out _ HB2.out).mono ?_); rintro e w3 ⟨rfl, hb3⟩; have HB3 : Hid (Below w.heap.size w w3) := HB2.out.trans (hb3.mono HB2.out.size); have HX3 : Hid (Bx w3 w.heap.size #[.int .u8 xk, .bool xb, .int .i64 xi, .string xt] 25) := HX2.out.below hb3 HX2.out.lt; obtain ⟨cX30, cX31, cX32, cX33, cX34, cX35, cX36, cX37, cX38⟩ := HX3.out.facts4; have HY3 : Hid (Bx w3 (w.heap.size + 1) #[.int .u8 yk, .bool yb, .int .i64 yi, .string yt] 25) := HY2.out.below hb3 HY2.out.lt; clear hb3 HB2 HX2 HY2)
    | (go_at_call 8; (with_reducible refine (G2.out _ HB3.out).mono ?_); rintro e w4 ⟨rfl, hb4⟩; have HB4 : Hid (Below w.heap.size w w4) := HB3.out.trans (hb4.mono HB3.out.size); have HX4 : Hid (Bx w4 w.heap.size #[.int .u8 xk, .bool xb, .int .i64 xi, .string xt] 25) := HX3.out.below hb4 HX3.out.lt; obtain ⟨cX40, cX41, cX42, cX43, cX44, cX45, cX46, cX47, cX48⟩ := HX4.out.facts4; have HY4 : Hid (Bx w4 (w.heap.size + 1) #[.int .u8 yk, .bool yb, .int .i64 yi, .string yt] 25) := HY3.out.below hb4 HY3.out.lt; clear hb4 HB3 HX3 HY3; obtain ⟨w5, e5, hb5, hs5, B5⟩ := bx1 w4 #[.int .u8 xk, .bool xb, .int .i64 xi, .string xt] 25; have HB5 : Hid (Below w.heap.size w w5) := HB4.out.trans (hb5.mono HB4.out.size); have HX5 : Hid (Bx w5 w.heap.size #[.int .u8 xk, .bool xb, .int .i64 xi, .string xt] 25) := HX4.out.below hb5 HX4.out.lt; obtain ⟨cX50, cX51, cX52, cX53, cX54, cX55, cX56, cX57, cX58⟩ := HX5.out.facts4; have HY5 : Hid (Bx w5 (w.heap.size + 1) #[.int .u8 yk, .bool yb, .int .i64 yi, .string yt] 25) := HY4.out.below hb5 HY4.out.lt; have HZ5 : Hid (Bx w5 w4.heap.size #[.int .u8 xk, .bool xb, .int .i64 xi, .string xt] 25) := B5; obtain ⟨cZ50, cZ51, cZ52, cZ53, cZ54, cZ55, cZ56, cZ57, cZ58⟩ := B5.facts4; clear hb5 B5 hs5 HB4 HX4 HY4)
    | (go_at_call 10; (with_reducible refine (G3.out _ HB5.out).mono ?_); rintro e w6 ⟨rfl, hb6⟩; have HB6 : Hid (Below w.heap.size w w6) := HB5.out.trans (hb6.mono HB5.out.size); have HX6 : Hid (Bx w6 w.heap.size #[.int .u8 xk, .bool xb, .int .i64 xi, .string xt] 25) := HX5.out.below hb6 HX5.out.lt; obtain ⟨cX60, cX61, cX62, cX63, cX64, cX65, cX66, cX67, cX68⟩ := HX6.out.facts4; have HY6 : Hid (Bx w6 (w.heap.size + 1) #[.int .u8 yk, .bool yb, .int .i64 yi, .string yt] 25) := HY5.out.below hb6 HY5.out.lt; have HZ6 : Hid (Bx w6 w4.heap.size #[.int .u8 xk, .bool xb, .int .i64 xi, .string xt] 25) := HZ5.out.below hb6 HZ5.out.lt; obtain ⟨cZ60, cZ61, cZ62, cZ63, cZ64, cZ65, cZ66, cZ67, cZ68⟩ := HZ6.out.facts4; clear hb6 HB5 HX5 HY5 HZ5)
    | (go_at_call 10; (with_reducible refine (G3.out _ HB6.out).mono ?_); rintro e w7 ⟨rfl, hb7⟩; have HB7 : Hid (Below w.heap.size w w7) := HB6.out.trans (hb7.mono HB6.out.size); have HX7 : Hid (Bx w7 w.heap.size #[.int .u8 xk, .bool xb, .int .i64 xi, .string xt] 25) := HX6.out.below hb7 HX6.out.lt; obtain ⟨cX70, cX71, cX72, cX73, cX74, cX75, cX76, cX77, cX78⟩ := HX7.out.facts4; have HY7 : Hid (Bx w7 (w.heap.size + 1) #[.int .u8 yk, .bool yb, .int .i64 yi, .string yt] 25) := HY6.out.below hb7 HY6.out.lt; have HZ7 : Hid (Bx w7 w4.heap.size #[.int .u8 xk, .bool xb, .int .i64 xi, .string xt] 25) := HZ6.out.below hb7 HZ6.out.lt; obtain ⟨cZ70, cZ71, cZ72, cZ73, cZ74, cZ75, cZ76, cZ77, cZ78⟩ := HZ7.out.facts4; clear hb7 HB6 HX6 HY6 HZ6))
  obtain ⟨X, F, hX, hF, onto⟩ := class_of (fun v => Below w7.heap.size w7 v) (Below.refl _ w7)
  have HF : Hid (∀ y, Below w7.heap.size w7 (F y)) := hF
  have HFw : Hid (∀ y, Below w.heap.size w (F y)) := fun y => HB7.out.trans ((hF y).mono HB7.out.size)
  have HO : Hid (∀ v, Below w7.heap.size w7 v → ∃ x, v = F x) := fun v h => by obtain ⟨x, hx⟩ := onto v h; exact ⟨x, hx.symm⟩
  have fX0 : ∀ v, (F v).cell? ⟨w.heap.size, 0, none⟩ = some (.int .u8 xk) := fun v => (HX7.out.below (hF v) HX7.out.lt).cell 0
  have fX1 : ∀ v, (F v).cell? ⟨w.heap.size, 1, none⟩ = some (.bool xb) := fun v => (HX7.out.below (hF v) HX7.out.lt).cell 1
  have fX2 : ∀ v, (F v).cell? ⟨w.heap.size, 2, none⟩ = some (.int .i64 xi) := fun v => (HX7.out.below (hF v) HX7.out.lt).cell 2
  have fX3 : ∀ v, (F v).cell? ⟨w.heap.size, 3, none⟩ = some (.string xt) := fun v => (HX7.out.below (hF v) HX7.out.lt).cell 3
  have fY0 : ∀ v, (F v).cell? ⟨w.heap.size + 1, 0, none⟩ = some (.int .u8 yk) := fun v => (HY7.out.below (hF v) HY7.out.lt).cell 0
  have fY1 : ∀ v, (F v).cell? ⟨w.heap.size + 1, 1, none⟩ = some (.bool yb) := fun v => (HY7.out.below (hF v) HY7.out.lt).cell 1
  have fY2 : ∀ v, (F v).cell? ⟨w.heap.size + 1, 2, none⟩ = some (.int .i64 yi) := fun v => (HY7.out.below (hF v) HY7.out.lt).cell 2
  have fY3 : ∀ v, (F v).cell? ⟨w.heap.size + 1, 3, none⟩ = some (.string yt) := fun v => (HY7.out.below (hF v) HY7.out.lt).cell 3
  clear hF onto
  refine region_class F (by kernel_rfl) (by kernel_rfl) (by obtain ⟨x, hx⟩ := HO.out _ (Below.refl _ _).drew; exact ⟨x, hx.symm⟩) ?_
  repeat (go_big_quiet_step (first
      | (go_at_call 10; (with_reducible refine (G3.out _ (HFw.out _)).mono ?_); rintro e w9 ⟨rfl, hb9⟩; exact ⟨rfl, HO.out _ ((HF.out _).trans (hb9.mono (HF.out _).size))⟩)
      | (go_at_call 9; (with_reducible refine (G1.out _ (HFw.out _)).mono ?_); rintro e w9 ⟨rfl, hb9⟩; exact ⟨rfl, HO.out _ ((HF.out _).trans (hb9.mono (HF.out _).size))⟩)
      | (go_at_call 10; (with_reducible refine (G4.out _ (HFw.out _)).mono ?_); rintro e w9 ⟨rfl, hb9⟩; exact ⟨rfl, HO.out _ ((HF.out _).trans (hb9.mono (HF.out _).size))⟩)))
  refine wpQuiet_nil ?_
  rintro _ ⟨nq, rfl⟩
  have HB10 : Hid (Below w.heap.size w (F nq)) := HFw.out nq
  generalize F nq = w10 at HB10 ⊢
  clear HF HFw HO fX0 fX1 fX2 fX3 fY0 fY1 fY2 fY3
  go_wp2_with (first
    | (go_at_call 8; (with_reducible refine (G6.out _ HB10.out).mono ?_); rintro e w11 ⟨rfl, hb11⟩; have HB11 : Hid (Below w.heap.size w w11) := HB10.out.trans (hb11.mono HB10.out.size); obtain ⟨w12, e12, hb12, hs12, B12⟩ := bx1 w11 #[.int .u8 uk, .bool ub, .int .i64 ui, .string ut] 25; have HB12 : Hid (Below w.heap.size w w12) := HB11.out.trans (hb12.mono HB11.out.size); have HU12 : Hid (Bx w12 w11.heap.size #[.int .u8 uk, .bool ub, .int .i64 ui, .string ut] 25) := B12; obtain ⟨d0, d1, d2, d3, g0, g1, g2, g3, l2⟩ := B12.facts4; clear hb11 hb12 B12 hs12))
  go_ret
  refine ⟨?_, HB12.out⟩
  first | rfl | simp

set_option maxRecDepth 1000000 in
set_option maxHeartbeats 8000000 in
theorem back_eq_ok (xk xi : Int) (xb : Bool) (xt : ByteArray) (uk ui : Int) (ub : Bool) (ut : ByteArray) (s q : ByteArray)  (w : World)
    (H1 : (∀ v, Below w.heap.size w v → Calls Tryz.prog 9 #[.agg #[.int .u8 xk, .bool xb, .int .i64 xi, .string xt]] v fun e w' => e = .returned (.string q) ∧ Below v.heap.size v w'))
    (H2 : (∀ v, Below w.heap.size w v → Calls Tryz.prog 8 #[.string q] v fun e w' => e = .returned (.tuple #[.agg #[.int .u8 xk, .bool xb, .int .i64 xi, .string xt], .int .i64 0]) ∧ Below v.heap.size v w'))
    (H3 : (∀ v, Below w.heap.size w v → Calls Tryz.prog 10 #[.agg #[.int .u8 xk, .bool xb, .int .i64 xi, .string xt]] v fun e w' => e = .returned (.bool true) ∧ Below v.heap.size v w'))
    (H6 : (∀ v, Below w.heap.size w v → Calls Tryz.prog 8 #[.string s] v fun e w' => e = .returned (.tuple #[.agg #[.int .u8 uk, .bool ub, .int .i64 ui, .string ut], .int .i64 0]) ∧ Below v.heap.size v w'))
    (H7 : (∀ v, Below w.heap.size w v → Calls Tryz.prog 9 #[.agg #[.int .u8 uk, .bool ub, .int .i64 ui, .string ut]] v fun e w' => e = .returned (.string s) ∧ Below v.heap.size v w'))
    : Calls Tryz.prog 4 #[.agg #[.int .u8 xk, .bool xb, .int .i64 xi, .string xt], .agg #[.int .u8 xk, .bool xb, .int .i64 xi, .string xt], .string s] w fun e w' => e = .returned (.bool true) ∧ Below w.heap.size w w' := by
  have G1 : Hid (∀ v, Below w.heap.size w v → Calls Tryz.prog 9 #[.agg #[.int .u8 xk, .bool xb, .int .i64 xi, .string xt]] v fun e w' => e = .returned (.string q) ∧ Below v.heap.size v w') := H1
  have G2 : Hid (∀ v, Below w.heap.size w v → Calls Tryz.prog 8 #[.string q] v fun e w' => e = .returned (.tuple #[.agg #[.int .u8 xk, .bool xb, .int .i64 xi, .string xt], .int .i64 0]) ∧ Below v.heap.size v w') := H2
  have G3 : Hid (∀ v, Below w.heap.size w v → Calls Tryz.prog 10 #[.agg #[.int .u8 xk, .bool xb, .int .i64 xi, .string xt]] v fun e w' => e = .returned (.bool true) ∧ Below v.heap.size v w') := H3
  have G6 : Hid (∀ v, Below w.heap.size w v → Calls Tryz.prog 8 #[.string s] v fun e w' => e = .returned (.tuple #[.agg #[.int .u8 uk, .bool ub, .int .i64 ui, .string ut], .int .i64 0]) ∧ Below v.heap.size v w') := H6
  have G7 : Hid (∀ v, Below w.heap.size w v → Calls Tryz.prog 9 #[.agg #[.int .u8 uk, .bool ub, .int .i64 ui, .string ut]] v fun e w' => e = .returned (.string s) ∧ Below v.heap.size v w') := H7
  clear H1 H2 H3 H6 H7
  have hxx : (xt.toList == xt.toList) = true := by simp
  have hss : (s.toList == s.toList) = true := by simp
  have hqq : (q.toList == q.toList) = true := by simp
  have hXX : ∀ v, (Op.equalIn 10000 25 (.agg #[.int .u8 xk, .bool xb, .int .i64 xi, .string xt]) (.agg #[.int .u8 xk, .bool xb, .int .i64 xi, .string xt])).run Tryz.prog v = .ok true v := fun v => by rw [val_eqIn]; simp
  obtain ⟨w2, e2, hb2, hs2, B2, D2⟩ := bx2 w #[.int .u8 xk, .bool xb, .int .i64 xi, .string xt] #[.int .u8 xk, .bool xb, .int .i64 xi, .string xt] 25 25
  have HB2 : Hid (Below w.heap.size w w2) := hb2
  have HX2 : Hid (Bx w2 w.heap.size #[.int .u8 xk, .bool xb, .int .i64 xi, .string xt] 25) := B2
  have HY2 : Hid (Bx w2 (w.heap.size + 1) #[.int .u8 xk, .bool xb, .int .i64 xi, .string xt] 25) := D2
  obtain ⟨cX20, cX21, cX22, cX23, cX24, cX25, cX26, cX27, cX28⟩ := B2.facts4
  clear hb2 B2 D2 hs2
  go_enter Tryz.func4, Tryz.ntmps4
  go_upto_region 4 with (first
    | (go_at_call 9; (with_reducible refine (G1.out _ HB2.out).mono ?_); rintro e w3 ⟨rfl, hb3⟩; have HB3 : Hid (Below w.heap.size w w3) := HB2.out.trans (hb3.mono HB2.out.size); have HX3 : Hid (Bx w3 w.heap.size #[.int .u8 xk, .bool xb, .int .i64 xi, .string xt] 25) := HX2.out.below hb3 HX2.out.lt; obtain ⟨cX30, cX31, cX32, cX33, cX34, cX35, cX36, cX37, cX38⟩ := HX3.out.facts4; have HY3 : Hid (Bx w3 (w.heap.size + 1) #[.int .u8 xk, .bool xb, .int .i64 xi, .string xt] 25) := HY2.out.below hb3 HY2.out.lt; clear hb3 HB2 HX2 HY2)
    | (go_at_call 8; (with_reducible refine (G2.out _ HB3.out).mono ?_); rintro e w4 ⟨rfl, hb4⟩; have HB4 : Hid (Below w.heap.size w w4) := HB3.out.trans (hb4.mono HB3.out.size); have HX4 : Hid (Bx w4 w.heap.size #[.int .u8 xk, .bool xb, .int .i64 xi, .string xt] 25) := HX3.out.below hb4 HX3.out.lt; obtain ⟨cX40, cX41, cX42, cX43, cX44, cX45, cX46, cX47, cX48⟩ := HX4.out.facts4; have HY4 : Hid (Bx w4 (w.heap.size + 1) #[.int .u8 xk, .bool xb, .int .i64 xi, .string xt] 25) := HY3.out.below hb4 HY3.out.lt; clear hb4 HB3 HX3 HY3; obtain ⟨w5, e5, hb5, hs5, B5⟩ := bx1 w4 #[.int .u8 xk, .bool xb, .int .i64 xi, .string xt] 25; have HB5 : Hid (Below w.heap.size w w5) := HB4.out.trans (hb5.mono HB4.out.size); have HX5 : Hid (Bx w5 w.heap.size #[.int .u8 xk, .bool xb, .int .i64 xi, .string xt] 25) := HX4.out.below hb5 HX4.out.lt; obtain ⟨cX50, cX51, cX52, cX53, cX54, cX55, cX56, cX57, cX58⟩ := HX5.out.facts4; have HY5 : Hid (Bx w5 (w.heap.size + 1) #[.int .u8 xk, .bool xb, .int .i64 xi, .string xt] 25) := HY4.out.below hb5 HY4.out.lt; have HZ5 : Hid (Bx w5 w4.heap.size #[.int .u8 xk, .bool xb, .int .i64 xi, .string xt] 25) := B5; obtain ⟨cZ50, cZ51, cZ52, cZ53, cZ54, cZ55, cZ56, cZ57, cZ58⟩ := B5.facts4; clear hb5 B5 hs5 HB4 HX4 HY4)
    | (go_at_call 10; (with_reducible refine (G3.out _ HB5.out).mono ?_); rintro e w6 ⟨rfl, hb6⟩; have HB6 : Hid (Below w.heap.size w w6) := HB5.out.trans (hb6.mono HB5.out.size); have HX6 : Hid (Bx w6 w.heap.size #[.int .u8 xk, .bool xb, .int .i64 xi, .string xt] 25) := HX5.out.below hb6 HX5.out.lt; obtain ⟨cX60, cX61, cX62, cX63, cX64, cX65, cX66, cX67, cX68⟩ := HX6.out.facts4; have HY6 : Hid (Bx w6 (w.heap.size + 1) #[.int .u8 xk, .bool xb, .int .i64 xi, .string xt] 25) := HY5.out.below hb6 HY5.out.lt; have HZ6 : Hid (Bx w6 w4.heap.size #[.int .u8 xk, .bool xb, .int .i64 xi, .string xt] 25) := HZ5.out.below hb6 HZ5.out.lt; obtain ⟨cZ60, cZ61, cZ62, cZ63, cZ64, cZ65, cZ66, cZ67, cZ68⟩ := HZ6.out.facts4; clear hb6 HB5 HX5 HY5 HZ5)
    | (go_at_call 10; (with_reducible refine (G3.out _ HB6.out).mono ?_); rintro e w7 ⟨rfl, hb7⟩; have HB7 : Hid (Below w.heap.size w w7) := HB6.out.trans (hb7.mono HB6.out.size); have HX7 : Hid (Bx w7 w.heap.size #[.int .u8 xk, .bool xb, .int .i64 xi, .string xt] 25) := HX6.out.below hb7 HX6.out.lt; obtain ⟨cX70, cX71, cX72, cX73, cX74, cX75, cX76, cX77, cX78⟩ := HX7.out.facts4; have HY7 : Hid (Bx w7 (w.heap.size + 1) #[.int .u8 xk, .bool xb, .int .i64 xi, .string xt] 25) := HY6.out.below hb7 HY6.out.lt; have HZ7 : Hid (Bx w7 w4.heap.size #[.int .u8 xk, .bool xb, .int .i64 xi, .string xt] 25) := HZ6.out.below hb7 HZ6.out.lt; obtain ⟨cZ70, cZ71, cZ72, cZ73, cZ74, cZ75, cZ76, cZ77, cZ78⟩ := HZ7.out.facts4; clear hb7 HB6 HX6 HY6 HZ6))
  obtain ⟨X, F, hX, hF, onto⟩ := class_of (fun v => Below w7.heap.size w7 v) (Below.refl _ w7)
  have HF : Hid (∀ y, Below w7.heap.size w7 (F y)) := hF
  have HFw : Hid (∀ y, Below w.heap.size w (F y)) := fun y => HB7.out.trans ((hF y).mono HB7.out.size)
  have HO : Hid (∀ v, Below w7.heap.size w7 v → ∃ x, v = F x) := fun v h => by obtain ⟨x, hx⟩ := onto v h; exact ⟨x, hx.symm⟩
  have fX0 : ∀ v, (F v).cell? ⟨w.heap.size, 0, none⟩ = some (.int .u8 xk) := fun v => (HX7.out.below (hF v) HX7.out.lt).cell 0
  have fX1 : ∀ v, (F v).cell? ⟨w.heap.size, 1, none⟩ = some (.bool xb) := fun v => (HX7.out.below (hF v) HX7.out.lt).cell 1
  have fX2 : ∀ v, (F v).cell? ⟨w.heap.size, 2, none⟩ = some (.int .i64 xi) := fun v => (HX7.out.below (hF v) HX7.out.lt).cell 2
  have fX3 : ∀ v, (F v).cell? ⟨w.heap.size, 3, none⟩ = some (.string xt) := fun v => (HX7.out.below (hF v) HX7.out.lt).cell 3
  have fY0 : ∀ v, (F v).cell? ⟨w.heap.size + 1, 0, none⟩ = some (.int .u8 xk) := fun v => (HY7.out.below (hF v) HY7.out.lt).cell 0
  have fY1 : ∀ v, (F v).cell? ⟨w.heap.size + 1, 1, none⟩ = some (.bool xb) := fun v => (HY7.out.below (hF v) HY7.out.lt).cell 1
  have fY2 : ∀ v, (F v).cell? ⟨w.heap.size + 1, 2, none⟩ = some (.int .i64 xi) := fun v => (HY7.out.below (hF v) HY7.out.lt).cell 2
  have fY3 : ∀ v, (F v).cell? ⟨w.heap.size + 1, 3, none⟩ = some (.string xt) := fun v => (HY7.out.below (hF v) HY7.out.lt).cell 3
  clear hF onto
  refine region_class F (by kernel_rfl) (by kernel_rfl) (by obtain ⟨x, hx⟩ := HO.out _ (Below.refl _ _).drew; exact ⟨x, hx.symm⟩) ?_
  repeat (go_big_quiet_step (first
      | (go_at_call 10; (with_reducible refine (G3.out _ (HFw.out _)).mono ?_); rintro e w9 ⟨rfl, hb9⟩; exact ⟨rfl, HO.out _ ((HF.out _).trans (hb9.mono (HF.out _).size))⟩)
      | (go_at_call 9; (with_reducible refine (G1.out _ (HFw.out _)).mono ?_); rintro e w9 ⟨rfl, hb9⟩; exact ⟨rfl, HO.out _ ((HF.out _).trans (hb9.mono (HF.out _).size))⟩)))
  refine wpQuiet_nil ?_
  rintro _ ⟨nq, rfl⟩
  have HB10 : Hid (Below w.heap.size w (F nq)) := HFw.out nq
  generalize F nq = w10 at HB10 ⊢
  clear HF HFw HO fX0 fX1 fX2 fX3 fY0 fY1 fY2 fY3
  go_wp2_with (first
    | (go_at_call 8; (with_reducible refine (G6.out _ HB10.out).mono ?_); rintro e w11 ⟨rfl, hb11⟩; have HB11 : Hid (Below w.heap.size w w11) := HB10.out.trans (hb11.mono HB10.out.size); obtain ⟨w12, e12, hb12, hs12, B12⟩ := bx1 w11 #[.int .u8 uk, .bool ub, .int .i64 ui, .string ut] 25; have HB12 : Hid (Below w.heap.size w w12) := HB11.out.trans (hb12.mono HB11.out.size); have HU12 : Hid (Bx w12 w11.heap.size #[.int .u8 uk, .bool ub, .int .i64 ui, .string ut] 25) := B12; obtain ⟨d0, d1, d2, d3, g0, g1, g2, g3, l2⟩ := B12.facts4; clear hb11 hb12 B12 hs12)
    | (go_at_call 9; (with_reducible refine (G7.out _ HB12.out).mono ?_); rintro e w13 ⟨rfl, hb13⟩; have HB13 : Hid (Below w.heap.size w w13) := HB12.out.trans (hb13.mono HB12.out.size); clear hb13))
  go_ret
  refine ⟨?_, HB13.out⟩
  first | rfl | simp

set_option maxRecDepth 1000000 in
set_option maxHeartbeats 8000000 in
theorem back_eq_bad (xk xi : Int) (xb : Bool) (xt : ByteArray) (uk ui : Int) (ub : Bool) (ut : ByteArray) (s q : ByteArray) (hZ : ∀ v, (Op.equalIn 10000 25 (.agg #[.int .u8 uk, .bool ub, .int .i64 ui, .string ut]) (.agg #[.int .u8 0, .bool false, .int .i64 0, .string ⟨#[]⟩])).run Tryz.prog v = .ok true v) (w : World)
    (H1 : (∀ v, Below w.heap.size w v → Calls Tryz.prog 9 #[.agg #[.int .u8 xk, .bool xb, .int .i64 xi, .string xt]] v fun e w' => e = .returned (.string q) ∧ Below v.heap.size v w'))
    (H2 : (∀ v, Below w.heap.size w v → Calls Tryz.prog 8 #[.string q] v fun e w' => e = .returned (.tuple #[.agg #[.int .u8 xk, .bool xb, .int .i64 xi, .string xt], .int .i64 0]) ∧ Below v.heap.size v w'))
    (H3 : (∀ v, Below w.heap.size w v → Calls Tryz.prog 10 #[.agg #[.int .u8 xk, .bool xb, .int .i64 xi, .string xt]] v fun e w' => e = .returned (.bool true) ∧ Below v.heap.size v w'))
    (H6 : (∀ v, Below w.heap.size w v → Calls Tryz.prog 8 #[.string s] v fun e w' => e = .returned (.tuple #[.agg #[.int .u8 uk, .bool ub, .int .i64 ui, .string ut], .int .i64 1]) ∧ Below v.heap.size v w'))
    : Calls Tryz.prog 4 #[.agg #[.int .u8 xk, .bool xb, .int .i64 xi, .string xt], .agg #[.int .u8 xk, .bool xb, .int .i64 xi, .string xt], .string s] w fun e w' => e = .returned (.bool true) ∧ Below w.heap.size w w' := by
  have G1 : Hid (∀ v, Below w.heap.size w v → Calls Tryz.prog 9 #[.agg #[.int .u8 xk, .bool xb, .int .i64 xi, .string xt]] v fun e w' => e = .returned (.string q) ∧ Below v.heap.size v w') := H1
  have G2 : Hid (∀ v, Below w.heap.size w v → Calls Tryz.prog 8 #[.string q] v fun e w' => e = .returned (.tuple #[.agg #[.int .u8 xk, .bool xb, .int .i64 xi, .string xt], .int .i64 0]) ∧ Below v.heap.size v w') := H2
  have G3 : Hid (∀ v, Below w.heap.size w v → Calls Tryz.prog 10 #[.agg #[.int .u8 xk, .bool xb, .int .i64 xi, .string xt]] v fun e w' => e = .returned (.bool true) ∧ Below v.heap.size v w') := H3
  have G6 : Hid (∀ v, Below w.heap.size w v → Calls Tryz.prog 8 #[.string s] v fun e w' => e = .returned (.tuple #[.agg #[.int .u8 uk, .bool ub, .int .i64 ui, .string ut], .int .i64 1]) ∧ Below v.heap.size v w') := H6
  clear H1 H2 H3 H6
  have hxx : (xt.toList == xt.toList) = true := by simp
  have hss : (s.toList == s.toList) = true := by simp
  have hqq : (q.toList == q.toList) = true := by simp
  have hXX : ∀ v, (Op.equalIn 10000 25 (.agg #[.int .u8 xk, .bool xb, .int .i64 xi, .string xt]) (.agg #[.int .u8 xk, .bool xb, .int .i64 xi, .string xt])).run Tryz.prog v = .ok true v := fun v => by rw [val_eqIn]; simp
  obtain ⟨w2, e2, hb2, hs2, B2, D2⟩ := bx2 w #[.int .u8 xk, .bool xb, .int .i64 xi, .string xt] #[.int .u8 xk, .bool xb, .int .i64 xi, .string xt] 25 25
  have HB2 : Hid (Below w.heap.size w w2) := hb2
  have HX2 : Hid (Bx w2 w.heap.size #[.int .u8 xk, .bool xb, .int .i64 xi, .string xt] 25) := B2
  have HY2 : Hid (Bx w2 (w.heap.size + 1) #[.int .u8 xk, .bool xb, .int .i64 xi, .string xt] 25) := D2
  obtain ⟨cX20, cX21, cX22, cX23, cX24, cX25, cX26, cX27, cX28⟩ := B2.facts4
  clear hb2 B2 D2 hs2
  go_enter Tryz.func4, Tryz.ntmps4
  go_upto_region 4 with (first
    | (go_at_call 9; (with_reducible refine (G1.out _ HB2.out).mono ?_); rintro e w3 ⟨rfl, hb3⟩; have HB3 : Hid (Below w.heap.size w w3) := HB2.out.trans (hb3.mono HB2.out.size); have HX3 : Hid (Bx w3 w.heap.size #[.int .u8 xk, .bool xb, .int .i64 xi, .string xt] 25) := HX2.out.below hb3 HX2.out.lt; obtain ⟨cX30, cX31, cX32, cX33, cX34, cX35, cX36, cX37, cX38⟩ := HX3.out.facts4; have HY3 : Hid (Bx w3 (w.heap.size + 1) #[.int .u8 xk, .bool xb, .int .i64 xi, .string xt] 25) := HY2.out.below hb3 HY2.out.lt; clear hb3 HB2 HX2 HY2)
    | (go_at_call 8; (with_reducible refine (G2.out _ HB3.out).mono ?_); rintro e w4 ⟨rfl, hb4⟩; have HB4 : Hid (Below w.heap.size w w4) := HB3.out.trans (hb4.mono HB3.out.size); have HX4 : Hid (Bx w4 w.heap.size #[.int .u8 xk, .bool xb, .int .i64 xi, .string xt] 25) := HX3.out.below hb4 HX3.out.lt; obtain ⟨cX40, cX41, cX42, cX43, cX44, cX45, cX46, cX47, cX48⟩ := HX4.out.facts4; have HY4 : Hid (Bx w4 (w.heap.size + 1) #[.int .u8 xk, .bool xb, .int .i64 xi, .string xt] 25) := HY3.out.below hb4 HY3.out.lt; clear hb4 HB3 HX3 HY3; obtain ⟨w5, e5, hb5, hs5, B5⟩ := bx1 w4 #[.int .u8 xk, .bool xb, .int .i64 xi, .string xt] 25; have HB5 : Hid (Below w.heap.size w w5) := HB4.out.trans (hb5.mono HB4.out.size); have HX5 : Hid (Bx w5 w.heap.size #[.int .u8 xk, .bool xb, .int .i64 xi, .string xt] 25) := HX4.out.below hb5 HX4.out.lt; obtain ⟨cX50, cX51, cX52, cX53, cX54, cX55, cX56, cX57, cX58⟩ := HX5.out.facts4; have HY5 : Hid (Bx w5 (w.heap.size + 1) #[.int .u8 xk, .bool xb, .int .i64 xi, .string xt] 25) := HY4.out.below hb5 HY4.out.lt; have HZ5 : Hid (Bx w5 w4.heap.size #[.int .u8 xk, .bool xb, .int .i64 xi, .string xt] 25) := B5; obtain ⟨cZ50, cZ51, cZ52, cZ53, cZ54, cZ55, cZ56, cZ57, cZ58⟩ := B5.facts4; clear hb5 B5 hs5 HB4 HX4 HY4)
    | (go_at_call 10; (with_reducible refine (G3.out _ HB5.out).mono ?_); rintro e w6 ⟨rfl, hb6⟩; have HB6 : Hid (Below w.heap.size w w6) := HB5.out.trans (hb6.mono HB5.out.size); have HX6 : Hid (Bx w6 w.heap.size #[.int .u8 xk, .bool xb, .int .i64 xi, .string xt] 25) := HX5.out.below hb6 HX5.out.lt; obtain ⟨cX60, cX61, cX62, cX63, cX64, cX65, cX66, cX67, cX68⟩ := HX6.out.facts4; have HY6 : Hid (Bx w6 (w.heap.size + 1) #[.int .u8 xk, .bool xb, .int .i64 xi, .string xt] 25) := HY5.out.below hb6 HY5.out.lt; have HZ6 : Hid (Bx w6 w4.heap.size #[.int .u8 xk, .bool xb, .int .i64 xi, .string xt] 25) := HZ5.out.below hb6 HZ5.out.lt; obtain ⟨cZ60, cZ61, cZ62, cZ63, cZ64, cZ65, cZ66, cZ67, cZ68⟩ := HZ6.out.facts4; clear hb6 HB5 HX5 HY5 HZ5)
    | (go_at_call 10; (with_reducible refine (G3.out _ HB6.out).mono ?_); rintro e w7 ⟨rfl, hb7⟩; have HB7 : Hid (Below w.heap.size w w7) := HB6.out.trans (hb7.mono HB6.out.size); have HX7 : Hid (Bx w7 w.heap.size #[.int .u8 xk, .bool xb, .int .i64 xi, .string xt] 25) := HX6.out.below hb7 HX6.out.lt; obtain ⟨cX70, cX71, cX72, cX73, cX74, cX75, cX76, cX77, cX78⟩ := HX7.out.facts4; have HY7 : Hid (Bx w7 (w.heap.size + 1) #[.int .u8 xk, .bool xb, .int .i64 xi, .string xt] 25) := HY6.out.below hb7 HY6.out.lt; have HZ7 : Hid (Bx w7 w4.heap.size #[.int .u8 xk, .bool xb, .int .i64 xi, .string xt] 25) := HZ6.out.below hb7 HZ6.out.lt; obtain ⟨cZ70, cZ71, cZ72, cZ73, cZ74, cZ75, cZ76, cZ77, cZ78⟩ := HZ7.out.facts4; clear hb7 HB6 HX6 HY6 HZ6))
  obtain ⟨X, F, hX, hF, onto⟩ := class_of (fun v => Below w7.heap.size w7 v) (Below.refl _ w7)
  have HF : Hid (∀ y, Below w7.heap.size w7 (F y)) := hF
  have HFw : Hid (∀ y, Below w.heap.size w (F y)) := fun y => HB7.out.trans ((hF y).mono HB7.out.size)
  have HO : Hid (∀ v, Below w7.heap.size w7 v → ∃ x, v = F x) := fun v h => by obtain ⟨x, hx⟩ := onto v h; exact ⟨x, hx.symm⟩
  have fX0 : ∀ v, (F v).cell? ⟨w.heap.size, 0, none⟩ = some (.int .u8 xk) := fun v => (HX7.out.below (hF v) HX7.out.lt).cell 0
  have fX1 : ∀ v, (F v).cell? ⟨w.heap.size, 1, none⟩ = some (.bool xb) := fun v => (HX7.out.below (hF v) HX7.out.lt).cell 1
  have fX2 : ∀ v, (F v).cell? ⟨w.heap.size, 2, none⟩ = some (.int .i64 xi) := fun v => (HX7.out.below (hF v) HX7.out.lt).cell 2
  have fX3 : ∀ v, (F v).cell? ⟨w.heap.size, 3, none⟩ = some (.string xt) := fun v => (HX7.out.below (hF v) HX7.out.lt).cell 3
  have fY0 : ∀ v, (F v).cell? ⟨w.heap.size + 1, 0, none⟩ = some (.int .u8 xk) := fun v => (HY7.out.below (hF v) HY7.out.lt).cell 0
  have fY1 : ∀ v, (F v).cell? ⟨w.heap.size + 1, 1, none⟩ = some (.bool xb) := fun v => (HY7.out.below (hF v) HY7.out.lt).cell 1
  have fY2 : ∀ v, (F v).cell? ⟨w.heap.size + 1, 2, none⟩ = some (.int .i64 xi) := fun v => (HY7.out.below (hF v) HY7.out.lt).cell 2
  have fY3 : ∀ v, (F v).cell? ⟨w.heap.size + 1, 3, none⟩ = some (.string xt) := fun v => (HY7.out.below (hF v) HY7.out.lt).cell 3
  clear hF onto
  refine region_class F (by kernel_rfl) (by kernel_rfl) (by obtain ⟨x, hx⟩ := HO.out _ (Below.refl _ _).drew; exact ⟨x, hx.symm⟩) ?_
  repeat (go_big_quiet_step (first
      | (go_at_call 10; (with_reducible refine (G3.out _ (HFw.out _)).mono ?_); rintro e w9 ⟨rfl, hb9⟩; exact ⟨rfl, HO.out _ ((HF.out _).trans (hb9.mono (HF.out _).size))⟩)
      | (go_at_call 9; (with_reducible refine (G1.out _ (HFw.out _)).mono ?_); rintro e w9 ⟨rfl, hb9⟩; exact ⟨rfl, HO.out _ ((HF.out _).trans (hb9.mono (HF.out _).size))⟩)))
  refine wpQuiet_nil ?_
  rintro _ ⟨nq, rfl⟩
  have HB10 : Hid (Below w.heap.size w (F nq)) := HFw.out nq
  generalize F nq = w10 at HB10 ⊢
  clear HF HFw HO fX0 fX1 fX2 fX3 fY0 fY1 fY2 fY3
  go_wp2_with (first
    | (go_at_call 8; (with_reducible refine (G6.out _ HB10.out).mono ?_); rintro e w11 ⟨rfl, hb11⟩; have HB11 : Hid (Below w.heap.size w w11) := HB10.out.trans (hb11.mono HB10.out.size); obtain ⟨w12, e12, hb12, hs12, B12⟩ := bx1 w11 #[.int .u8 uk, .bool ub, .int .i64 ui, .string ut] 25; have HB12 : Hid (Below w.heap.size w w12) := HB11.out.trans (hb12.mono HB11.out.size); have HU12 : Hid (Bx w12 w11.heap.size #[.int .u8 uk, .bool ub, .int .i64 ui, .string ut] 25) := B12; obtain ⟨d0, d1, d2, d3, g0, g1, g2, g3, l2⟩ := B12.facts4; clear hb11 hb12 B12 hs12))
  go_ret
  refine ⟨?_, HB12.out⟩
  first | rfl | simp

set_option maxRecDepth 1000000 in
set_option maxHeartbeats 8000000 in
theorem back_ne_ok (xk xi : Int) (xb : Bool) (xt : ByteArray) (uk ui : Int) (ub : Bool) (ut : ByteArray) (yk yi : Int) (yb : Bool) (yt : ByteArray) (s q : ByteArray) (q' : ByteArray) (hq : (q.toList == q'.toList) = false) (hE : ∀ v, (Op.equalIn 10000 25 (.agg #[.int .u8 xk, .bool xb, .int .i64 xi, .string xt]) (.agg #[.int .u8 yk, .bool yb, .int .i64 yi, .string yt])).run Tryz.prog v = .ok false v) (w : World)
    (H1 : (∀ v, Below w.heap.size w v → Calls Tryz.prog 9 #[.agg #[.int .u8 xk, .bool xb, .int .i64 xi, .string xt]] v fun e w' => e = .returned (.string q) ∧ Below v.heap.size v w'))
    (H2 : (∀ v, Below w.heap.size w v → Calls Tryz.prog 8 #[.string q] v fun e w' => e = .returned (.tuple #[.agg #[.int .u8 xk, .bool xb, .int .i64 xi, .string xt], .int .i64 0]) ∧ Below v.heap.size v w'))
    (H3 : (∀ v, Below w.heap.size w v → Calls Tryz.prog 10 #[.agg #[.int .u8 xk, .bool xb, .int .i64 xi, .string xt]] v fun e w' => e = .returned (.bool true) ∧ Below v.heap.size v w'))
    (H4 : (∀ v, Below w.heap.size w v → Calls Tryz.prog 10 #[.agg #[.int .u8 yk, .bool yb, .int .i64 yi, .string yt]] v fun e w' => e = .returned (.bool true) ∧ Below v.heap.size v w'))
    (H5 : (∀ v, Below w.heap.size w v → Calls Tryz.prog 9 #[.agg #[.int .u8 yk, .bool yb, .int .i64 yi, .string yt]] v fun e w' => e = .returned (.string q') ∧ Below v.heap.size v w'))
    (H6 : (∀ v, Below w.heap.size w v → Calls Tryz.prog 8 #[.string s] v fun e w' => e = .returned (.tuple #[.agg #[.int .u8 uk, .bool ub, .int .i64 ui, .string ut], .int .i64 0]) ∧ Below v.heap.size v w'))
    (H7 : (∀ v, Below w.heap.size w v → Calls Tryz.prog 9 #[.agg #[.int .u8 uk, .bool ub, .int .i64 ui, .string ut]] v fun e w' => e = .returned (.string s) ∧ Below v.heap.size v w'))
    : Calls Tryz.prog 4 #[.agg #[.int .u8 xk, .bool xb, .int .i64 xi, .string xt], .agg #[.int .u8 yk, .bool yb, .int .i64 yi, .string yt], .string s] w fun e w' => e = .returned (.bool true) ∧ Below w.heap.size w w' := by
  have G1 : Hid (∀ v, Below w.heap.size w v → Calls Tryz.prog 9 #[.agg #[.int .u8 xk, .bool xb, .int .i64 xi, .string xt]] v fun e w' => e = .returned (.string q) ∧ Below v.heap.size v w') := H1
  have G2 : Hid (∀ v, Below w.heap.size w v → Calls Tryz.prog 8 #[.string q] v fun e w' => e = .returned (.tuple #[.agg #[.int .u8 xk, .bool xb, .int .i64 xi, .string xt], .int .i64 0]) ∧ Below v.heap.size v w') := H2
  have G3 : Hid (∀ v, Below w.heap.size w v → Calls Tryz.prog 10 #[.agg #[.int .u8 xk, .bool xb, .int .i64 xi, .string xt]] v fun e w' => e = .returned (.bool true) ∧ Below v.heap.size v w') := H3
  have G4 : Hid (∀ v, Below w.heap.size w v → Calls Tryz.prog 10 #[.agg #[.int .u8 yk, .bool yb, .int .i64 yi, .string yt]] v fun e w' => e = .returned (.bool true) ∧ Below v.heap.size v w') := H4
  have G5 : Hid (∀ v, Below w.heap.size w v → Calls Tryz.prog 9 #[.agg #[.int .u8 yk, .bool yb, .int .i64 yi, .string yt]] v fun e w' => e = .returned (.string q') ∧ Below v.heap.size v w') := H5
  have G6 : Hid (∀ v, Below w.heap.size w v → Calls Tryz.prog 8 #[.string s] v fun e w' => e = .returned (.tuple #[.agg #[.int .u8 uk, .bool ub, .int .i64 ui, .string ut], .int .i64 0]) ∧ Below v.heap.size v w') := H6
  have G7 : Hid (∀ v, Below w.heap.size w v → Calls Tryz.prog 9 #[.agg #[.int .u8 uk, .bool ub, .int .i64 ui, .string ut]] v fun e w' => e = .returned (.string s) ∧ Below v.heap.size v w') := H7
  clear H1 H2 H3 H4 H5 H6 H7
  have hxx : (xt.toList == xt.toList) = true := by simp
  have hss : (s.toList == s.toList) = true := by simp
  have hqq : (q.toList == q.toList) = true := by simp
  have hXX : ∀ v, (Op.equalIn 10000 25 (.agg #[.int .u8 xk, .bool xb, .int .i64 xi, .string xt]) (.agg #[.int .u8 xk, .bool xb, .int .i64 xi, .string xt])).run Tryz.prog v = .ok true v := fun v => by rw [val_eqIn]; simp
  obtain ⟨w2, e2, hb2, hs2, B2, D2⟩ := bx2 w #[.int .u8 xk, .bool xb, .int .i64 xi, .string xt] #[.int .u8 yk, .bool yb, .int .i64 yi, .string yt] 25 25
  have HB2 : Hid (Below w.heap.size w w2) := hb2
  have HX2 : Hid (Bx w2 w.heap.size #[.int .u8 xk, .bool xb, .int .i64 xi, .string xt] 25) := B2
  have HY2 : Hid (Bx w2 (w.heap.size + 1) #[.int .u8 yk, .bool yb, .int .i64 yi, .string yt] 25) := D2
  obtain ⟨cX20, cX21, cX22, cX23, cX24, cX25, cX26, cX27, cX28⟩ := B2.facts4
  clear hb2 B2 D2 hs2
  go_enter Tryz.func4, Tryz.ntmps4
  go_upto_region 4 with (first
    | (go_at_call 9; (with_reducible refine (G1.out _ HB2.out).mono ?_); rintro e w3 ⟨rfl, hb3⟩; have HB3 : Hid (Below w.heap.size w w3) := HB2.out.trans (hb3.mono HB2.out.size); have HX3 : Hid (Bx w3 w.heap.size #[.int .u8 xk, .bool xb, .int .i64 xi, .string xt] 25) := HX2.out.below hb3 HX2.out.lt; obtain ⟨cX30, cX31, cX32, cX33, cX34, cX35, cX36, cX37, cX38⟩ := HX3.out.facts4; have HY3 : Hid (Bx w3 (w.heap.size + 1) #[.int .u8 yk, .bool yb, .int .i64 yi, .string yt] 25) := HY2.out.below hb3 HY2.out.lt; clear hb3 HB2 HX2 HY2)
    | (go_at_call 8; (with_reducible refine (G2.out _ HB3.out).mono ?_); rintro e w4 ⟨rfl, hb4⟩; have HB4 : Hid (Below w.heap.size w w4) := HB3.out.trans (hb4.mono HB3.out.size); have HX4 : Hid (Bx w4 w.heap.size #[.int .u8 xk, .bool xb, .int .i64 xi, .string xt] 25) := HX3.out.below hb4 HX3.out.lt; obtain ⟨cX40, cX41, cX42, cX43, cX44, cX45, cX46, cX47, cX48⟩ := HX4.out.facts4; have HY4 : Hid (Bx w4 (w.heap.size + 1) #[.int .u8 yk, .bool yb, .int .i64 yi, .string yt] 25) := HY3.out.below hb4 HY3.out.lt; clear hb4 HB3 HX3 HY3; obtain ⟨w5, e5, hb5, hs5, B5⟩ := bx1 w4 #[.int .u8 xk, .bool xb, .int .i64 xi, .string xt] 25; have HB5 : Hid (Below w.heap.size w w5) := HB4.out.trans (hb5.mono HB4.out.size); have HX5 : Hid (Bx w5 w.heap.size #[.int .u8 xk, .bool xb, .int .i64 xi, .string xt] 25) := HX4.out.below hb5 HX4.out.lt; obtain ⟨cX50, cX51, cX52, cX53, cX54, cX55, cX56, cX57, cX58⟩ := HX5.out.facts4; have HY5 : Hid (Bx w5 (w.heap.size + 1) #[.int .u8 yk, .bool yb, .int .i64 yi, .string yt] 25) := HY4.out.below hb5 HY4.out.lt; have HZ5 : Hid (Bx w5 w4.heap.size #[.int .u8 xk, .bool xb, .int .i64 xi, .string xt] 25) := B5; obtain ⟨cZ50, cZ51, cZ52, cZ53, cZ54, cZ55, cZ56, cZ57, cZ58⟩ := B5.facts4; clear hb5 B5 hs5 HB4 HX4 HY4)
    | (go_at_call 10; (with_reducible refine (G3.out _ HB5.out).mono ?_); rintro e w6 ⟨rfl, hb6⟩; have HB6 : Hid (Below w.heap.size w w6) := HB5.out.trans (hb6.mono HB5.out.size); have HX6 : Hid (Bx w6 w.heap.size #[.int .u8 xk, .bool xb, .int .i64 xi, .string xt] 25) := HX5.out.below hb6 HX5.out.lt; obtain ⟨cX60, cX61, cX62, cX63, cX64, cX65, cX66, cX67, cX68⟩ := HX6.out.facts4; have HY6 : Hid (Bx w6 (w.heap.size + 1) #[.int .u8 yk, .bool yb, .int .i64 yi, .string yt] 25) := HY5.out.below hb6 HY5.out.lt; have HZ6 : Hid (Bx w6 w4.heap.size #[.int .u8 xk, .bool xb, .int .i64 xi, .string xt] 25) := HZ5.out.below hb6 HZ5.out.lt; obtain ⟨cZ60, cZ61, cZ62, cZ63, cZ64, cZ65, cZ66, cZ67, cZ68⟩ := HZ6.out.facts4; clear hb6 HB5 HX5 HY5 HZ5)
    | (go_at_call 10; (with_reducible refine (G3.out _ HB6.out).mono ?_); rintro e w7 ⟨rfl, hb7⟩; have HB7 : Hid (Below w.heap.size w w7) := HB6.out.trans (hb7.mono HB6.out.size); have HX7 : Hid (Bx w7 w.heap.size #[.int .u8 xk, .bool xb, .int .i64 xi, .string xt] 25) := HX6.out.below hb7 HX6.out.lt; obtain ⟨cX70, cX71, cX72, cX73, cX74, cX75, cX76, cX77, cX78⟩ := HX7.out.facts4; have HY7 : Hid (Bx w7 (w.heap.size + 1) #[.int .u8 yk, .bool yb, .int .i64 yi, .string yt] 25) := HY6.out.below hb7 HY6.out.lt; have HZ7 : Hid (Bx w7 w4.heap.size #[.int .u8 xk, .bool xb, .int .i64 xi, .string xt] 25) := HZ6.out.below hb7 HZ6.out.lt; obtain ⟨cZ70, cZ71, cZ72, cZ73, cZ74, cZ75, cZ76, cZ77, cZ78⟩ := HZ7.out.facts4; clear hb7 HB6 HX6 HY6 HZ6))
  obtain ⟨X, F, hX, hF, onto⟩ := class_of (fun v => Below w7.heap.size w7 v) (Below.refl _ w7)
  have HF : Hid (∀ y, Below w7.heap.size w7 (F y)) := hF
  have HFw : Hid (∀ y, Below w.heap.size w (F y)) := fun y => HB7.out.trans ((hF y).mono HB7.out.size)
  have HO : Hid (∀ v, Below w7.heap.size w7 v → ∃ x, v = F x) := fun v h => by obtain ⟨x, hx⟩ := onto v h; exact ⟨x, hx.symm⟩
  have fX0 : ∀ v, (F v).cell? ⟨w.heap.size, 0, none⟩ = some (.int .u8 xk) := fun v => (HX7.out.below (hF v) HX7.out.lt).cell 0
  have fX1 : ∀ v, (F v).cell? ⟨w.heap.size, 1, none⟩ = some (.bool xb) := fun v => (HX7.out.below (hF v) HX7.out.lt).cell 1
  have fX2 : ∀ v, (F v).cell? ⟨w.heap.size, 2, none⟩ = some (.int .i64 xi) := fun v => (HX7.out.below (hF v) HX7.out.lt).cell 2
  have fX3 : ∀ v, (F v).cell? ⟨w.heap.size, 3, none⟩ = some (.string xt) := fun v => (HX7.out.below (hF v) HX7.out.lt).cell 3
  have fY0 : ∀ v, (F v).cell? ⟨w.heap.size + 1, 0, none⟩ = some (.int .u8 yk) := fun v => (HY7.out.below (hF v) HY7.out.lt).cell 0
  have fY1 : ∀ v, (F v).cell? ⟨w.heap.size + 1, 1, none⟩ = some (.bool yb) := fun v => (HY7.out.below (hF v) HY7.out.lt).cell 1
  have fY2 : ∀ v, (F v).cell? ⟨w.heap.size + 1, 2, none⟩ = some (.int .i64 yi) := fun v => (HY7.out.below (hF v) HY7.out.lt).cell 2
  have fY3 : ∀ v, (F v).cell? ⟨w.heap.size + 1, 3, none⟩ = some (.string yt) := fun v => (HY7.out.below (hF v) HY7.out.lt).cell 3
  clear hF onto
  refine region_class F (by kernel_rfl) (by kernel_rfl) (by obtain ⟨x, hx⟩ := HO.out _ (Below.refl _ _).drew; exact ⟨x, hx.symm⟩) ?_
  repeat (go_big_quiet_step (first
      | (go_at_call 10; (with_reducible refine (G3.out _ (HFw.out _)).mono ?_); rintro e w9 ⟨rfl, hb9⟩; exact ⟨rfl, HO.out _ ((HF.out _).trans (hb9.mono (HF.out _).size))⟩)
      | (go_at_call 9; (with_reducible refine (G1.out _ (HFw.out _)).mono ?_); rintro e w9 ⟨rfl, hb9⟩; exact ⟨rfl, HO.out _ ((HF.out _).trans (hb9.mono (HF.out _).size))⟩)
      | (go_at_call 10; (with_reducible refine (G4.out _ (HFw.out _)).mono ?_); rintro e w9 ⟨rfl, hb9⟩; exact ⟨rfl, HO.out _ ((HF.out _).trans (hb9.mono (HF.out _).size))⟩)
      | (go_at_call 9; (with_reducible refine (G5.out _ (HFw.out _)).mono ?_); rintro e w9 ⟨rfl, hb9⟩; exact ⟨rfl, HO.out _ ((HF.out _).trans (hb9.mono (HF.out _).size))⟩)))
  refine wpQuiet_nil ?_
  rintro _ ⟨nq, rfl⟩
  have HB10 : Hid (Below w.heap.size w (F nq)) := HFw.out nq
  generalize F nq = w10 at HB10 ⊢
  clear HF HFw HO fX0 fX1 fX2 fX3 fY0 fY1 fY2 fY3
  go_wp2_with (first
    | (go_at_call 8; (with_reducible refine (G6.out _ HB10.out).mono ?_); rintro e w11 ⟨rfl, hb11⟩; have HB11 : Hid (Below w.heap.size w w11) := HB10.out.trans (hb11.mono HB10.out.size); obtain ⟨w12, e12, hb12, hs12, B12⟩ := bx1 w11 #[.int .u8 uk, .bool ub, .int .i64 ui, .string ut] 25; have HB12 : Hid (Below w.heap.size w w12) := HB11.out.trans (hb12.mono HB11.out.size); have HU12 : Hid (Bx w12 w11.heap.size #[.int .u8 uk, .bool ub, .int .i64 ui, .string ut] 25) := B12; obtain ⟨d0, d1, d2, d3, g0, g1, g2, g3, l2⟩ := B12.facts4; clear hb11 hb12 B12 hs12)
    | (go_at_call 9; (with_reducible refine (G7.out _ HB12.out).mono ?_); rintro e w13 ⟨rfl, hb13⟩; have HB13 : Hid (Below w.heap.size w w13) := HB12.out.trans (hb13.mono HB12.out.size); clear hb13))
  go_ret
  refine ⟨?_, HB13.out⟩
  first | rfl | simp

set_option maxRecDepth 1000000 in
set_option maxHeartbeats 8000000 in
theorem back_ne_bad (xk xi : Int) (xb : Bool) (xt : ByteArray) (uk ui : Int) (ub : Bool) (ut : ByteArray) (yk yi : Int) (yb : Bool) (yt : ByteArray) (s q : ByteArray) (q' : ByteArray) (hq : (q.toList == q'.toList) = false) (hE : ∀ v, (Op.equalIn 10000 25 (.agg #[.int .u8 xk, .bool xb, .int .i64 xi, .string xt]) (.agg #[.int .u8 yk, .bool yb, .int .i64 yi, .string yt])).run Tryz.prog v = .ok false v) (hZ : ∀ v, (Op.equalIn 10000 25 (.agg #[.int .u8 uk, .bool ub, .int .i64 ui, .string ut]) (.agg #[.int .u8 0, .bool false, .int .i64 0, .string ⟨#[]⟩])).run Tryz.prog v = .ok true v) (w : World)
    (H1 : (∀ v, Below w.heap.size w v → Calls Tryz.prog 9 #[.agg #[.int .u8 xk, .bool xb, .int .i64 xi, .string xt]] v fun e w' => e = .returned (.string q) ∧ Below v.heap.size v w'))
    (H2 : (∀ v, Below w.heap.size w v → Calls Tryz.prog 8 #[.string q] v fun e w' => e = .returned (.tuple #[.agg #[.int .u8 xk, .bool xb, .int .i64 xi, .string xt], .int .i64 0]) ∧ Below v.heap.size v w'))
    (H3 : (∀ v, Below w.heap.size w v → Calls Tryz.prog 10 #[.agg #[.int .u8 xk, .bool xb, .int .i64 xi, .string xt]] v fun e w' => e = .returned (.bool true) ∧ Below v.heap.size v w'))
    (H4 : (∀ v, Below w.heap.size w v → Calls Tryz.prog 10 #[.agg #[.int .u8 yk, .bool yb, .int .i64 yi, .string yt]] v fun e w' => e = .returned (.bool true) ∧ Below v.heap.size v w'))
    (H5 : (∀ v, Below w.heap.size w v → Calls Tryz.prog 9 #[.agg #[.int .u8 yk, .bool yb, .int .i64 yi, .string yt]] v fun e w' => e = .returned (.string q') ∧ Below v.heap.size v w'))
    (H6 : (∀ v, Below w.heap.size w v → Calls Tryz.prog 8 #[.string s] v fun e w' => e = .returned (.tuple #[.agg #[.int .u8 uk, .bool ub, .int .i64 ui, .string ut], .int .i64 1]) ∧ Below v.heap.size v w'))
    : Calls Tryz.prog 4 #[.agg #[.int .u8 xk, .bool xb, .int .i64 xi, .string xt], .agg #[.int .u8 yk, .bool yb, .int .i64 yi, .string yt], .string s] w fun e w' => e = .returned (.bool true) ∧ Below w.heap.size w w' := by
  have G1 : Hid (∀ v, Below w.heap.size w v → Calls Tryz.prog 9 #[.agg #[.int .u8 xk, .bool xb, .int .i64 xi, .string xt]] v fun e w' => e = .returned (.string q) ∧ Below v.heap.size v w') := H1
  have G2 : Hid (∀ v, Below w.heap.size w v → Calls Tryz.prog 8 #[.string q] v fun e w' => e = .returned (.tuple #[.agg #[.int .u8 xk, .bool xb, .int .i64 xi, .string xt], .int .i64 0]) ∧ Below v.heap.size v w') := H2
  have G3 : Hid (∀ v, Below w.heap.size w v → Calls Tryz.prog 10 #[.agg #[.int .u8 xk, .bool xb, .int .i64 xi, .string xt]] v fun e w' => e = .returned (.bool true) ∧ Below v.heap.size v w') := H3
  have G4 : Hid (∀ v, Below w.heap.size w v → Calls Tryz.prog 10 #[.agg #[.int .u8 yk, .bool yb, .int .i64 yi, .string yt]] v fun e w' => e = .returned (.bool true) ∧ Below v.heap.size v w') := H4
  have G5 : Hid (∀ v, Below w.heap.size w v → Calls Tryz.prog 9 #[.agg #[.int .u8 yk, .bool yb, .int .i64 yi, .string yt]] v fun e w' => e = .returned (.string q') ∧ Below v.heap.size v w') := H5
  have G6 : Hid (∀ v, Below w.heap.size w v → Calls Tryz.prog 8 #[.string s] v fun e w' => e = .returned (.tuple #[.agg #[.int .u8 uk, .bool ub, .int .i64 ui, .string ut], .int .i64 1]) ∧ Below v.heap.size v w') := H6
  clear H1 H2 H3 H4 H5 H6
  have hxx : (xt.toList == xt.toList) = true := by simp
  have hss : (s.toList == s.toList) = true := by simp
  have hqq : (q.toList == q.toList) = true := by simp
  have hXX : ∀ v, (Op.equalIn 10000 25 (.agg #[.int .u8 xk, .bool xb, .int .i64 xi, .string xt]) (.agg #[.int .u8 xk, .bool xb, .int .i64 xi, .string xt])).run Tryz.prog v = .ok true v := fun v => by rw [val_eqIn]; simp
  obtain ⟨w2, e2, hb2, hs2, B2, D2⟩ := bx2 w #[.int .u8 xk, .bool xb, .int .i64 xi, .string xt] #[.int .u8 yk, .bool yb, .int .i64 yi, .string yt] 25 25
  have HB2 : Hid (Below w.heap.size w w2) := hb2
  have HX2 : Hid (Bx w2 w.heap.size #[.int .u8 xk, .bool xb, .int .i64 xi, .string xt] 25) := B2
  have HY2 : Hid (Bx w2 (w.heap.size + 1) #[.int .u8 yk, .bool yb, .int .i64 yi, .string yt] 25) := D2
  obtain ⟨cX20, cX21, cX22, cX23, cX24, cX25, cX26, cX27, cX28⟩ := B2.facts4
  clear hb2 B2 D2 hs2
  go_enter Tryz.func4, Tryz.ntmps4
  go_upto_region 4 with (first
    | (go_at_call 9; (with_reducible refine (G1.out _ HB2.out).mono ?_); rintro e w3 ⟨rfl, hb3⟩; have HB3 : Hid (Below w.heap.size w w3) := HB2.out.trans (hb3.mono HB2.out.size); have HX3 : Hid (Bx w3 w.heap.size #[.int .u8 xk, .bool xb, .int .i64 xi, .string xt] 25) := HX2.out.below hb3 HX2.out.lt; obtain ⟨cX30, cX31, cX32, cX33, cX34, cX35, cX36, cX37, cX38⟩ := HX3.out.facts4; have HY3 : Hid (Bx w3 (w.heap.size + 1) #[.int .u8 yk, .bool yb, .int .i64 yi, .string yt] 25) := HY2.out.below hb3 HY2.out.lt; clear hb3 HB2 HX2 HY2)
    | (go_at_call 8; (with_reducible refine (G2.out _ HB3.out).mono ?_); rintro e w4 ⟨rfl, hb4⟩; have HB4 : Hid (Below w.heap.size w w4) := HB3.out.trans (hb4.mono HB3.out.size); have HX4 : Hid (Bx w4 w.heap.size #[.int .u8 xk, .bool xb, .int .i64 xi, .string xt] 25) := HX3.out.below hb4 HX3.out.lt; obtain ⟨cX40, cX41, cX42, cX43, cX44, cX45, cX46, cX47, cX48⟩ := HX4.out.facts4; have HY4 : Hid (Bx w4 (w.heap.size + 1) #[.int .u8 yk, .bool yb, .int .i64 yi, .string yt] 25) := HY3.out.below hb4 HY3.out.lt; clear hb4 HB3 HX3 HY3; obtain ⟨w5, e5, hb5, hs5, B5⟩ := bx1 w4 #[.int .u8 xk, .bool xb, .int .i64 xi, .string xt] 25; have HB5 : Hid (Below w.heap.size w w5) := HB4.out.trans (hb5.mono HB4.out.size); have HX5 : Hid (Bx w5 w.heap.size #[.int .u8 xk, .bool xb, .int .i64 xi, .string xt] 25) := HX4.out.below hb5 HX4.out.lt; obtain ⟨cX50, cX51, cX52, cX53, cX54, cX55, cX56, cX57, cX58⟩ := HX5.out.facts4; have HY5 : Hid (Bx w5 (w.heap.size + 1) #[.int .u8 yk, .bool yb, .int .i64 yi, .string yt] 25) := HY4.out.below hb5 HY4.out.lt; have HZ5 : Hid (Bx w5 w4.heap.size #[.int .u8 xk, .bool xb, .int .i64 xi, .string xt] 25) := B5; obtain ⟨cZ50, cZ51, cZ52, cZ53, cZ54, cZ55, cZ56, cZ57, cZ58⟩ := B5.facts4; clear hb5 B5 hs5 HB4 HX4 HY4)
    | (go_at_call 10; (with_reducible refine (G3.out _ HB5.out).mono ?_); rintro e w6 ⟨rfl, hb6⟩; have HB6 : Hid (Below w.heap.size w w6) := HB5.out.trans (hb6.mono HB5.out.size); have HX6 : Hid (Bx w6 w.heap.size #[.int .u8 xk, .bool xb, .int .i64 xi, .string xt] 25) := HX5.out.below hb6 HX5.out.lt; obtain ⟨cX60, cX61, cX62, cX63, cX64, cX65, cX66, cX67, cX68⟩ := HX6.out.facts4; have HY6 : Hid (Bx w6 (w.heap.size + 1) #[.int .u8 yk, .bool yb, .int .i64 yi, .string yt] 25) := HY5.out.below hb6 HY5.out.lt; have HZ6 : Hid (Bx w6 w4.heap.size #[.int .u8 xk, .bool xb, .int .i64 xi, .string xt] 25) := HZ5.out.below hb6 HZ5.out.lt; obtain ⟨cZ60, cZ61, cZ62, cZ63, cZ64, cZ65, cZ66, cZ67, cZ68⟩ := HZ6.out.facts4; clear hb6 HB5 HX5 HY5 HZ5)
    | (go_at_call 10; (with_reducible refine (G3.out _ HB6.out).mono ?_); rintro e w7 ⟨rfl, hb7⟩; have HB7 : Hid (Below w.heap.size w w7) := HB6.out.trans (hb7.mono HB6.out.size); have HX7 : Hid (Bx w7 w.heap.size #[.int .u8 xk, .bool xb, .int .i64 xi, .string xt] 25) := HX6.out.below hb7 HX6.out.lt; obtain ⟨cX70, cX71, cX72, cX73, cX74, cX75, cX76, cX77, cX78⟩ := HX7.out.facts4; have HY7 : Hid (Bx w7 (w.heap.size + 1) #[.int .u8 yk, .bool yb, .int .i64 yi, .string yt] 25) := HY6.out.below hb7 HY6.out.lt; have HZ7 : Hid (Bx w7 w4.heap.size #[.int .u8 xk, .bool xb, .int .i64 xi, .string xt] 25) := HZ6.out.below hb7 HZ6.out.lt; obtain ⟨cZ70, cZ71, cZ72, cZ73, cZ74, cZ75, cZ76, cZ77, cZ78⟩ := HZ7.out.facts4; clear hb7 HB6 HX6 HY6 HZ6))
  obtain ⟨X, F, hX, hF, onto⟩ := class_of (fun v => Below w7.heap.size w7 v) (Below.refl _ w7)
  have HF : Hid (∀ y, Below w7.heap.size w7 (F y)) := hF
  have HFw : Hid (∀ y, Below w.heap.size w (F y)) := fun y => HB7.out.trans ((hF y).mono HB7.out.size)
  have HO : Hid (∀ v, Below w7.heap.size w7 v → ∃ x, v = F x) := fun v h => by obtain ⟨x, hx⟩ := onto v h; exact ⟨x, hx.symm⟩
  have fX0 : ∀ v, (F v).cell? ⟨w.heap.size, 0, none⟩ = some (.int .u8 xk) := fun v => (HX7.out.below (hF v) HX7.out.lt).cell 0
  have fX1 : ∀ v, (F v).cell? ⟨w.heap.size, 1, none⟩ = some (.bool xb) := fun v => (HX7.out.below (hF v) HX7.out.lt).cell 1
  have fX2 : ∀ v, (F v).cell? ⟨w.heap.size, 2, none⟩ = some (.int .i64 xi) := fun v => (HX7.out.below (hF v) HX7.out.lt).cell 2
  have fX3 : ∀ v, (F v).cell? ⟨w.heap.size, 3, none⟩ = some (.string xt) := fun v => (HX7.out.below (hF v) HX7.out.lt).cell 3
  have fY0 : ∀ v, (F v).cell? ⟨w.heap.size + 1, 0, none⟩ = some (.int .u8 yk) := fun v => (HY7.out.below (hF v) HY7.out.lt).cell 0
  have fY1 : ∀ v, (F v).cell? ⟨w.heap.size + 1, 1, none⟩ = some (.bool yb) := fun v => (HY7.out.below (hF v) HY7.out.lt).cell 1
  have fY2 : ∀ v, (F v).cell? ⟨w.heap.size + 1, 2, none⟩ = some (.int .i64 yi) := fun v => (HY7.out.below (hF v) HY7.out.lt).cell 2
  have fY3 : ∀ v, (F v).cell? ⟨w.heap.size + 1, 3, none⟩ = some (.string yt) := fun v => (HY7.out.below (hF v) HY7.out.lt).cell 3
  clear hF onto
  refine region_class F (by kernel_rfl) (by kernel_rfl) (by obtain ⟨x, hx⟩ := HO.out _ (Below.refl _ _).drew; exact ⟨x, hx.symm⟩) ?_
  repeat (go_big_quiet_step (first
      | (go_at_call 10; (with_reducible refine (G3.out _ (HFw.out _)).mono ?_); rintro e w9 ⟨rfl, hb9⟩; exact ⟨rfl, HO.out _ ((HF.out _).trans (hb9.mono (HF.out _).size))⟩)
      | (go_at_call 9; (with_reducible refine (G1.out _ (HFw.out _)).mono ?_); rintro e w9 ⟨rfl, hb9⟩; exact ⟨rfl, HO.out _ ((HF.out _).trans (hb9.mono (HF.out _).size))⟩)
      | (go_at_call 10; (with_reducible refine (G4.out _ (HFw.out _)).mono ?_); rintro e w9 ⟨rfl, hb9⟩; exact ⟨rfl, HO.out _ ((HF.out _).trans (hb9.mono (HF.out _).size))⟩)
      | (go_at_call 9; (with_reducible refine (G5.out _ (HFw.out _)).mono ?_); rintro e w9 ⟨rfl, hb9⟩; exact ⟨rfl, HO.out _ ((HF.out _).trans (hb9.mono (HF.out _).size))⟩)))
  refine wpQuiet_nil ?_
  rintro _ ⟨nq, rfl⟩
  have HB10 : Hid (Below w.heap.size w (F nq)) := HFw.out nq
  generalize F nq = w10 at HB10 ⊢
  clear HF HFw HO fX0 fX1 fX2 fX3 fY0 fY1 fY2 fY3
  go_wp2_with (first
    | (go_at_call 8; (with_reducible refine (G6.out _ HB10.out).mono ?_); rintro e w11 ⟨rfl, hb11⟩; have HB11 : Hid (Below w.heap.size w w11) := HB10.out.trans (hb11.mono HB10.out.size); obtain ⟨w12, e12, hb12, hs12, B12⟩ := bx1 w11 #[.int .u8 uk, .bool ub, .int .i64 ui, .string ut] 25; have HB12 : Hid (Below w.heap.size w w12) := HB11.out.trans (hb12.mono HB11.out.size); have HU12 : Hid (Bx w12 w11.heap.size #[.int .u8 uk, .bool ub, .int .i64 ui, .string ut] 25) := B12; obtain ⟨d0, d1, d2, d3, g0, g1, g2, g3, l2⟩ := B12.facts4; clear hb11 hb12 B12 hs12))
  go_ret
  refine ⟨?_, HB12.out⟩
  first | rfl | simp

end Go.Proofs.YtnaipmgdipflgaaGreatDoor

namespace Go.Proofs.YtnaipmgdipflgaaGreatDoor
open Go.ChangeShapes Go.WideShapes Go.ChangeAt Go.RowKit
set_option linter.unusedVariables false
set_option linter.unusedSimpArgs false

theorem rdA_ok (s : ByteArray) (hs : s.size ≤ 16777216) : VlOk (rdA s).1 := by
  have z0 : VlOk ⟨1, true, 0, ⟨#[]⟩⟩ := ⟨by show (-9223372036854775808 : Int) ≤ 0; omega, by show (0 : Int) ≤ _; omega, by show (0 : Nat) ≤ _; omega⟩
  have z1 : VlOk ⟨1, false, 0, ⟨#[]⟩⟩ := ⟨by show (-9223372036854775808 : Int) ≤ 0; omega, by show (0 : Int) ≤ _; omega, by show (0 : Nat) ≤ _; omega⟩
  have z2 : VlOk zVl := ⟨by show (-9223372036854775808 : Int) ≤ 0; omega, by show (0 : Int) ≤ _; omega, by show (0 : Nat) ≤ _; omega⟩
  have hl := txB_len s
  unfold rdA
  by_cases h1 : s.data.toList = [116, 114, 117, 101]
  · rw [if_pos h1]; exact z0
  · rw [if_neg h1]
    by_cases h2 : s.data.toList = [102, 97, 108, 115, 101]
    · rw [if_pos h2]; exact z1
    · rw [if_neg h2]
      by_cases h3 : s.data.toList.head? = some 34
      · rw [if_pos h3]
        by_cases h4 : kOf s = some 5 ∧ qt ⟨(txB s).toArray⟩ = s.data.toList
        · rw [if_pos h4]
          exact ⟨by show (-9223372036854775808 : Int) ≤ 0; omega, by show (0 : Int) ≤ _; omega, by show (txB s).toArray.size ≤ _; simp; omega⟩
        · rw [if_neg h4]; exact z2
      · rw [if_neg h3]
        cases hd : dcm s.data.toList with
        | none => exact z2
        | some n =>
          simp only
          by_cases h5 : Lib.itoa n = s.data.toList
          · rw [if_pos h5]
            obtain ⟨b0, b1⟩ := dcm_bounds _ _ hd
            exact ⟨b0, b1, by show (0 : Nat) ≤ _; omega⟩
          · rw [if_neg h5]; exact z2
theorem of_data (s : ByteArray) : (⟨s.data.toList.toArray⟩ : ByteArray) = s := by cases s; simp

theorem constBack_walk (x : Vl) (hx : -9223372036854775808 ≤ x.i ∧ x.i ≤ 9223372036854775807) (y : Vl) (hy : -9223372036854775808 ≤ y.i ∧ y.i ≤ 9223372036854775807) (s : ByteArray) (hz : x.s.size + y.s.size + s.size ≤ 1048576) (w : World) (hS : Spl w) (hT : Lt w) (hM : MaxL w) (hB : Tbs w) (hE : Evs w) :
    Calls Tryz.prog 4 #[x.v, y.v, .string s] w fun e w' => e = .returned (.bool true) ∧ Below w.heap.size w w' := by
  have okx : VlOk x := ⟨hx.1, hx.2, by omega⟩
  have oky : VlOk y := ⟨hy.1, hy.2, by omega⟩
  have hql : (⟨(shw x).toArray⟩ : ByteArray).size ≤ 16777216 := by
    have := shw_len x okx
    show (shw x).toArray.size ≤ _
    simp
    omega
  have H1 : ∀ v, Below w.heap.size w v → _ := fun v hv => cshow_any x okx v (hB.below hv)
  have H2 : ∀ v, Below w.heap.size w v → _ := fun v hv => Read_any ⟨(shw x).toArray⟩ hql v (hS.below hv) (hT.below hv) (hM.below hv) (hB.below hv) (hE.below hv)
  have H3 : ∀ v, Below w.heap.size w v → _ := fun v (hv : Below w.heap.size w v) => rRight_any x v
  have H4 : ∀ v, Below w.heap.size w v → _ := fun v (hv : Below w.heap.size w v) => rRight_any y v
  have H5 : ∀ v, Below w.heap.size w v → _ := fun v hv => cshow_any y oky v (hB.below hv)
  have H6 : ∀ v, Below w.heap.size w v → _ := fun v hv => Read_any s (by omega) v (hS.below hv) (hT.below hv) (hM.below hv) (hB.below hv) (hE.below hv)
  have H7 : ∀ v, Below w.heap.size w v → _ := fun v hv => cshow_any (rdA s).1 (rdA_ok s (by omega)) v (hB.below hv)
  have hs := rdA_back s
  obtain ⟨⟨uk, ub, ui, ut⟩, ue, hu⟩ : ∃ u e, rdA s = (u, e) := ⟨_, _, rfl⟩
  rw [hu] at H6 H7 hs
  have hx1 : rgt x = true → rdA ⟨(shw x).toArray⟩ = (x, 0) := rdA_shw hx
  have hx0 : rgt x = false → shw x = [] ∧ rdA ⟨(shw x).toArray⟩ = (zVl, 1) := fun h => by rw [shw_no h]; exact ⟨rfl, rdA_nil⟩
  have hxy : rgt x = true → rgt y = true → (shw x = shw y ↔ x = y) := shw_one hx hy
  obtain ⟨q, hq⟩ : ∃ q, (⟨(shw x).toArray⟩ : ByteArray) = q := ⟨_, rfl⟩
  obtain ⟨q', hq'⟩ : ∃ q, (⟨(shw y).toArray⟩ : ByteArray) = q := ⟨_, rfl⟩
  rw [hq] at H1 H2 hx1 hx0
  rw [hq'] at H5
  have zeq : ∀ v, (Op.equalIn 10000 25 (.agg #[.int .u8 zVl.k, .bool zVl.b, .int .i64 zVl.i, .string zVl.s]) (.agg #[.int .u8 0, .bool false, .int .i64 0, .string ⟨#[]⟩])).run Tryz.prog v = .ok true v := fun v => by rw [val_eqIn]; simp [zVl]
  have hT : (ue = 0 ∧ (⟨(shw ⟨uk, ub, ui, ut⟩).toArray⟩ : ByteArray) = s) ∨ ((⟨uk, ub, ui, ut⟩ : Vl) = zVl ∧ ue = 1) := by
    rcases hs with ⟨e0, e1, -⟩ | e
    · exact .inl ⟨e0, by rw [e1]⟩
    · exact .inr ⟨(Prod.mk.inj e).1, (Prod.mk.inj e).2⟩
  clear hs hu
  cases hrx : rgt x with
  | false =>
    obtain ⟨hn, hr⟩ := hx0 hrx
    rw [hr] at H2
    rw [hrx] at H3
    have hqe : q.toList = [] := by rw [← hq, hn, Lib.toList_data]
    rcases hT with ⟨rfl, h7⟩ | ⟨h7, rfl⟩
    · rw [h7] at H7
      exact back_no_ok x.k x.i x.b x.s uk ui ub ut y.k y.i y.b y.s zVl.k zVl.i zVl.b zVl.s s q (by simp [hqe]) (by simp [hqe]) (by simp [hqe]) w H1 H2 H3 H6 H7
    · rw [h7] at H6
      exact back_no_bad x.k x.i x.b x.s zVl.k zVl.i zVl.b zVl.s y.k y.i y.b y.s zVl.k zVl.i zVl.b zVl.s s q (by simp [hqe]) (by simp [hqe]) (by simp [hqe]) zeq w H1 H2 H3 H6
  | true =>
    rw [hx1 hrx] at H2
    rw [hrx] at H3
    cases hry : rgt y with
    | false =>
      rw [hry] at H4
      rcases hT with ⟨rfl, h7⟩ | ⟨h7, rfl⟩
      · rw [h7] at H7
        exact back_rn_ok x.k x.i x.b x.s uk ui ub ut y.k y.i y.b y.s s q w H1 H2 H3 H4 H6 H7
      · rw [h7] at H6
        exact back_rn_bad x.k x.i x.b x.s zVl.k zVl.i zVl.b zVl.s y.k y.i y.b y.s s q zeq w H1 H2 H3 H4 H6
    | true =>
      rw [hry] at H4
      by_cases he : x = y
      · subst he
        rcases hT with ⟨rfl, h7⟩ | ⟨h7, rfl⟩
        · rw [h7] at H7
          exact back_eq_ok x.k x.i x.b x.s uk ui ub ut s q w H1 H2 H3 H6 H7
        · rw [h7] at H6
          exact back_eq_bad x.k x.i x.b x.s zVl.k zVl.i zVl.b zVl.s s q zeq w H1 H2 H3 H6
      · have hne : (q.toList == q'.toList) = false := by
          rw [← hq, ← hq', Lib.toList_data, Lib.toList_data]
          simp only [List.toList_toArray, beq_eq_false_iff_ne]
          exact fun e => he ((hxy hrx hry).1 e)
        have heq : ∀ v, (Op.equalIn 10000 25 (.agg #[.int .u8 x.k, .bool x.b, .int .i64 x.i, .string x.s]) (.agg #[.int .u8 y.k, .bool y.b, .int .i64 y.i, .string y.s])).run Tryz.prog v = .ok false v := by
          intro v
          rw [val_eqIn]
          have : (x.k == y.k && (x.b == y.b && (x.i == y.i && x.s.toList == y.s.toList))) = false := by
            cases hc : (x.k == y.k && (x.b == y.b && (x.i == y.i && x.s.toList == y.s.toList))) with
            | false => rfl
            | true =>
              exfalso
              simp only [Bool.and_eq_true, beq_iff_eq] at hc
              apply he
              obtain ⟨c1, c2, c3, c4⟩ := hc
              obtain ⟨k, b, i, t⟩ := x
              obtain ⟨k', b', i', t'⟩ := y
              simp only at c1 c2 c3 c4
              rw [Lib.toList_data, Lib.toList_data] at c4
              rw [c1, c2, c3, ← of_data t, c4, of_data]
          rw [this]
        rcases hT with ⟨rfl, h7⟩ | ⟨h7, rfl⟩
        · rw [h7] at H7
          exact back_ne_ok x.k x.i x.b x.s uk ui ub ut y.k y.i y.b y.s s q q' hne heq w H1 H2 H3 H4 H5 H6 H7
        · rw [h7] at H6
          exact back_ne_bad x.k x.i x.b x.s zVl.k zVl.i zVl.b zVl.s y.k y.i y.b y.s s q q' hne heq zeq w H1 H2 H3 H4 H5 H6
end Go.Proofs.YtnaipmgdipflgaaGreatDoor

namespace Go.Proofs.YtnaipmgdipflgaaGreatDoor
open Go.ChangeShapes Go.WideShapes Go.ChangeAt Go.RowKit Go.Deep Go.Lib
open Go.ChangeMaps (open_string shut_string)
set_option linter.unusedVariables false
set_option linter.unusedSimpArgs false

theorem own : ownKnob Tryz.prog.godebug = none := by kernel_rfl
theorem small_of {H : Type} {ds : List (DataW H)} (hk : Rows.uptoSmall H ds = true) : Rows.uptoBulkAll ds ≤ 1048576 := of_decide_eq_true hk
theorem bounds_u8 {n : Int} (h : (Lit.int .u8 n).wf = true) : 0 ≤ n ∧ n ≤ 255 := by
  have h1 : IntKind.u8.min = 0 := rfl
  have h2 : IntKind.u8.max = 255 := rfl
  simp [Lit.wf] at h
  omega
theorem bulk_string {H : Type} (s : ByteArray) : s.size ≤ Rows.uptoBulk (H := H) (.lit (.string s.data.toList)) := by
  have e2 : s.data.toList.length = s.size := by rw [Array.length_toList]; rfl
  rw [Rows.uptoBulk, e2]; omega
theorem gSpl : Tryz.prog.globalNamed "moniker/lexer.spellings" = some 3 := by kernel_rfl
theorem gSplType : (Tryz.prog.globals[3]?).map (·.type) = some 162 := by kernel_rfl
theorem gPrp : Tryz.prog.globalNamed "unicode.properties" = some 4 := by kernel_rfl
theorem gPrpType : (Tryz.prog.globals[4]?).map (·.type) = some 158 := by kernel_rfl
theorem cellsPrp : Tryz.prog.cellsOf 158 = Lib.propertiesTab.length := by kernel_rfl
theorem cellsU8 : Tryz.prog.cellsOf 5 = 1 := by kernel_rfl
theorem cellsStrL : Tryz.prog.cellsOf 9 = 1 := by kernel_rfl
set_option maxRecDepth 100000 in
theorem u8extra : U8Extra Tryz.prog Tryz.lays260_ren := ⟨by kernel_rfl, by kernel_rfl, by kernel_rfl, by kernel_rfl, by kernel_rfl, by kernel_rfl, by kernel_rfl⟩
set_option maxRecDepth 100000 in
theorem rextra : RExtra Tryz.prog Tryz.lays261_ren := ⟨by kernel_rfl, by kernel_rfl, by kernel_rfl, by kernel_rfl, by kernel_rfl, by kernel_rfl, by kernel_rfl, by kernel_rfl⟩
theorem one_met {W : World} {L : List (String × DataW Unit)} {n : String} {d : DataW Unit} (h : laidMetH Tryz.prog L W) (e : (L.filter fun x => x.1 == n) = [(n, d)]) (hp : laidMetH Tryz.prog [(n, d)] W → laidMet Tryz.prog [(n, d)] W) : Lib.VarReads Tryz.prog W n d := by
  have h1 := h.filter (fun x => x.1 == n)
  rw [e] at h1
  exact Lib.laidMet.reads (hp h1) (List.mem_cons_self ..)
set_option maxRecDepth 100000 in
theorem spl_met {W : World} (h : laidMetH Tryz.prog Rows.constBackUptoRow.laid W) : Spl W := by
  have e : (Rows.constBackUptoRow.laid.filter fun x => x.1 == "moniker/lexer.spellings") = [("moniker/lexer.spellings", .agg (spl.map fun x => .lit (.string x)))] := by kernel_rfl
  have k := strTab_of_reads gSpl gSplType Tryz.underlying162 Tryz.underlying9 cellsStrL (one_met h e fun h => h)
  exact ⟨World.block_lt_of_cell? _ _ (k 0 (by decide)), k⟩
set_option maxRecDepth 100000 in
theorem tabs_met {W : World} (h : laidMetH Tryz.prog Rows.constBackUptoRow.laid W) : Lib.Utf8Tabs 1 2 W := by
  have e1 : (Rows.constBackUptoRow.laid.filter fun x => x.1 == "unicode/utf8.first") = [("unicode/utf8.first", Lib.firstData)] := by kernel_rfl
  have e2 : (Rows.constBackUptoRow.laid.filter fun x => x.1 == "unicode/utf8.acceptRanges") = [("unicode/utf8.acceptRanges", Lib.acceptData)] := by kernel_rfl
  exact utf8Tabs_of_reads Tryz.lays260 u8extra (one_met h e1 fun h => h) (one_met h e2 fun h => h)
theorem tab_lt {a b : Nat} {w : World} (h : Lib.Utf8Tabs a b w) : a < w.heap.size ∧ b < w.heap.size :=
  ⟨World.block_lt_of_cell? _ _ (h.1 0 (by decide)), World.block_lt_of_cell? _ _ (h.2 0 (by decide)).1⟩
set_option maxRecDepth 100000 in
theorem prp_met {W : World} (h : laidMetH Tryz.prog Rows.constBackUptoRow.laid W) : Lib.TabIs Tryz.prog W "unicode.properties" .u8 Lib.propertiesTab := by
  have h2 := h.filter (fun x => x.1 == "unicode.properties")
  have e : (Rows.constBackUptoRow.laid.filter fun x => x.1 == "unicode.properties") = [("unicode.properties", Lib.tabData .u8 Lib.propertiesTab)] := by kernel_rfl
  rw [e] at h2
  exact Lib.tabIs_of_head (rest := []) gPrp gPrpType Tryz.underlying158 Tryz.underlying5 cellsU8 cellsPrp h2
set_option maxRecDepth 100000 in
theorem let_met {W : World} (h : laidMetH Tryz.prog Rows.constBackUptoRow.laid W) : Lib.RVar 5 Lib.letterT W ∧ Lib.RVar 6 Lib.digitT W := by
  have e1 : (Rows.constBackUptoRow.laid.filter fun x => x.1 == "unicode.Letter") = [("unicode.Letter", Pinned.letter)] := by kernel_rfl
  have e2 : (Rows.constBackUptoRow.laid.filter fun x => x.1 == "unicode.Digit") = [("unicode.Digit", Pinned.digit)] := by kernel_rfl
  exact ⟨rvar_of_reads Tryz.lays261 rextra (by kernel_rfl) (by kernel_rfl) (Pinned.letter_eq ▸ one_met h e1 fun h => by rw [MakeChecks.laidMetH_plain _ _ _ (by kernel_rfl)] at h; exact h), rvar_of_reads Tryz.lays261 rextra (by kernel_rfl) (by kernel_rfl) (Pinned.digit_eq ▸ one_met h e2 fun h => by rw [MakeChecks.laidMetH_plain _ _ _ (by kernel_rfl)] at h; exact h)⟩
theorem lt_met {W : World} (h : laidMetH Tryz.prog Rows.constBackUptoRow.laid W) : Lt W :=
  ⟨⟨tab_lt (tabs_met h), tabs_met h⟩, fun v hv => ⟨Lib.tabBelow_of_tabIs (prp_met h) v hv, RVar_below (let_met h).1 hv, RVar_below (let_met h).2 hv⟩⟩
theorem gPowType : (Tryz.prog.globals[0]?).map (·.type) = some 155 := by kernel_rfl
theorem cellsPow : Tryz.prog.cellsOf 155 = Lib.pow10Tab.length := by kernel_rfl
theorem cellsU64 : Tryz.prog.cellsOf 90 = 1 := by kernel_rfl
theorem pow_met {W : World} (h : laidMetH Tryz.prog Rows.constBackUptoRow.laid W) : Lib.TabIs Tryz.prog W "internal/strconv.uint64pow10" .u64 Lib.pow10Tab := by
  have h2 := h.filter (fun x => x.1 == "internal/strconv.uint64pow10")
  have e : (Rows.constBackUptoRow.laid.filter fun x => x.1 == "internal/strconv.uint64pow10") = [("internal/strconv.uint64pow10", Lib.tabData .u64 Lib.pow10Tab)] := by kernel_rfl
  rw [e] at h2
  exact Lib.tabIs_of_head (rest := []) gPow10 gPowType Tryz.underlying155 Tryz.underlying90 cellsU64 cellsPow h2
theorem gSyn : Tryz.prog.globalNamed "strconv.ErrSyntax" = some 7 := by kernel_rfl
theorem gSynType : (Tryz.prog.globals[7]?).map (·.type) = some 83 := by kernel_rfl
theorem gRng : Tryz.prog.globalNamed "strconv.ErrRange" = some 8 := by kernel_rfl
theorem gRngType : (Tryz.prog.globals[8]?).map (·.type) = some 83 := by kernel_rfl
set_option maxRecDepth 100000 in
theorem evs_met {W : World} (h : laidMetH Tryz.prog Rows.constBackUptoRow.laid W) : Evs W := by
  have e1 : (Rows.constBackUptoRow.laid.filter fun x => x.1 == "strconv.ErrSyntax") = [("strconv.ErrSyntax", Rows.laid_strconv_ErrSyntax)] := by kernel_rfl
  have e2 : (Rows.constBackUptoRow.laid.filter fun x => x.1 == "strconv.ErrRange") = [("strconv.ErrRange", Rows.laid_strconv_ErrRange)] := by kernel_rfl
  exact ⟨iface_of_reads gSyn gSynType Tryz.underlying83 (one_met h e1 fun h => h), iface_of_reads gRng gRngType Tryz.underlying83 (one_met h e2 fun h => h)⟩
theorem tbs_met {W : World} (h : laidMetH Tryz.prog Rows.constBackUptoRow.laid W) : Tbs W := ⟨tab_lt (tabs_met h), tabs_met h, pow_met h⟩
noncomputable def constBack_world (os : Os) : World := World.laidAll Tryz.prog os Rows.constBackUptoRow.laid
theorem constBack_laid (os : Os) : laidMet Tryz.prog Rows.constBackUptoRow.laid ((constBack_world os).forCall (fun _ _ => 0) ⟨#[], #[.agg #[.int .u8 0, .bool false, .int .i64 0, .string .empty], .agg #[.int .u8 0, .bool false, .int .i64 0, .string .empty], .string .empty], []⟩).memory :=
  laidMet_laidAll _ (by kernel_rfl) (by kernel_rfl)
theorem constBack_reads (os : Os) {H : Type} (enc : TypeId × Value → H) : ∃ places, DataW.whole enc Tryz.prog ((constBack_world os).forCall (fun _ _ => 0) ⟨#[], #[.agg #[.int .u8 0, .bool false, .int .i64 0, .string .empty], .agg #[.int .u8 0, .bool false, .int .i64 0, .string .empty], .string .empty], []⟩).memory Tryz.f4.params.toList (Rows.OpenSpec.upto Rows.constBackSpec).vars false (#[.agg #[.int .u8 0, .bool false, .int .i64 0, .string .empty], .agg #[.int .u8 0, .bool false, .int .i64 0, .string .empty], .string .empty] : Array Value).toList 8 = some ([.agg [.lit (.int .u8 0), .lit (.bool false), .lit (.int .i64 0), .lit (.string [])], .agg [.lit (.int .u8 0), .lit (.bool false), .lit (.int .i64 0), .lit (.string [])], .lit (.string [])], [], places) :=
  ⟨[], by kernel_rfl⟩

set_option maxRecDepth 100000 in
theorem constBack_lifted (os : Os) (started : os.Started) (H : Type) (enc : TypeId × Value → H) (F : Stop.Interp) :
    ReturnsInHanded {} Tryz.checked os 4 .any ((Rows.OpenSpec.upto Rows.constBackSpec).preRow enc Tryz.prog Tryz.f4 Rows.constBackUptoRow.domain false Rows.constBackUptoRow.laid) (((Rows.OpenSpec.upto Rows.constBackSpec).at F).post enc Tryz.prog Tryz.f4 false true false false) := by
  obtain ⟨places, hx⟩ := constBack_reads os enc
  refine returnsInHanded_of_row (C := Tryz.checked) (s := Rows.OpenSpec.upto Rows.constBackSpec) own started (by kernel_rfl) Tryz.func4
    (witness_row_atRef (enc := enc) (C := Tryz.checked) false (constBack_world os) #[.agg #[.int .u8 0, .bool false, .int .i64 0, .string .empty], .agg #[.int .u8 0, .bool false, .int .i64 0, .string .empty], .string .empty] (World.laidAll_os _ _ _) (by kernel_rfl) (by kernel_rfl) (by kernel_rfl)
      (OpenSpec.preRow_of_cond 8 hx (by kernel_rfl) (fun k hk => by cases hk; kernel_rfl) (by kernel_rfl) (constBack_laid os))) ?_
  intro W base args ds gs before hval0 hW hcnd hk0 hsz0 hL hSh _
  have hk : Rows.uptoSmall H (ds ++ gs) = true := hk0 _ rfl
  have hval : ∀ (j : Nat) t v, Tryz.f4.params[j]? = some t → args[j]? = some v → Value.okWide Tryz.prog W .any base t v := hval0
  have hW' := hW
  obtain ⟨p, q, hA0, hV, rfl, hfz, hnd⟩ := hW
  have hA : DataW.TrodAll enc Tryz.prog W 0 (fun _ => true) true Tryz.f4.params.toList args.toList ds p := hA0
  rw [Tryz.params4] at hA hval
  obtain ⟨v0, vs0, d0, ds0, p0, q0, hargs, rfl, rfl, h0, r0⟩ := trodAll_cons hA
  obtain ⟨v1, vs1, d1, ds1, p1, q1, rfl, rfl, rfl, h1, r1⟩ := trodAll_cons r0
  obtain ⟨v2, vs2, d2, ds2, p2, q2, rfl, rfl, rfl, h2, r2⟩ := trodAll_cons r1
  obtain ⟨rfl, rfl, rfl⟩ := trodAll_nil r2
  obtain rfl : args = #[v0, v1, v2] := by cases args; simp_all
  obtain ⟨rfl, rfl⟩ := trodVars_none hV
  have k0 := h0
  have lt0 : ∀ x ∈ p0, x.block < W.heap.size := by obtain ⟨m, hm⟩ := k0; exact DataW.trod_lt m _ _ _ hm
  obtain ⟨x0, rfl, rfl, _, _, ba0, bb0⟩ := open_val (hval 0 25 v0 rfl rfl) h0
  have k1 := h1
  have lt1 : ∀ x ∈ p1, x.block < W.heap.size := by obtain ⟨m, hm⟩ := k1; exact DataW.trod_lt m _ _ _ hm
  obtain ⟨x1, rfl, rfl, _, _, ba1, bb1⟩ := open_val (hval 1 25 v1 rfl rfl) h1
  obtain ⟨s2, rfl, rfl, rfl, hm2⟩ := open_string Tryz.underlying9 (hval 2 9 v2 rfl rfl) h2
  have hB : x0.s.size + x1.s.size + s2.size ≤ 1048576 := by
    have h := small_of hk
    simp only [List.append_nil, Rows.uptoBulkAll] at h
    have e0 := bulk_val (H := H) x0
    have e1 := bulk_val (H := H) x1
    have e2 := bulk_string (H := H) s2
    omega
  clear hA0 hval0
  refine (constBack_walk x0 ⟨ba0, bb0⟩ x1 ⟨ba1, bb1⟩ s2 hB W (spl_met hL) (lt_met hL) (Tryz.laysM143.s1_3 W hSh) (tbs_met hL) (evs_met hL)).mono fun e W' ⟨he, bel⟩ => ?_
  subst he
  exact ⟨_, rfl, _, _, _, [], _, [], hW', trodAll_mk1 (shut_bool Tryz.underlying4 _), (trodAll_cons_mk (Below.trod laidOutC (by kernel_rfl) (of_decide_eq_true (by kernel_rfl)) k0 bel lt0) (trodAll_cons_mk (Below.trod laidOutC (by kernel_rfl) (of_decide_eq_true (by kernel_rfl)) k1 bel lt1) (trodAll_cons_mk (shut_string Tryz.underlying9 hm2) trodAll_mk0))), rfl, bel.frame _, fun h => by cases h⟩

theorem constBack_said : Rows.ConstBackUptoSaid :=
  OpenClaim.holds_of_cond 4 Tryz.f4 rfl rfl rfl rfl rfl rfl rfl ⟨rfl, rfl, rfl, rfl, rfl⟩ rfl rfl rfl rfl rfl (by kernel_rfl) Tryz.func4 (by kernel_rfl)
    (of_decide_eq_true (by kernel_rfl)) (by unfold Func.isWrapper; first | (rw [if_pos (by decide +kernel)]; kernel_rfl) | (rw [if_neg (by decide +kernel)]; exact ⟨rfl, rfl⟩))
    (fun os started H enc _ F => by rw [OpenClaim.pre_eq_preRow]; exact constBack_lifted os started H enc F)

theorem constBack_holds : Rows.ConstBackUptoCardSaid :=
  Claim7.holds_tied_plain_at .later [] _ _ _ _ constBack_said (fun _ h => by cases h) (by kernel_rfl) (fun _ h => by cases h) constBackUpto_row_tie rfl ⟨rfl, rfl⟩ (by kernel_rfl) rfl
    (fun f fn hf hfn => by
      obtain rfl : f = 4 := Option.some.inj ((show Tryz.prog.funcNamed "moniker/monikerlaw8.ConstBack" = some 4 by kernel_rfl).symm.trans hf) |>.symm
      obtain rfl : fn = Tryz.f4 := (Option.some.inj (Tryz.func4.symm.trans hfn)).symm
      refine ⟨by kernel_rfl, fun j t ht => ?_⟩
      rw [Tryz.params4] at ht
      have hm := Array.mem_of_getElem? ht
      have key : (Tryz.f4.params.toList.all fun t => !Tryz.prog.wantsStandIn t) = true := by kernel_rfl
      rw [Tryz.params4] at key
      have := List.all_eq_true.1 key t (by simpa using hm)
      show Tryz.prog.wantsStandIn t = false
      simpa using this)
    (by kernel_rfl)
end Go.Proofs.YtnaipmgdipflgaaGreatDoor
