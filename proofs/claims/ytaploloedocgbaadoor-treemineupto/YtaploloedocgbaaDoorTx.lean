import Derived.Test.YtaploloedocgbaaDoorSk
import Derived.Test.YtaploloedocgbaaDoorBk3
import Derived.Test.YtaploloedocgbaaDoorDw
import Derived.Test.YtaploloedocgbaaDoorNms1
import Derived.Test.YtaploloedocgbaaDoorBl
import Derived.Test.YtaploloedocgbaaDoorShf
namespace Go.Proofs.YtaploloedocgbaaDoor
open Go.ChangeShapes Go.WideShapes Go.ChangeAt Go.RowKit
set_option linter.unusedVariables false

set_option maxRecDepth 1000000 in
set_option maxHeartbeats 2000000 in
theorem closeTo_any (B b base : Nat) (bs : List Value) (st : List Nat) (n : Nat) (a : Option Addr) (cap : Nat) (w : World) (hI : Lib.IsBuilder 74 5 B b bs w) (hO : w.ownsRow base 3 1 (.slice a st.length cap) st.length (flat (rv st))) (hlen : bs.length + st.length ≤ 1073741824) (hn : n ≤ 1073741824) (hbase : b < base) (hBw : B ≤ w.heap.size) :
    Calls Tryd.prog 35 #[.pointer (some ⟨b, 0, none⟩), .slice a st.length cap, .int .i64 (n : Int)] w fun e w' => e = .returned (.slice a (pops n st).2.length cap) ∧ Lib.IsBuilder 74 5 B b (bs ++ List.replicate (pops n st).1 (.int .u8 41)) w' ∧ w'.ownsRow base 3 1 (.slice a (pops n st).2.length cap) (pops n st).2.length (flat (rv (pops n st).2)) ∧ Below B w w' ∧ Lib.OthersKept 5 (some b) w w' := by
  obtain ⟨C, R, hCR⟩ : ∃ C R, pops n st = (C, R) := ⟨_, _, rfl⟩
  rw [hCR]
  have HP : Hid (pops n st = (C, R)) := hCR
  have HI : Hid (Lib.IsBuilder 74 5 B b bs w) := hI
  have HO : Hid (w.ownsRow base 3 1 (.slice a st.length cap) st.length (flat (rv st))) := hO
  clear hI hO hCR
  go_enter Tryd.func35, Tryd.ntmps35
  go_wp2
  go_loopg [1] st.length (fun gk so wr => ∃ (st' : List Nat) (c : Nat), gk = st'.length ∧ so = .slice a st'.length cap ∧ ((pops n st').1 + c, (pops n st').2) = (C, R) ∧ st'.length + c = st.length ∧ Lib.IsBuilder 74 5 B b (bs ++ List.replicate c (.int .u8 41)) wr ∧ wr.ownsRow base 3 1 (.slice a st'.length cap) st'.length (flat (rv st')) ∧ Below B w wr ∧ Lib.OthersKept 5 (some b) w wr)
  case atStart => exact ⟨st, 0, rfl, rfl, by rw [HP.out]; rfl, rfl, by rw [List.replicate_zero, List.append_nil]; exact HI.out, HO.out, Below.refl _ _, Lib.OthersKept.refl _ _ _⟩
  case round =>
    obtain ⟨st', c, rfl, rfl, hp, hc, hib, hown, hbel, hk⟩ := hrel
    have HP2 : Hid (((pops n st').1 + c, (pops n st').2) = (C, R)) := hp
    have HI2 : Hid (Lib.IsBuilder 74 5 B b (bs ++ List.replicate c (.int .u8 41)) wr) := hib
    have HB2 : Hid (Below B w wr ∧ Lib.OthersKept 5 (some b) w wr) := ⟨hbel, hk⟩
    have HO2 : Hid (wr.ownsRow base 3 1 (.slice a st'.length cap) st'.length (flat (rv st'))) := hown
    clear hp hib hown hbel hk HP HI HO
    cases st' with
    | nil =>
      have HE : Hid (C = c ∧ R = []) := by
        have := HP2.out
        simp only [pops, Prod.mk.injEq] at this
        exact ⟨by omega, this.2.symm⟩
      clear HP2
      go_wp2
      go_ret
      exact ⟨by rw [HE.out.2]; rfl, by rw [HE.out.1]; exact HI2.out, by rw [HE.out.2]; exact HO2.out, HB2.out.1, HB2.out.2⟩
    | cons t r =>
      rw [List.length_cons, rv_cons, flat_append, flat_int [(t : Int)]] at HO2
      obtain ⟨g, rfl, hcell⟩ := own_at HO2.out
      obtain ⟨k, hk⟩ : ∃ k, r.length = k := ⟨_, rfl⟩
      simp only [List.length_cons, hk] at hc ⊢
      rw [hk] at HO2 hcell
      have hcp := own_cap HO2.out
      have hcp' : (k : Int) ≤ (cap : Int) := by omega
      have hk0 : (0 : Int) < (k : Int) + 1 := by omega
      have m1 : IntKind.i64.wrap ((k : Int)) = (k : Int) := IntWalk.i64_in _ ⟨by omega, by omega⟩
      have hkc : (k : Int) < (k : Int) + 1 := by omega
      by_cases ht : t = n
      · have t1 : ((t : Int) == (n : Int)) = true := by rw [ht]; exact beq_self_eq_true _
        have HP3 : Hid (((pops n r).1 + (c + 1), (pops n r).2) = (C, R)) := by
          have := HP2.out
          rw [ht, pops_yes] at this
          simp only [Prod.mk.injEq] at this
          exact Prod.ext (by show _ = C; omega) this.2
        clear HP2 ht
        go_wp2_with (go_at_call 36; (refine (writeByte_k B b _ 41 _ HI2.out (by rw [List.length_append, List.length_replicate]; omega) (Nat.le_trans hBw HB2.out.1.size)).mono ?_); rintro e w3 ⟨rfl, hba, hbw, hok⟩; have HI3 : Hid (Lib.IsBuilder 74 5 B b (bs ++ List.replicate (c + 1) (.int .u8 41)) w3) := (by unfold Hid; rw [List.replicate_succ', ← List.append_assoc]; exact .inr hba); have HB3 : Hid (Below B w w3 ∧ Lib.OthersKept 5 (some b) w w3) := ⟨HB2.out.1.trans hbw, HB2.out.2.trans hok⟩; have HO3 : Hid (w3.ownsRow base 3 1 (.slice (some ⟨g, 0, none⟩) (k + 1) cap) (k + 1) (flat (rv r) ++ [.int .i64 (t : Int)])) := row_others HO2.out hok hbase (by decide); clear hba hbw hok)
        go_roundg r.length
        case measure => first | omega | (simp only [List.length_cons]; omega) | (rw [hk]; omega)
        case rel => exact ⟨r, c + 1, rfl, by rw [hk], HP3.out, by omega, HI3.out, by rw [hk]; exact own_less HO3.out, HB3.out.1, HB3.out.2⟩
      · have t1 : ((t : Int) == (n : Int)) = false := by rw [beq_eq_false_iff_ne]; omega
        have HE : Hid (C = c ∧ R = t :: r) := by
          have := HP2.out
          rw [pops_no r ht] at this
          simp only [Prod.mk.injEq] at this
          exact ⟨by omega, this.2.symm⟩
        clear HP2 ht
        go_wp2
        go_ret
        refine ⟨by rw [HE.out.2, List.length_cons, hk]; rfl, by rw [HE.out.1]; exact HI2.out, ?_, HB2.out.1, HB2.out.2⟩
        rw [HE.out.2, List.length_cons, hk, rv_cons, flat_append, flat_int [(t : Int)]]
        exact HO2.out
end Go.Proofs.YtaploloedocgbaaDoor

namespace Go.Proofs.YtaploloedocgbaaDoor
open Go.ChangeShapes Go.WideShapes Go.ChangeAt Go.RowKit
set_option linter.unusedVariables false

/-- a word more of a text -/
def stp (s : ByteArray) (p : Tk) (acc : List UInt8) : List UInt8 := if (wrd s p).data.toList = [] then acc else if acc = [] then (wrd s p).data.toList else acc ++ 32 :: (wrd s p).data.toList
/-- the words of the tokens among n pieces from b on -/
def txt (s : ByteArray) (ts : List Tk) (b : Nat) : Nat → List UInt8
  | 0 => []
  | n + 1 => match ts[b + n]? with | some p => if tokB p then stp s p (txt s ts b n) else txt s ts b n | none => txt s ts b n

theorem wrd_le (s : ByteArray) (p : Tk) : (wrd s p).data.toList.length ≤ s.size := by
  have e : ∀ v : ByteArray, v.data.toList.length = v.size := fun v => by rw [Array.length_toList]; rfl
  rw [e]
  unfold wrd
  split
  · simp; omega
  · exact Nat.zero_le _

theorem stp_le {s : ByteArray} {p : Tk} {acc : List UInt8} : (stp s p acc).length ≤ acc.length + s.size + 1 := by
  have := wrd_le s p
  unfold stp
  split
  · omega
  · split
    · omega
    · rw [List.length_append, List.length_cons]; omega

theorem txt_len (s : ByteArray) (ts : List Tk) (b : Nat) (n : Nat) : (txt s ts b n).length ≤ n * (s.size + 1) := by
  induction n with
  | zero => simp [txt]
  | succ n ih =>
    rw [txt, Nat.succ_mul]
    cases ts[b + n]? with
    | none => simp only; omega
    | some p =>
      simp only
      have := stp_le (s := s) (p := p) (acc := txt s ts b n)
      cases tokB p
      · simp only [Bool.false_eq_true, if_false]; omega
      · simp only [if_true]; omega

theorem txt_le (s : ByteArray) (ts : List Tk) (b : Nat) (hs : s.size ≤ 1048576) (n : Nat) (hn : n ≤ 4194304) : (txt s ts b n).length ≤ 4398050705408 := by
  have h1 := txt_len s ts b n
  have h2 : n * (s.size + 1) ≤ 4194304 * 1048577 := Nat.mul_le_mul hn (by omega)
  exact Nat.le_trans h1 h2

theorem txt_tok {s : ByteArray} {ts : List Tk} {b n : Nat} {p : Tk} (hp : ts[b + n]? = some p) (h : tokB p = true) : txt s ts b (n + 1) = stp s p (txt s ts b n) := by
  rw [txt, hp]; simp [h]
theorem txt_not {s : ByteArray} {ts : List Tk} {b n : Nat} {p : Tk} (hp : ts[b + n]? = some p) (h : tokB p = false) : txt s ts b (n + 1) = txt s ts b n := by
  rw [txt, hp]; simp [h]
theorem emp {v : ByteArray} : v.toList.isEmpty = true ↔ v.data.toList = [] := by
  rw [ByteArray.toList_eq, List.isEmpty_iff]
theorem emp' {v : ByteArray} : v.toList.isEmpty = false ↔ ¬ v.data.toList = [] := by
  rw [← emp]; cases v.toList.isEmpty <;> simp
theorem stp_none {s : ByteArray} {p : Tk} {acc : List UInt8} (h : (wrd s p).toList.isEmpty = true) : stp s p acc = acc := by
  unfold stp; rw [if_pos (emp.1 h)]
theorem stp_first {s : ByteArray} {p : Tk} {acc : List UInt8} (h : (wrd s p).toList.isEmpty = false) (ha : acc = []) : stp s p acc = (wrd s p).data.toList := by
  unfold stp; rw [if_neg (emp'.1 h), if_pos ha]
theorem stp_next {s : ByteArray} {p : Tk} {acc : List UInt8} (h : (wrd s p).toList.isEmpty = false) (ha : ¬ acc = []) : stp s p acc = acc ++ 32 :: (wrd s p).data.toList := by
  unfold stp; rw [if_neg (emp'.1 h), if_neg ha]

theorem isB_below {T e : TypeId} {B b B' : Nat} {bs : List Value} {w w' : World} (h : Lib.IsBuilder T e B b bs w) (hb : Below B' w w') (hB : w.heap.size ≤ B') : Lib.IsBuilder T e B b bs w' := by
  have key : ∀ p, Lib.BuilderAt T e B b p bs w → Lib.BuilderAt T e B b p bs w' := fun p ⟨h1, v, h2, h3, h4⟩ =>
    ⟨h1, v, (hb.block b (Nat.lt_of_lt_of_le (lt_of_block h2) hB)).trans h2, ownsRow_below h3 hb hB, h4⟩
  rcases h with h | h
  · exact .inl (key _ h)
  · exact .inr (key _ h)

theorem isB_lt {T e : TypeId} {B b : Nat} {bs : List Value} {w : World} (h : Lib.IsBuilder T e B b bs w) : b < w.heap.size := by
  rcases h with h | h
  · exact h.lt
  · exact h.lt
end Go.Proofs.YtaploloedocgbaaDoor
