import Derived.Test.YtaploloedocgbaaDoorDw
import Derived.Laws.Cover1
import Derived.Lib.Strings
import Derived.Test.YtaploloedocgbaaDoorNam
namespace Go.Proofs.YtaploloedocgbaaDoor
open Go.ChangeShapes Go.WideShapes Go.ChangeAt Go.RowKit
set_option linter.unusedVariables false

theorem dlit_ne {a b : ByteArray} (h : ¬ a.data.toList = b.data.toList) : (a.toList == b.toList) = false := by
  rw [beq_eq_false_iff_ne, ByteArray.toList_eq, ByteArray.toList_eq]
  exact h
theorem dlit_eq {a b : ByteArray} (h : a.data.toList = b.data.toList) : (a.toList == b.toList) = true := by
  rw [beq_iff_eq, ByteArray.toList_eq, ByteArray.toList_eq]
  exact h
theorem dlen (s : ByteArray) : s.data.toList.length = s.size := by rw [Array.length_toList]; rfl
end Go.Proofs.YtaploloedocgbaaDoor

namespace Go.Proofs.YtaploloedocgbaaDoor
set_option linter.unusedVariables false

/-- a node's Size written over, in the row -/
theorem flat_set_z : ∀ (ns : List Nd) (i : Nat) (x : Nd) (v : Int), ns[i]? = some x → (flat ns).set (i * 4 + 3) (.int .i64 v) = flat (ns.set i ⟨x.k, x.f, x.e, v⟩)
  | [], i, x, v, h => by simp at h
  | y :: r, 0, x, v, h => by
    have : y = x := by simpa using h
    subst this
    rw [List.set_cons_zero, flat_cons, flat_cons]
    rfl
  | y :: r, i + 1, x, v, h => by
    have ih := flat_set_z r i x v (by simpa using h)
    rw [List.set_cons_succ, flat_cons, flat_cons, ← ih, show (i + 1) * 4 + 3 = (Rw.cs y).length + (i * 4 + 3) by rw [Rw.len]; show _ = 4 + _; omega, List.set_append_right _ _ (by omega), Nat.add_sub_cancel_left]

/-- the brackets that close at i: the place behind them, the nodes with their sizes, what is still open (the innermost first) -/
def cls (s : List UInt8) : List Nat → Nat → List Nd → Nat × List Nd × List Nat
  | [], i, l => (i, l, [])
  | t :: r, i, l => if s[i]? = some 41 then cls s r (i + 1) (l.set t ⟨(l.getD t ⟨0, 0, 0, 0⟩).k, (l.getD t ⟨0, 0, 0, 0⟩).f, (l.getD t ⟨0, 0, 0, 0⟩).e, (l.length : Int) - t⟩) else (i, l, t :: r)
theorem cls_ge (s : List UInt8) : ∀ (op : List Nat) (i : Nat) (l : List Nd), i ≤ (cls s op i l).1
  | [], i, l => Nat.le_refl _
  | t :: r, i, l => by
    rw [cls]
    split
    · exact Nat.le_of_succ_le (cls_ge s r (i + 1) _)
    · exact Nat.le_refl _
/-- what both Draws answer from i on: the nodes, the error, the place -/
def dr (nm : List (List UInt8)) (s : List UInt8) : Nat → Nat → List Nd → List Nat → List Nd × Int × Nat
  | 0, _, _, _ => ([], 40, 0)
  | m + 1, i, l, op =>
    if (naF nm (s.drop i) 58).2.2 then
      (if s[i + (naF nm (s.drop i) 58).2.1]? = some 40 then dr nm s m (i + (naF nm (s.drop i) 58).2.1 + 1) (l ++ [⟨((naF nm (s.drop i) 58).1 : Int), 0, 0, 1⟩]) (l.length :: op)
      else
        (if (cls s op (i + (naF nm (s.drop i) 58).2.1) (l ++ [⟨((naF nm (s.drop i) 58).1 : Int), 0, 0, 1⟩])).2.2 = [] then
          (if (cls s op (i + (naF nm (s.drop i) 58).2.1) (l ++ [⟨((naF nm (s.drop i) 58).1 : Int), 0, 0, 1⟩])).1 < s.length then ([], 40, (cls s op (i + (naF nm (s.drop i) 58).2.1) (l ++ [⟨((naF nm (s.drop i) 58).1 : Int), 0, 0, 1⟩])).1)
          else ((cls s op (i + (naF nm (s.drop i) 58).2.1) (l ++ [⟨((naF nm (s.drop i) 58).1 : Int), 0, 0, 1⟩])).2.1, 0, 0))
        else if s[(cls s op (i + (naF nm (s.drop i) 58).2.1) (l ++ [⟨((naF nm (s.drop i) 58).1 : Int), 0, 0, 1⟩])).1]? = some 32 then
          dr nm s m ((cls s op (i + (naF nm (s.drop i) 58).2.1) (l ++ [⟨((naF nm (s.drop i) 58).1 : Int), 0, 0, 1⟩])).1 + 1) (cls s op (i + (naF nm (s.drop i) 58).2.1) (l ++ [⟨((naF nm (s.drop i) 58).1 : Int), 0, 0, 1⟩])).2.1 (cls s op (i + (naF nm (s.drop i) 58).2.1) (l ++ [⟨((naF nm (s.drop i) 58).1 : Int), 0, 0, 1⟩])).2.2
        else ([], 40, (cls s op (i + (naF nm (s.drop i) 58).2.1) (l ++ [⟨((naF nm (s.drop i) 58).1 : Int), 0, 0, 1⟩])).1)))
    else ([], 40, i + (naF nm (s.drop i) 58).2.1)
end Go.Proofs.YtaploloedocgbaaDoor

namespace Go.Proofs.YtaploloedocgbaaDoor
open Go.ChangeShapes Go.WideShapes Go.ChangeAt Go.RowKit
set_option linter.unusedVariables false

theorem infoNode : (Tryd.prog.info? 57).map (fun i => (i.zero, i.size, i.bytes)) = some (some (.agg #[.int .u8 0, .int .i64 0, .int .i64 0, .int .i64 0]), 4, 32) := by kernel_rfl

/-- a node as Draw makes it -/
def mkN (k : Nat) : Nd := ⟨(k : Int), 0, 0, 1⟩
/-- its Size written over -/
def szN (l : List Nd) (t : Nat) : List Nd := l.set t ⟨(l.getD t ⟨0, 0, 0, 0⟩).k, (l.getD t ⟨0, 0, 0, 0⟩).f, (l.getD t ⟨0, 0, 0, 0⟩).e, (l.length : Int) - t⟩
theorem szN_len (l : List Nd) (t : Nat) : (szN l t).length = l.length := by unfold szN; rw [List.length_set]
theorem szN_flat {l : List Nd} {t : Nat} (h : t < l.length) : (flat l).set (t * 4 + 3) (.int .i64 ((l.length : Int) - t)) = flat (szN l t) := by
  have h1 : l[t]? = some l[t] := List.getElem?_eq_getElem h
  rw [flat_set_z l t l[t] _ h1]
  unfold szN
  rw [List.getD, h1, Option.getD_some]
theorem cls_nil (s : List UInt8) (i : Nat) (l : List Nd) : cls s [] i l = (i, l, []) := by rw [cls]
theorem cls_yes {s : List UInt8} {i : Nat} (t : Nat) (r : List Nat) (l : List Nd) (h : s[i]? = some 41) : cls s (t :: r) i l = cls s r (i + 1) (szN l t) := by
  rw [cls, if_pos h]; rfl
theorem cls_no {s : List UInt8} {i : Nat} (t : Nat) (r : List Nat) (l : List Nd) (h : ¬ s[i]? = some 41) : cls s (t :: r) i l = (i, l, t :: r) := by
  rw [cls, if_neg h]
theorem dr_no {nm : List (List UInt8)} {s : List UInt8} {m i : Nat} {l : List Nd} {op : List Nat} {kd ln : Nat} (h : naF nm (s.drop i) 58 = (kd, ln, false)) : dr nm s (m + 1) i l op = ([], 40, i + ln) := by
  rw [dr, h]; rfl
theorem dr_open {nm : List (List UInt8)} {s : List UInt8} {m i : Nat} {l : List Nd} {op : List Nat} {kd ln : Nat} (h : naF nm (s.drop i) 58 = (kd, ln, true)) (h1 : s[i + ln]? = some 40) : dr nm s (m + 1) i l op = dr nm s m (i + ln + 1) (l ++ [mkN kd]) (l.length :: op) := by
  rw [dr, h]
  simp only
  rw [if_pos trivial, if_pos h1]; rfl
theorem dr_cls {nm : List (List UInt8)} {s : List UInt8} {m i : Nat} {l : List Nd} {op : List Nat} {kd ln : Nat} (h : naF nm (s.drop i) 58 = (kd, ln, true)) (h1 : ¬ s[i + ln]? = some 40) {j : Nat} {l' : List Nd} {op' : List Nat} (hc : cls s op (i + ln) (l ++ [mkN kd]) = (j, l', op')) :
    dr nm s (m + 1) i l op = if op' = [] then (if j < s.length then ([], 40, j) else (l', 0, 0)) else if s[j]? = some 32 then dr nm s m (j + 1) l' op' else ([], 40, j) := by
  rw [dr, h]
  unfold mkN at hc
  simp only [hc]
  rw [if_pos trivial, if_neg h1]
/-- a name that was found is not empty, and lies within the text -/
theorem na_facts {nm : List (List UInt8)} (hlen : nm.length = 58) (hn : ∀ i, i < nm.length → nm.getD i [] ≠ []) {s : List UInt8} {kd ln : Nat} {ok : Bool} (h : naF nm s 58 = (kd, ln, ok)) : ln ≤ s.length ∧ (ok = true → 0 < ln ∧ kd < 58) := by
  have h1 := naF_inv nm s hn 58 (by omega)
  rw [h] at h1
  refine ⟨h1.2, fun ho => ?_⟩
  obtain ⟨h2, h3⟩ := h1.1.yes ho
  simp only at h2 h3
  refine ⟨?_, h2⟩
  have h4 := hn kd (by omega)
  rw [h3] at h4
  by_cases h0 : ln = 0
  · rw [h0] at h4; exact absurd rfl h4
  · omega

theorem op_more {op : List Nat} {l : List Nd} {x : Nd} (h : ∀ t ∈ op, t < l.length) : ∀ t ∈ op, t < l.length + 1 := fun t ht => Nat.lt_succ_of_lt (h t ht)
theorem op_push {op : List Nat} {l : List Nd} {x : Nd} (h : ∀ t ∈ op, t < l.length) : ∀ t ∈ l.length :: op, t < (l ++ [x]).length := fun t ht => by
  rw [List.length_append, List.length_singleton]
  rcases List.mem_cons.1 ht with h1 | h1
  · omega
  · have := h t h1; omega

/-- the nodes and the open ones, beside one another -/
structure DrS (B : Nat) (w0 wr : World) (l : List Nd) (op : List Nat) (vn : Value) (a : Option Addr) (cap : Nat) : Prop where
  nod : wr.ownsRow B 57 4 vn l.length (flat l)
  opn : wr.ownsRow B 3 1 (.slice a op.length cap) op.length (flat (rv op))
  bel : Below B w0 wr
  sz : B ≤ wr.heap.size
theorem DrS.init (B : Nat) (w : World) (hB : B = w.heap.size) : DrS B w w [] [] (.slice none 0 0) none 0 :=
  ⟨World.ownsRow_nil _ _ _ _, World.ownsRow_nil _ _ _ _, Below.refl _ _, by omega⟩
theorem DrS.below {B : Nat} {w0 wr w9 : World} {l : List Nd} {op : List Nat} {vn : Value} {a : Option Addr} {cap : Nat} (h : DrS B w0 wr l op vn a cap) (hb : Below wr.heap.size wr w9) : DrS B w0 w9 l op vn a cap :=
  ⟨ownsRow_below h.nod hb (Nat.le_refl _), ownsRow_below h.opn hb (Nat.le_refl _), h.bel.trans (hb.mono h.sz), Nat.le_trans h.sz hb.size⟩
theorem DrS.node {B : Nat} {w0 wr w9 : World} {l : List Nd} {op : List Nat} {vn v9 : Value} {a : Option Addr} {cap : Nat} (h : DrS B w0 wr l op vn a cap) {n : Nd} {ob : Obj} (hown : w9.ownsRow B 57 4 v9 (l.length + 1) (flat l ++ flat [n])) (hg : (wr.alloc ob).grownBy w9 vn.ownBlock) :
    ∃ g cn, v9 = .slice (some ⟨g, 0, none⟩) (l.length + 1) cn ∧ DrS B w0 w9 (l ++ [n]) op (.slice (some ⟨g, 0, none⟩) (l.length + 1) cn) a cap := by
  obtain ⟨g, cn, rfl⟩ : ∃ g cn, v9 = .slice (some ⟨g, 0, none⟩) (l.length + 1) cn := by
    rcases hown.2 with ⟨_, h0⟩ | ⟨g, c, cur, hv, _⟩
    · omega
    · exact ⟨g, c, hv⟩
  have hz := h.sz
  refine ⟨g, cn, rfl, by rw [List.length_append, flat_append]; exact hown, own_grw (h.opn.alloc ob) hg (row_kindA (h.nod.alloc ob)) (by decide), (h.bel.alloc hz ob).grown hg (by simp; omega) (fun g hh => (h.nod.lt g hh).1), ?_⟩
  have := hg.size; simp at this; omega
theorem DrS.push {B : Nat} {w0 wr w9 : World} {l : List Nd} {op : List Nat} {vn : Value} {a : Option Addr} {cap : Nat} (h : DrS B w0 wr l op vn a cap) {n : Nat} {x : Int} (hx : x = (n : Int)) {ob : Obj} {v9 : Value} (hown : w9.ownsRow B 3 1 v9 (op.length + 1) (flat (rv op) ++ flat [x])) (hg : (wr.alloc ob).grownBy w9 (Value.slice a op.length cap).ownBlock) :
    ∃ a9 c9, v9 = .slice a9 (n :: op).length c9 ∧ DrS B w0 w9 l (n :: op) vn a9 c9 := by
  obtain ⟨a9, c9, rfl⟩ : ∃ a9 c9, v9 = .slice a9 (op.length + 1) c9 := by
    rcases hown.2 with ⟨_, h0⟩ | ⟨g, c, cur, hv, _⟩
    · omega
    · exact ⟨_, c, hv⟩
  have hz := h.sz
  refine ⟨a9, c9, rfl, ?_, ?_, ?_, ?_⟩
  · exact own_grw (h.nod.alloc ob) hg (row_kindA (h.opn.alloc ob)) (by decide)
  · rw [rv_cons, flat_append, ← hx]; exact hown
  · exact (h.bel.alloc hz ob).grown hg (by simp; omega) (fun g hh => (h.opn.lt g hh).1)
  · have := hg.size; simp at this; omega
theorem DrS.less {B : Nat} {w0 wr : World} {l : List Nd} {op : List Nat} {t : Nat} {vn : Value} {a : Option Addr} {cap : Nat} (h : DrS B w0 wr l (t :: op) vn a cap) : DrS B w0 wr l op vn a cap := by
  refine ⟨h.nod, ?_, h.bel, h.sz⟩
  have := h.opn
  rw [List.length_cons, rv_cons, flat_append, flat_int [(t : Int)]] at this
  exact own_less this
/-- a Size is written -/
theorem DrS.size {B : Nat} {w0 wr : World} {l : List Nd} {op : List Nat} {t g cn n : Nat} {a : Option Addr} {cap : Nat} (h : DrS B w0 wr l op (.slice (some ⟨g, 0, none⟩) n cn) a cap) (ht : t < l.length) {x : Int} (hx : x = (l.length : Int) - t) : DrS B w0 (wr.setCell ⟨g, t * 4 + 3, none⟩ (.int .i64 x)) (szN l t) op (.slice (some ⟨g, 0, none⟩) n cn) a cap := by
  have hn : n = l.length := by
    obtain ⟨a9, c9, h1, -, -, -⟩ := own_form h.nod
    simp only [Value.slice.injEq] at h1
    exact h1.2.1
  subst hn
  subst hx
  have hs := h.sz
  refine ⟨?_, ?_, h.bel.setCell (p := ⟨g, t * 4 + 3, none⟩) (h.nod.lt g rfl).1 _, by simp; exact hs⟩
  · rw [szN_len, ← szN_flat ht]; exact (h.nod.stored (t * 4 + 3) _).1
  · exact ownsRow_setCell_other h.opn (a := ⟨g, t * 4 + 3, none⟩) (own_other h.opn h.nod (by decide) rfl) _
/-- what is handed out, when the result's box has been written -/
theorem DrS.fin {B : Nat} {w0 wr : World} {l : List Nd} {op : List Nat} {g cn n b : Nat} {a : Option Addr} {cap : Nat} (h : DrS B w0 wr l op (.slice (some ⟨g, 0, none⟩) n cn) a cap) (hb : b < B) (x : Value) : LiesA (wr.setCell ⟨b, 0, none⟩ x) (some ⟨g, 0, none⟩) l := by
  have hn : n = l.length := by
    obtain ⟨a9, c9, h1, -, -, -⟩ := own_form h.nod
    simp only [Value.slice.injEq] at h1
    exact h1.2.1
  subst hn
  have h1 := ownsRow_setCell_other h.nod (a := ⟨b, 0, none⟩) (fun h1 => by have := (h.nod.lt b h1).1; omega) x
  exact .inr ⟨g, 0, rfl, Lies.own h1⟩
end Go.Proofs.YtaploloedocgbaaDoor

namespace Go.Proofs.YtaploloedocgbaaDoor
open Go.ChangeShapes Go.WideShapes Go.ChangeAt Go.RowKit
set_option linter.unusedVariables false

theorem lcp_at {m s : List UInt8} : ∀ {n : Nat}, n ≤ lcp m s → ∀ {a b : UInt8}, m[n]? = some a → s[n]? = some b → (a = b → n + 1 ≤ lcp m s) ∧ (a ≠ b → lcp m s = n) := by
  intro n
  induction n generalizing m s with
  | zero =>
    intro _ a b ha hb
    cases m with
    | nil => cases ha
    | cons c x =>
      cases s with
      | nil => cases hb
      | cons d y =>
        have h1 : c = a := Option.some.inj ha
        have h2 : d = b := Option.some.inj hb
        subst h1 h2
        refine ⟨fun h => by subst h; rw [lcp_yes]; omega, fun h => lcp_no x y h⟩
  | succ n ih =>
    intro hn a b ha hb
    cases m with
    | nil => cases ha
    | cons c x =>
      cases s with
      | nil => cases hb
      | cons d y =>
        by_cases h : c = d
        · subst h
          rw [lcp_yes] at hn ⊢
          obtain ⟨h1, h2⟩ := ih (m := x) (s := y) (by omega) ha hb
          exact ⟨fun h => by have := h1 h; omega, fun h => by rw [h2 h]⟩
        · rw [lcp_no x y h] at hn; omega
end Go.Proofs.YtaploloedocgbaaDoor

namespace Go.Proofs.YtaploloedocgbaaDoor
set_option linter.unusedVariables false

theorem cls_facts (s : List UInt8) : ∀ (op : List Nat) (i : Nat) (l : List Nd), i ≤ s.length → (cls s op i l).1 ≤ s.length ∧ i ≤ (cls s op i l).1 ∧ (cls s op i l).2.1.length = l.length
  | [], i, l, h => by rw [cls_nil]; exact ⟨h, Nat.le_refl _, rfl⟩
  | t :: r, i, l, h => by
    by_cases h1 : s[i]? = some 41
    · have h2 := (List.getElem?_eq_some_iff.1 h1).1
      rw [cls_yes t r l h1]
      have ih := cls_facts s r (i + 1) (szN l t) h2
      rw [szN_len] at ih
      exact ⟨ih.1, by omega, ih.2.2⟩
    · rw [cls_no t r l h1]; exact ⟨h, Nat.le_refl _, rfl⟩
/-- no more nodes than bytes -/
theorem dr_len {nm : List (List UInt8)} (hlen : nm.length = 58) (hn : ∀ i, i < nm.length → nm.getD i [] ≠ []) (s : List UInt8) : ∀ (m i : Nat) (l : List Nd) (op : List Nat), i ≤ s.length → l.length ≤ i → (dr nm s m i l op).1.length ≤ s.length
  | 0, i, l, op, _, _ => by rw [dr]; exact Nat.zero_le _
  | m + 1, i, l, op, hi, hl => by
    obtain ⟨kd, ln, ok, hna⟩ : ∃ a b c, naF nm (s.drop i) 58 = (a, b, c) := ⟨_, _, _, rfl⟩
    have hf := na_facts hlen hn hna
    rw [List.length_drop] at hf
    cases ok with
    | false => rw [dr_no hna]; exact Nat.zero_le _
    | true =>
      have hf2 := hf.2 rfl
      by_cases h1 : s[i + ln]? = some 40
      · have h2 := (List.getElem?_eq_some_iff.1 h1).1
        rw [dr_open hna h1]
        exact dr_len hlen hn s m _ _ _ h2 (by rw [List.length_append, List.length_singleton]; omega)
      · obtain ⟨j, l', op', hc⟩ : ∃ a b c, cls s op (i + ln) (l ++ [mkN kd]) = (a, b, c) := ⟨_, _, _, rfl⟩
        have hcf := cls_facts s op (i + ln) (l ++ [mkN kd]) (by omega)
        rw [hc, List.length_append, List.length_singleton] at hcf
        simp only at hcf
        rw [dr_cls hna h1 hc]
        split
        · split
          · exact Nat.zero_le _
          · show l'.length ≤ _; omega
        · split
          · rename_i h3
            have h2 := (List.getElem?_eq_some_iff.1 h3).1
            exact dr_len hlen hn s m _ _ _ h2 (by omega)
          · exact Nat.zero_le _
end Go.Proofs.YtaploloedocgbaaDoor
