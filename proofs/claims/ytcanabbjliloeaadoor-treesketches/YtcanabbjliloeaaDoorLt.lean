import Derived.Test.YtcanabbjliloeaaDoorKept
import Derived.Test.YtcanabbjliloeaaDoorCls
namespace Go.Proofs.YtcanabbjliloeaaDoor
open Go.ChangeShapes Go.WideShapes Go.ChangeAt Go.RowKit
set_option linter.unusedVariables false

/-- what a statement has at hand behind lent: the forest and the lent one, each in a variable of its own -/
structure Lt (w v : World) (s : ByteArray) (a1 : Option Addr) (c1 : Nat) (ts : List Tk) (a2 : Option Addr) (c2 : Nat) (ns : List Nd) (g1 g2 fb cb : Nat) : Prop where
  bel : Below w.heap.size w v
  bf : Bx v fb #[.string s, .slice a1 ts.length c1, .slice a2 ns.length c2] 27
  bc : Bx v cb #[.string s, .slice (some ⟨g1, 0, none⟩) ts.length (ts.length + 2), .slice (some ⟨g2, 0, none⟩) ns.length (ns.length + 2)] 27
  l1 : LiesA v a1 ts
  l2 : LiesA v a2 ns
  m1 : Lies v g1 0 (ts ++ tmarks)
  m2 : Lies v g2 0 (ns ++ nmarks)

theorem Lt.below {w v v' : World} {s : ByteArray} {a1 : Option Addr} {c1 : Nat} {ts : List Tk} {a2 : Option Addr} {c2 : Nat} {ns : List Nd} {g1 g2 fb cb : Nat} (h : Lt w v s a1 c1 ts a2 c2 ns g1 g2 fb cb) (hb : Below v.heap.size v v') : Lt w v' s a1 c1 ts a2 c2 ns g1 g2 fb cb :=
  ⟨h.bel.trans (hb.mono h.bel.size), h.bf.below hb h.bf.lt, h.bc.below hb h.bc.lt, h.l1.below hb, h.l2.below hb, h.m1.below hb h.m1.1, h.m2.below hb h.m2.1⟩

theorem Lt.cells {w v : World} {s : ByteArray} {a1 : Option Addr} {c1 : Nat} {ts : List Tk} {a2 : Option Addr} {c2 : Nat} {ns : List Nd} {g1 g2 fb cb : Nat} (h : Lt w v s a1 c1 ts a2 c2 ns g1 g2 fb cb) :
    (v.cell? ⟨fb, 0, none⟩ = some (.string s) ∧ v.cell? ⟨fb, 1, none⟩ = some (.slice a1 ts.length c1) ∧ v.cell? ⟨fb, 2, none⟩ = some (.slice a2 ns.length c2)) ∧
    v.cell? ⟨cb, 0, none⟩ = some (.string s) ∧ v.cell? ⟨cb, 1, none⟩ = some (.slice (some ⟨g1, 0, none⟩) ts.length (ts.length + 2)) ∧ v.cell? ⟨cb, 2, none⟩ = some (.slice (some ⟨g2, 0, none⟩) ns.length (ns.length + 2)) :=
  ⟨⟨h.bf.cell 0, h.bf.cell 1, h.bf.cell 2⟩, h.bc.cell 0, h.bc.cell 1, h.bc.cell 2⟩

theorem Lt.tok {w v : World} {s : ByteArray} {a1 : Option Addr} {c1 : Nat} {ts : List Tk} {a2 : Option Addr} {c2 : Nat} {ns : List Nd} {g1 g2 fb cb : Nat} (h : Lt w v s a1 c1 ts a2 c2 ns g1 g2 fb cb) : LiesA v (some ⟨g1, 0, none⟩) ts := .inr ⟨g1, 0, rfl, h.m1.pre⟩
theorem Lt.nod {w v : World} {s : ByteArray} {a1 : Option Addr} {c1 : Nat} {ts : List Tk} {a2 : Option Addr} {c2 : Nat} {ns : List Nd} {g1 g2 fb cb : Nat} (h : Lt w v s a1 c1 ts a2 c2 ns g1 g2 fb cb) : LiesA v (some ⟨g2, 0, none⟩) ns := .inr ⟨g2, 0, rfl, h.m2.pre⟩

theorem Lt.kept {w v : World} {s : ByteArray} {a1 : Option Addr} {c1 : Nat} {ts : List Tk} {a2 : Option Addr} {c2 : Nat} {ns : List Nd} {g1 g2 fb cb : Nat} (h : Lt w v s a1 c1 ts a2 c2 ns g1 g2 fb cb) (hl1 : ts.length * 24 ≤ 140737488351232) (hl2 : ns.length * 32 ≤ 140737488351232) :
    Calls Tryd.prog 7 #[.agg #[.string s, .slice (some ⟨g1, 0, none⟩) ts.length (ts.length + 2), .slice (some ⟨g2, 0, none⟩) ns.length (ns.length + 2)], .agg #[.string s, .slice a1 ts.length c1, .slice a2 ns.length c2]] v
      fun e w' => e = .returned (.bool true) ∧ Below v.heap.size v w' :=
  kept_any s g1 g2 a1 a2 c1 c2 ts ns v h.l1 h.l2 h.m1 h.m2 hl1 hl2

/-- lent, called of a forest that was put into a variable; what it gives is put into another -/
theorem lent_lt (s : ByteArray) (a1 a2 : Option Addr) (c1 c2 : Nat) (ts : List Tk) (ns : List Nd) (w v : World) (fb : Nat) (hv : Below w.heap.size w v) (hf : Bx v fb #[.string s, .slice a1 ts.length c1, .slice a2 ns.length c2] 27)
    (h1 : LiesA v a1 ts) (h2 : LiesA v a2 ns) (hn1 : a1 = none → ts.length = 0 ∧ c1 = 0) (hn2 : a2 = none → ns.length = 0 ∧ c2 = 0)
    (hl1 : ts.length * 24 ≤ 140737488351232) (hl2 : ns.length * 32 ≤ 140737488351232) :
    Calls Tryd.prog 4 #[.agg #[.string s, .slice a1 ts.length c1, .slice a2 ns.length c2]] v fun e w' => ∃ g1 g2, e = .returned (.agg #[.string s, .slice (some ⟨g1, 0, none⟩) ts.length (ts.length + 2), .slice (some ⟨g2, 0, none⟩) ns.length (ns.length + 2)]) ∧
      v.heap.size ≤ g1 ∧ v.heap.size ≤ g2 ∧ Below v.heap.size v w' ∧
      ∃ w'', w'.alloc (.cells #[.string s, .slice (some ⟨g1, 0, none⟩) ts.length (ts.length + 2), .slice (some ⟨g2, 0, none⟩) ns.length (ns.length + 2)] 27) = w'' ∧ Lt w w'' s a1 c1 ts a2 c2 ns g1 g2 fb w'.heap.size := by
  refine (lent_any s a1 a2 c1 c2 ts ns v h1 h2 hn1 hn2 hl1 hl2).mono ?_
  rintro e w1 ⟨g1, g2, rfl, hb1, hg1, hg2, hne, o1, o2⟩
  refine ⟨g1, g2, rfl, hg1, hg2, hb1, ?_⟩
  obtain ⟨w2, e2, hb2, hs2, B2⟩ := bx1 w1 #[.string s, .slice (some ⟨g1, 0, none⟩) ts.length (ts.length + 2), .slice (some ⟨g2, 0, none⟩) ns.length (ns.length + 2)] 27
  have hb : Below v.heap.size v w2 := hb1.trans (hb2.mono hb1.size)
  have L1 : Lies w1 g1 0 (ts ++ tmarks) := Lies.own o1
  have L2 : Lies w1 g2 0 (ns ++ nmarks) := Lies.own o2
  exact ⟨w2, e2, hv.trans (hb.mono hv.size), hf.below hb hf.lt, B2, h1.below hb, h2.below hb, L1.below hb2 L1.1, L2.below hb2 L2.1⟩

theorem lt_start {w : World} {v0 : Value} {vs : Array Value} {t : TypeId} : Below w.heap.size w (w.alloc (.cells vs t)) ∧ Bx (w.alloc (.cells vs t)) w.heap.size vs t := ⟨(Below.refl _ _).alloc (Nat.le_refl _) _, Bx.new _ _ _⟩
end Go.Proofs.YtcanabbjliloeaaDoor
