import Derived.Test.YteolfolkolpehaaDoorAp
import Derived.Lib.OthersKept
namespace Go.Proofs.YteolfolkolpehaaDoor
open Go.ChangeShapes Go.WideShapes Go.ChangeAt Go.RowKit
set_option linter.unusedVariables false

/-- all boxes of edits stand -/
def KB (w w' : World) : Prop := ∀ g f t s, Box w g f t s → Box w' g f t s
theorem KB.refl (w : World) : KB w w := fun _ _ _ _ h => h
theorem KB.trans {a b c : World} (h : KB a b) (k : KB b c) : KB a c := fun g f t s x => k g f t s (h g f t s x)
theorem KB.alloc {a b : World} (h : KB a b) (o : Obj) : KB a (b.alloc o) := fun g f t s x => (h g f t s x).alloc o
theorem KB.own {a b c : World} {base n : Nat} {v : Value} {xs : List Value} (h : KB a b) (ho : b.ownsRow base 5 1 v n xs) (hg : b.grownBy c v.ownBlock) : KB a c := fun g f t s x =>
  (h g f t s x).grown hg (own_ne_box ho (h g f t s x) (by decide))

theorem KB.others {a b c : World} (h : KB a b) (k : Lib.OthersKept 5 none b c) : KB a c := fun g f t s x =>
  k g _ (h g f t s x) (fun e => by cases e) (fun c fz e => by cases e)
theorem KB.below {a b c : World} (h : KB a b) (k : Below b.heap.size b c) : KB a c := fun g f t s x =>
  (k.block g (h g f t s x).lt).trans (h g f t s x)
end Go.Proofs.YteolfolkolpehaaDoor
