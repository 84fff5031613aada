import Derived.Test.YtaploloedocgbaaDoorRec
namespace Go.Proofs.YtaploloedocgbaaDoor
open Go.ChangeShapes Go.WideShapes Go.ChangeAt Go.RowKit
set_option linter.unusedVariables false

set_option maxHeartbeats 400000 in
theorem same_tree (a1 a2 : Option Addr) (c1 c2 : Nat) (xs : List Nd) (w : World) (h1 : LiesA w a1 xs) (h2 : LiesA w a2 xs) (hl : xs.length ≤ maxLen) :
    Calls Tryd.prog 62 #[.agg #[.slice a1 xs.length c1], .agg #[.slice a2 xs.length c2]] w fun e w' => e = .returned (.bool true) ∧ Below w.heap.size w w' := by
  unfold maxLen at hl
  rcases h1 with rfl | ⟨b1, o1, rfl, h1⟩
  · rw [List.length_nil]
    go_enter Tryd.func62, Tryd.ntmps62
    go_wp2
    refine wp_loop_rounds 1 ?_
    rw [rounds_succ]
    go_wp2
    go_ret
    exact ⟨rfl, (box2 (Below.refl _ _)).1⟩
  rcases h2 with rfl | ⟨b2, o2, rfl, h2⟩
  · rw [List.length_nil]
    go_enter Tryd.func62, Tryd.ntmps62
    go_wp2
    refine wp_loop_rounds 1 ?_
    rw [rounds_succ]
    go_wp2
    go_ret
    exact ⟨rfl, (box2 (Below.refl _ _)).1⟩
  have H1 : Hid (Lies w b1 o1 xs) := h1
  have H2 : Hid (Lies w b2 o2 xs) := h2
  have hb1 : b1 < w.heap.size := h1.1
  have hb2 : b2 < w.heap.size := h2.1
  clear h1 h2
  have hne : ((xs.length : Int) != (xs.length : Int)) = false := by simp
  go_enter Tryd.func62, Tryd.ntmps62
  go_wp2
  go_loopw [16] (fun i wr => ∃ k : Nat, k ≤ xs.length ∧ i = .int .i64 k ∧ Below (w.heap.size + 2) ((w.alloc (.cells #[.slice (some ⟨b1, o1, none⟩) xs.length c1] 25)).alloc (.cells #[.slice (some ⟨b2, o2, none⟩) xs.length c2] 25)) wr) (fun i _ => xs.length - (intOf i).toNat)
  case atStart => exact ⟨0, Nat.zero_le _, rfl, Below.refl _ _⟩
  case round =>
    obtain ⟨k, hk, rfl, hbig⟩ := hrel
    obtain ⟨hbel, x1, x2, x3⟩ := box2 hbig
    have HB : Hid (Below (w.heap.size + 2) ((w.alloc (.cells #[.slice (some ⟨b1, o1, none⟩) xs.length c1] 25)).alloc (.cells #[.slice (some ⟨b2, o2, none⟩) xs.length c2] 25)) wr) := hbig
    clear hbig
    have hsz := hbel.size
    by_cases hlt : k < xs.length
    · obtain ⟨e, he⟩ : ∃ e, xs[k]? = some e := ⟨_, List.getElem?_eq_getElem hlt⟩
      obtain ⟨c0, c1, c2, c3⟩ := H1.out.nd hbel he
      obtain ⟨d0, d1, d2, d3⟩ := H2.out.nd hbel he
      clear he
      have hlt' : (k : Int) < (xs.length : Int) := by omega
      go_wp2
      go_quiet (fail)
      go_wp2
      go_roundw
      case rel => exact ⟨k + 1, by omega, by go_num, by (repeat (with_reducible refine below_drewN ?_ _)); exact HB.out⟩
      case measure => simp [intOf]; omega
    · go_wp2
      go_ret
      exact ⟨rfl, by go_grown⟩
end Go.Proofs.YtaploloedocgbaaDoor

namespace Go.Proofs.YtaploloedocgbaaDoor
open Go.ChangeShapes Go.WideShapes Go.ChangeAt Go.RowKit
set_option linter.unusedVariables false

/-- 'append' onto a slice of the call's own, which may grow, from whatever source: nil, or one that lies somewhere -/
theorem wpList_append_own_any {P : Program} (w : World) {ops : Array Oper} {rest : List Oper} {o : Oper} {a : Act} {Q : Exit → Act → World → Prop} (hgd : o.guard = none) (s x : Operand) (t : TypeId)
    (ho : o.op = .call { callee := .builtin .append, args := #[s, x], argTypes := #[t, t] })
    (base : Nat) (e : TypeId) (i : TypeInfo) (z : Value) (size bytes : Nat) (ht : P.underlying t = some (.slice e)) (hi : P.info? e = some i) (hz : i.zero = some z)
    (hsize : i.size = size) (hby : i.bytes = bytes) (hzs : z.cells.size = size) (hsz : 0 < size)
    (v : Value) (n : Nat) (xs : List Value) (hs : a.eval s = v) (hown : w.ownsRow base e size v n xs)
    (ao : Option Addr) (m c : Nat) (news : List Value) (hx : a.eval x = .slice ao m c) (hl : news.length = m * size) (hnone : ao = none → m = 0 ∧ c = 0)
    (hnews : ∀ ad, ao = some ad → ∀ j u, news[j]? = some u → w.cell? (ad.add j) = some u) (h1 : ∀ u ∈ news, u.oneCell' = true)
    (h63 : n + m ≤ maxLen) (hbytes : (n + m) * bytes ≤ 140737488355328) (hbase : base ≤ w.heap.size)
    (h : ∀ v' w', w'.ownsRow base e size v' (n + m) (xs ++ news) → w.grownBy w' v.ownBlock → wpList P ops Q rest (a.put o.dst v') w') : wpList P ops Q (o :: rest) a w := by
  cases ao with
  | some ad => exact wpList_append_own w hgd s x t ho base e i z size bytes ht hi hz hsize hby hzs hsz v n xs hs hown ad m c news hx hl (hnews ad rfl) h1 h63 hbytes hbase (fun v' w' h2 h3 _ => h v' w' h2 h3)
  | none =>
    obtain ⟨rfl, rfl⟩ := hnone rfl
    have hn : news = [] := List.eq_nil_of_length_eq_zero (by simpa using hl)
    subst hn
    refine wpList_plain hgd fun K hK' => ?_
    have hrun := run_append_owned_none (P := P) w base t o.type e i size ht hi v n xs hown
    unfold Oper.wp
    simp [execOp, ho, resolve, invoke, builtin, hs, hx, hrun, Result.andThen]
    exact hK' _ _ (h v w (by simpa using hown) (World.grownBy.refl _ _))
end Go.Proofs.YtaploloedocgbaaDoor

namespace Go.Proofs.YtaploloedocgbaaDoor
open Go.ChangeShapes Go.WideShapes Go.ChangeAt Go.RowKit
set_option linter.unusedVariables false

set_option maxHeartbeats 400000 in
theorem same_tokens (a1 a2 : Option Addr) (c1 c2 : Nat) (xs : List Tk) (w : World) (h1 : LiesA w a1 xs) (h2 : LiesA w a2 xs) (hl : xs.length ≤ maxLen) :
    Calls Tryd.prog 61 #[.slice a1 xs.length c1, .slice a2 xs.length c2] w fun e w' => e = .returned (.bool true) ∧ Below w.heap.size w w' := by
  unfold maxLen at hl
  rcases h1 with rfl | ⟨b1, o1, rfl, h1⟩
  · rw [List.length_nil]
    go_enter Tryd.func61, Tryd.ntmps61
    go_wp2
    refine wp_loop_rounds 1 ?_
    rw [rounds_succ]
    go_wp2
    go_ret
    exact ⟨rfl, Below.refl _ _⟩
  rcases h2 with rfl | ⟨b2, o2, rfl, h2⟩
  · rw [List.length_nil]
    go_enter Tryd.func61, Tryd.ntmps61
    go_wp2
    refine wp_loop_rounds 1 ?_
    rw [rounds_succ]
    go_wp2
    go_ret
    exact ⟨rfl, Below.refl _ _⟩
  have H1 : Hid (Lies w b1 o1 xs) := h1
  have H2 : Hid (Lies w b2 o2 xs) := h2
  have hb1 : b1 < w.heap.size := h1.1
  have hb2 : b2 < w.heap.size := h2.1
  clear h1 h2
  have hne : ((xs.length : Int) != (xs.length : Int)) = false := by simp
  go_enter Tryd.func61, Tryd.ntmps61
  go_wp2
  go_loopw [13] (fun i wr => ∃ k : Nat, k ≤ xs.length ∧ i = .int .i64 k ∧ Below w.heap.size w wr) (fun i _ => xs.length - (intOf i).toNat)
  case atStart => exact ⟨0, Nat.zero_le _, rfl, Below.refl _ _⟩
  case round =>
    obtain ⟨k, hk, rfl, hbel⟩ := hrel
    have hsz := hbel.size
    by_cases hlt : k < xs.length
    · obtain ⟨e, he⟩ : ∃ e, xs[k]? = some e := ⟨_, List.getElem?_eq_getElem hlt⟩
      obtain ⟨c0, c1, c2⟩ := H1.out.tk hbel he
      obtain ⟨d0, d1, d2⟩ := H2.out.tk hbel he
      clear he
      have hlt' : (k : Int) < (xs.length : Int) := by omega
      go_wp2
      go_quiet (fail)
      go_wp2
      go_roundw
      case rel => exact ⟨k + 1, by omega, by go_num, by (repeat (with_reducible refine below_drewN ?_ _)); go_grown⟩
      case measure => simp [intOf]; omega
    · go_wp2
      go_ret
      exact ⟨rfl, by go_grown⟩
end Go.Proofs.YtaploloedocgbaaDoor

namespace Go.Proofs.YtaploloedocgbaaDoor
set_option linter.unusedVariables false

/-- the kinds' names -/
def nams : List (List UInt8) := [[78, 111, 110, 101], [76, 105, 115, 116], [70, 105, 108, 101], [73, 109, 112, 111, 114, 116], [73, 109, 112, 111, 114, 116, 83, 112, 101, 99], [67, 111, 110, 115, 116], [86, 97, 114], [84, 121, 112, 101, 115], [67, 111, 110, 115, 116, 83, 112, 101, 99], [86, 97, 114, 83, 112, 101, 99], [84, 121, 112, 101, 83, 112, 101, 99], [70, 117, 110, 99], [82, 101, 99, 118], [83, 105, 103], [80, 97, 114, 97, 109], [83, 116, 114, 117, 99, 116], [70, 105, 101, 108, 100], [69, 109, 98, 101, 100], [73, 110, 116, 101, 114, 102, 97, 99, 101], [77, 101, 116, 104, 111, 100], [83, 104, 97, 112, 101], [83, 116, 97, 114], [83, 108, 105, 99, 101, 79, 102], [77, 97, 112, 79, 102], [70, 117, 110, 99, 79, 102], [80, 97, 114, 101, 110], [83, 101, 108, 101, 99, 116], [66, 108, 111, 99, 107], [73, 102], [83, 119, 105, 116, 99, 104], [77, 97, 116, 99, 104], [67, 97, 115, 101], [68, 101, 102, 97, 117, 108, 116], [70, 111, 114], [82, 97, 110, 103, 101], [76, 97, 98, 101, 108], [82, 101, 116, 117, 114, 110], [66, 114, 101, 97, 107], [67, 111, 110, 116, 105, 110, 117, 101], [70, 97, 108, 108], [69, 109, 112, 116, 121], [68, 111], [83, 116, 101, 112], [65, 115, 115, 105, 103, 110], [68, 101, 102, 105, 110, 101], [78, 97, 109, 101], [78, 117, 109, 98, 101, 114], [67, 104, 97, 114], [84, 101, 120, 116], [66, 105, 110, 97, 114, 121], [83, 105, 103, 110], [73, 110, 100, 101, 120], [83, 108, 105, 99, 101], [65, 115, 115, 101, 114, 116], [67, 97, 108, 108], [70, 117, 110, 99, 76, 105, 116], [67, 111, 109, 112, 111, 115, 105, 116, 101], [80, 97, 105, 114]]
theorem nams_len : nams.length = 58 := rfl
theorem nams_get {k : Nat} (hk : k < nams.length) : nams.getD k [] = nams[k] := by rw [List.getD, List.getElem?_eq_getElem hk]; rfl
theorem nams_12 (k : Nat) : (nams.getD k []).length ≤ 12 := by
  have h : ∀ l ∈ nams, l.length ≤ 12 := by decide
  by_cases hk : k < nams.length
  · rw [nams_get hk]
    exact h _ (List.getElem_mem hk)
  · rw [List.getD, List.getElem?_eq_none (by omega)]
    exact Nat.zero_le _
theorem nams_some (k : Nat) (hk : k < nams.length) : nams.getD k [] ≠ [] := by
  have h : ∀ l ∈ nams, l ≠ [] := by decide
  rw [nams_get hk]
  exact h _ (List.getElem_mem hk)
set_option maxRecDepth 100000 in
theorem nams_once (i j : Nat) (hi : i < nams.length) (hj : j < nams.length) (h : nams.getD i [] = nams.getD j []) : i = j := by
  have hd : nams.Nodup := by decide +kernel
  rw [nams_get hi, nams_get hj] at h
  exact (List.getElem_inj hd).1 h
end Go.Proofs.YtaploloedocgbaaDoor
