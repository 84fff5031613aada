import Derived.Test.YtgijcbipnjmhgabGl
import Derived.Test.YtgijcbipnjmhgabGq0
import Derived.OwnWalk
namespace Go.Proofs.Ytgijcbipnjmhgab
open Go.ChangeShapes Go.WideShapes Go.ChangeAt Go.RowKit
set_option linter.unusedVariables false
set_option linter.unusedSimpArgs false

theorem own_front {B e g n c : Nat} {w : World} {xs : List Int} (h : w.ownsRow B e 1 (.slice (some ⟨g, 0, none⟩) n c) n (flat xs)) {k : Nat} (hk : k ≤ n) : w.ownsRow B e 1 (.slice (some ⟨g, 0, none⟩) k c) k (flat (xs.take k)) := by
  have hl : xs.length = n := by
    have := h.1
    rw [flat_length] at this
    exact Nat.eq_of_mul_eq_mul_right (by decide) this
  rcases h.2 with ⟨hv, h0⟩ | ⟨g', c', cur, hv, hg, hh, hlc, hm, hs, hx⟩
  · cases hv
  · cases hv
    refine ⟨by rw [flat_length, List.length_take, hl, Nat.min_eq_left hk]; rfl, .inr ⟨g, c, cur, rfl, hg, hh, by omega, hm, hs, ?_⟩⟩
    have : cur.toList.take (k * 1) = (cur.toList.take (n * 1)).take (k * 1) := by rw [List.take_take]; congr 1; omega
    rw [this, hx]
    apply List.ext_getElem?
    intro j
    rw [List.getElem?_take, flat_at, flat_at, List.getElem?_take]
    by_cases hj : j < k
    · rw [if_pos (by omega), if_pos hj]
    · rw [if_neg (by omega), if_neg hj]; rfl
theorem own_caps {B e g n c : Nat} {w : World} {xs : List Value} (h : w.ownsRow B e 1 (.slice (some ⟨g, 0, none⟩) n c) n xs) : n ≤ c := by
  rcases h.2 with ⟨hv, h0⟩ | ⟨g', c', cur, hv, hg, hh, hlc, hm, hs, hx⟩
  · cases hv
  · cases hv
    omega
set_option maxRecDepth 1000000 in
set_option maxHeartbeats 2000000 in
theorem rpop_any {B b : Nat} {w : World} {V : Value} {xs : List Int} (h : Hq B b w V xs) (n : Nat) (h0 : xs.length = n + 1) (hn : n ≤ 70368744177664) : Calls Try.prog 116 #[.pointer (some ⟨b, 0, none⟩)] w fun e w' => e = .returned (.iface 3 (.int .i64 xs[n]!)) ∧ ∃ V', Hq B b w' V' (xs.take n) ∧ V'.ownBlock = V.ownBlock ∧ Mv B b V.ownBlock w w' := by
  obtain ⟨a, c, rfl, ha⟩ := h.form
  obtain ⟨g, rfl⟩ := ha (by omega)
  have c1 := h.cell (i := n) (by omega)
  have c0 := h.box.cell 0
  have f0 := h.box.free 0
  have z0 := h.box.lt
  simp at c0
  have hc := own_caps h.row
  have HF : Hid (Hq B b (w.setCell ⟨b, 0, none⟩ (.slice (some ⟨g, 0, none⟩) n c)) (.slice (some ⟨g, 0, none⟩) n c) (xs.take n) ∧ Mv B b (some g) w (w.setCell ⟨b, 0, none⟩ (.slice (some ⟨g, 0, none⟩) n c))) := by
    have hne := h.ne
    refine ⟨⟨h.box.set 0 _, ?_, h.le⟩, fun k hk hb hg => heap_setCell_other _ _ _ _ hb, (Below.refl _ _).setCell (p := ⟨b, 0, none⟩) h.le _⟩
    have h1 := own_front h.row (k := n) (by omega)
    have h2 : (xs.take n).length = n := by rw [List.length_take]; omega
    rw [h2]
    exact ownsRow_setCell_other h1 (a := ⟨b, 0, none⟩) (fun e => hne (by injection e with e; exact e.symm)) _
  obtain ⟨x, hx⟩ : ∃ x, xs[n]! = x := ⟨_, rfl⟩
  rw [hx] at c1 ⊢
  rw [h0] at c0 hc ⊢
  have k1 : IntKind.i64.wrap (((n + 1 : Nat) : Int) - 1) = (n : Int) := by rw [IntWalk.i64_in _ ⟨by omega, by omega⟩]; omega
  have t1 : (n : Int) < ((n + 1 : Nat) : Int) := by omega
  have t2 : (n : Int) ≤ (c : Int) := by omega
  clear h ha hx h0
  obtain ⟨m, hm⟩ : ∃ m : Nat, n + 1 = m := ⟨_, rfl⟩
  rw [hm] at c0 k1 t1 ⊢
  go_enter Try.func116, Try.ntmps116
  go_wp2
  go_ret
  exact ⟨rfl, _, HF.out.1, rfl, HF.out.2⟩
set_option maxRecDepth 1000000 in
theorem ta_int (x : Int) (t : TypeId) (z : World) : (Instr.typeAssert (.iface 3 (.int .i64 x)) t 3 false).run Try.prog z = .ok (.int .i64 x) z := by
  first
    | kernel_rfl
    | rfl
theorem infoIntH : (Try.prog.info? 3).map (fun i => (i.zero, i.size, i.bytes)) = some (some (.int .i64 0), 1, 8) := by kernel_rfl
theorem cells_newH (w : World) (l : List Value) (t : TypeId) : ∀ j u, l[j]? = some u → (w.alloc (.cells l.toArray t)).cell? ((⟨w.heap.size, 0, none⟩ : Addr).add j) = some u := cells_new w l t
set_option maxRecDepth 1000000 in
set_option maxHeartbeats 4000000 in
theorem rpush_any {B b : Nat} {w : World} {V : Value} {xs : List Int} (h : Hq B b w V xs) (x : Int) (hn : xs.length ≤ 1099511627776) : Calls Try.prog 117 #[.pointer (some ⟨b, 0, none⟩), .iface 3 (.int .i64 x)] w fun e w' => (∃ r, e = .returned r) ∧ ∃ V', Hq B b w' V' (xs ++ [x]) ∧ (V'.ownBlock = V.ownBlock ∨ ∃ g, V'.ownBlock = some g ∧ w.heap.size ≤ g) ∧ Mv B b V.ownBlock w w' := by
  obtain ⟨i0, hi0, hz0, hz1, hz2⟩ := info_parts infoIntH
  obtain ⟨a, c, rfl, ha⟩ := h.form
  have HH : Hid (Hq B b w (.slice a xs.length c) xs) := h
  have c0 := h.box.cell 0
  have z0 := h.box.lt
  simp at c0
  have HNB : Hid ((Value.slice a xs.length c).ownBlock ≠ some b) := fun e => h.box.neR h.row (by decide) e rfl
  clear h ha
  go_enter Try.func117, Try.ntmps117
  obtain ⟨n, hnn⟩ : ∃ n, xs.length = n := ⟨_, rfl⟩
  have HN : Hid (xs.length = n) := hnn
  rw [hnn] at c0 hn HNB ⊢
  have HR : Hid (w.ownsRow B 3 1 (.slice a n c) n (flat xs)) := by unfold Hid; have := HH.out.row; rw [hnn] at this; exact this
  clear hnn
  refine wp_region_G (fun z => z.cell? ⟨b, 0, none⟩ = some (.slice a n c)) 9 (by kernel_rfl) ?_
  refine wpAnyG_take (i := 0) (v := .pointer (some ⟨b, 0, none⟩)) rfl (by kernel_rfl) (by kernel_rfl) (by kernel_rfl) (fun _ _ _ h => h) (by kernel_rfl) (by kernel_rfl) (by kernel_rfl) (Or.inl ⟨by rfl, fun z hz => ?_⟩) c0 ?_
  · (try dsimp only at hz); go_simp
  try simp only [Act.put, List.setIfInBounds_toArray, List.set_cons_zero, List.set_cons_succ]
  refine wpAnyG_take (i := 1) (v := .pointer (some ⟨b, 0, none⟩)) rfl (by kernel_rfl) (by kernel_rfl) (by kernel_rfl) (fun _ _ _ h => h) (by kernel_rfl) (by kernel_rfl) (by kernel_rfl) (Or.inl ⟨by rfl, fun z hz => ?_⟩) c0 ?_
  · (try dsimp only at hz); go_simp
  try simp only [Act.put, List.setIfInBounds_toArray, List.set_cons_zero, List.set_cons_succ]
  refine wpAnyG_take (i := 2) (v := .pointer (some ⟨b, 0, none⟩)) rfl (by kernel_rfl) (by kernel_rfl) (by kernel_rfl) (fun _ _ _ h => h) (by kernel_rfl) (by kernel_rfl) (by kernel_rfl) (Or.inl ⟨by rfl, fun z hz => ?_⟩) c0 ?_
  · (try dsimp only at hz); go_simp
  try simp only [Act.put, List.setIfInBounds_toArray, List.set_cons_zero, List.set_cons_succ]
  refine wpAnyG_take (i := 3) (v := .slice a n c) rfl (by kernel_rfl) (by kernel_rfl) (by kernel_rfl) (fun _ _ _ h => h) (by kernel_rfl) (by kernel_rfl) (by kernel_rfl) (Or.inl ⟨by rfl, fun z hz => ?_⟩) c0 ?_
  · (try dsimp only at hz); go_simp
  try simp only [Act.put, List.setIfInBounds_toArray, List.set_cons_zero, List.set_cons_succ]
  refine wpAnyG_take (i := 4) (v := .iface 3 (.int .i64 x)) rfl (by kernel_rfl) (by kernel_rfl) (by kernel_rfl) (fun _ _ _ h => h) (by kernel_rfl) (by kernel_rfl) (by kernel_rfl) (Or.inl ⟨by rfl, fun z hz => ?_⟩) c0 ?_
  · (try dsimp only at hz); go_simp
  try simp only [Act.put, List.setIfInBounds_toArray, List.set_cons_zero, List.set_cons_succ]
  refine wpAnyG_take (i := 5) (v := .int .i64 x) rfl (by kernel_rfl) (by kernel_rfl) (by kernel_rfl) (fun _ _ _ h => h) (by kernel_rfl) (by kernel_rfl) (by kernel_rfl) (Or.inl ⟨by rfl, fun z hz => ?_⟩) c0 ?_
  · (try dsimp only at hz); have hta := fun t => ta_int x t z; go_simp; (try rw [hta]); (try rfl)
  try simp only [Act.put, List.setIfInBounds_toArray, List.set_cons_zero, List.set_cons_succ]
  refine wpAnyG_one (i := 6) (by kernel_rfl) rfl (fun K hK0 => ?_)
  have hK : Hid _ := hK0
  clear hK0
  go_simp
  obtain ⟨w1, hw1⟩ : ∃ w1, (w.alloc (.cells #[.int .i64 x] 3)).drew = w1 := ⟨_, rfl⟩
  have hA : Below w.heap.size w w1 := by rw [← hw1]; exact ((Below.refl _ w).alloc (Nat.le_refl _) _).drew
  have HNW : Hid (∀ j u, ([Value.int .i64 x] : List Value)[j]? = some u → w1.cell? ((⟨w.heap.size, 0, none⟩ : Addr).add j) = some u) := by unfold Hid; rw [← hw1]; exact cells_newH w [Value.int .i64 x] 3
  have HZ1 : Hid (w1.heap.size = w.heap.size + 1) := by unfold Hid; rw [← hw1]; simp
  have HB1 : Hid (Below w.heap.size w w1) := hA
  have c1 : w1.cell? ⟨b, 0, none⟩ = some (.slice a n c) := (HH.out.box.below hA HH.out.box.lt).cell 0 |>.trans (by have := HN.out; simp [this])
  rw [hw1]
  clear hw1 hA
  refine hK.out _ _ (fun _ => c1) ?_
  clear hK K
  try simp only [Act.put, List.setIfInBounds_toArray, List.set_cons_zero, List.set_cons_succ]
  refine wpAnyG_one (i := 7) (by kernel_rfl) rfl (fun K hK0 => ?_)
  have hK : Hid _ := hK0
  clear hK0
  refine step_append_lies _ (by rfl) _ _ _ (by rfl) B 3 i0 (.int .i64 0) 1 8 Try.underlying61 hi0 hz0 hz1 hz2 rfl (by omega) (.slice a n c) n (flat xs) (by rfl) (own_belowR HR.out HB1.out (Nat.le_refl _)) ⟨w.heap.size, 0, none⟩ 1 1 [Value.int .i64 x] (by rfl) (by rfl) HNW.out (by intro u hu; simp at hu; subst hu; rfl) (by omega) (by unfold maxLen; omega) (by omega) (by have h1 := HH.out.le; have h2 := HZ1.out; omega) (w.heap.size + 1) HZ1.out ?_
  intro gg cp w2 hown2 hgrow2 hat2 hlt2
  have X2 : Hid (Bx w2 b #[.slice a xs.length c] 61) := (HH.out.box.below HB1.out HH.out.box.lt).grw hgrow2 HNB.out
  have c2 : w2.cell? ⟨b, 0, none⟩ = some (.slice a n c) := X2.out.cell 0 |>.trans (by have := HN.out; simp [this])
  have f2 := X2.out.free 0
  have R2 : Hid (w2.ownsRow B 3 1 (.slice (some ⟨gg, 0, none⟩) (n + 1) cp) (n + 1) (flat (xs ++ [x]))) := by unfold Hid; rw [flat_append]; exact hown2
  have M2 : Hid (Mv B b (Value.slice a n c).ownBlock w w2) := by
    have hz := HZ1.out
    have hle := HH.out.le
    refine ⟨fun k hk hb hg => (hgrow2.block k (by omega) hg).trans (HB1.out.block k hk), ?_⟩
    exact (HB1.out.mono (by omega)).grown hgrow2 (by omega) (fun g hg => (HR.out.lt g hg).1)
  have A2 : Hid ((Value.slice a n c).ownBlock = some gg ∨ w.heap.size ≤ gg) := hat2.elim .inl (fun e => .inr (by omega))
  clear hown2 hgrow2 hat2 hlt2
  refine hK.out _ _ (fun _ => c2) ?_
  clear hK K
  try simp only [Act.put, List.setIfInBounds_toArray, List.set_cons_zero, List.set_cons_succ]
  refine wpAnyG_one (i := 8) (by kernel_rfl) rfl (fun K hK0 => ?_)
  have hK : Hid _ := hK0
  clear hK0
  go_simp
  refine hK.out _ _ (fun _ => c2) ?_
  clear hK K
  try simp only [Act.put, List.setIfInBounds_toArray, List.set_cons_zero, List.set_cons_succ]
  refine wpAnyG_one (i := 9) (by kernel_rfl) rfl (fun K hK0 => ?_)
  have hK : Hid _ := hK0
  clear hK0
  go_simp
  refine hK.out _ _ (fun h => Bool.noConfusion (show true = false from h)) ?_
  clear hK K
  try simp only [Act.put, List.setIfInBounds_toArray, List.set_cons_zero, List.set_cons_succ]
  refine wpAnyG_done (by kernel_rfl) ?_ _
  refine bodyPost_end (results_none rfl _ _ _) rfl ?_
  refine ⟨⟨_, rfl⟩, .slice (some ⟨gg, 0, none⟩) (n + 1) cp, ⟨X2.out.set 0 _, ?_, HH.out.le⟩, ?_, ?_⟩
  · have hl : (xs ++ [x]).length = n + 1 := by rw [List.length_append, HN.out]; rfl
    rw [hl]
    exact ownsRow_setCell_other R2.out (a := ⟨b, 0, none⟩) (fun e => by have e2 : b ≠ gg := X2.out.neR R2.out (by decide) rfl; injection e with e; exact e2 e.symm) _
  · rcases A2.out with e | e
    · exact .inl (by rw [e]; rfl)
    · exact .inr ⟨gg, rfl, e⟩
  · exact ⟨fun k hk hb hg => (heap_setCell_other _ _ _ _ hb).trans (M2.out.keep k hk hb hg), M2.out.bel.setCell (p := ⟨b, 0, none⟩) HH.out.le _⟩
end Go.Proofs.Ytgijcbipnjmhgab

namespace Go.Proofs.Ytgijcbipnjmhgab
open Go.ChangeShapes Go.WideShapes Go.ChangeAt Go.RowKit
set_option linter.unusedVariables false
set_option linter.unusedSimpArgs false
set_option maxRecDepth 1000000

theorem m_len (b : Nat) (V : Value) (w : World) (h : w.cell? ⟨b, 0, none⟩ = some V) : (method 245 63 (.pointer (some ⟨b, 0, none⟩)) "Len").run Try.prog w = .ok (113, V) w := by
  obtain ⟨k, hk⟩ : ∃ k, k + 1 = 245 := ⟨245 - 1, rfl⟩
  rw [← hk]
  unfold method
  have hf : Array.find? (fun x => x.name == "Len") Try.t63.methods = some Try.t63.methods[0]! := by kernel_rfl
  have hp : Try.t63.methods[0]!.path = #[] := by kernel_rfl
  have hg : Try.t63.methods[0]!.func = some (113, false) := by kernel_rfl
  have hl : (loadVar 61 ⟨b, 0, none⟩).run Try.prog w = .ok V w := by
    simp [loadVar]
    go_simp
  have hw : ∀ nm, (Builtin.ssaWrapNilChk_ #[63] 63 #[.pointer (some ⟨b, 0, none⟩), strVal "", strVal nm]).run Try.prog w = .ok (.pointer (some ⟨b, 0, none⟩)) w := fun _ => rfl
  go_simp
  simp [follow, receiverAt, Place.get, asAddr]
  go_simp
  (try rw [hw])
  (try go_simp)
theorem m_less (b : Nat) (V : Value) (w : World) (h : w.cell? ⟨b, 0, none⟩ = some V) : (method 245 63 (.pointer (some ⟨b, 0, none⟩)) "Less").run Try.prog w = .ok (114, V) w := by
  obtain ⟨k, hk⟩ : ∃ k, k + 1 = 245 := ⟨245 - 1, rfl⟩
  rw [← hk]
  unfold method
  have hf : Array.find? (fun x => x.name == "Less") Try.t63.methods = some Try.t63.methods[1]! := by kernel_rfl
  have hp : Try.t63.methods[1]!.path = #[] := by kernel_rfl
  have hg : Try.t63.methods[1]!.func = some (114, false) := by kernel_rfl
  have hl : (loadVar 61 ⟨b, 0, none⟩).run Try.prog w = .ok V w := by
    simp [loadVar]
    go_simp
  have hw : ∀ nm, (Builtin.ssaWrapNilChk_ #[63] 63 #[.pointer (some ⟨b, 0, none⟩), strVal "", strVal nm]).run Try.prog w = .ok (.pointer (some ⟨b, 0, none⟩)) w := fun _ => rfl
  go_simp
  simp [follow, receiverAt, Place.get, asAddr]
  go_simp
  (try rw [hw])
  (try go_simp)
theorem m_swap (b : Nat) (V : Value) (w : World) (h : w.cell? ⟨b, 0, none⟩ = some V) : (method 245 63 (.pointer (some ⟨b, 0, none⟩)) "Swap").run Try.prog w = .ok (115, V) w := by
  obtain ⟨k, hk⟩ : ∃ k, k + 1 = 245 := ⟨245 - 1, rfl⟩
  rw [← hk]
  unfold method
  have hf : Array.find? (fun x => x.name == "Swap") Try.t63.methods = some Try.t63.methods[4]! := by kernel_rfl
  have hp : Try.t63.methods[4]!.path = #[] := by kernel_rfl
  have hg : Try.t63.methods[4]!.func = some (115, false) := by kernel_rfl
  have hl : (loadVar 61 ⟨b, 0, none⟩).run Try.prog w = .ok V w := by
    simp [loadVar]
    go_simp
  have hw : ∀ nm, (Builtin.ssaWrapNilChk_ #[63] 63 #[.pointer (some ⟨b, 0, none⟩), strVal "", strVal nm]).run Try.prog w = .ok (.pointer (some ⟨b, 0, none⟩)) w := fun _ => rfl
  go_simp
  simp [follow, receiverAt, Place.get, asAddr]
  go_simp
  (try rw [hw])
  (try go_simp)

end Go.Proofs.Ytgijcbipnjmhgab

namespace Go.Proofs.Ytgijcbipnjmhgab
open Go.ChangeShapes Go.WideShapes Go.ChangeAt Go.RowKit
set_option linter.unusedVariables false
set_option linter.unusedSimpArgs false

theorem hidH {p : Prop} (h : p) : Hid p := h
/-- the heap's value, as an interface's -/
abbrev hpI (b : Nat) : Value := .iface 63 (.pointer (some ⟨b, 0, none⟩))
theorem Hq.at0 {B b : Nat} {w : World} {V : Value} {xs : List Int} (h : Hq B b w V xs) : w.cell? ⟨b, 0, none⟩ = some V := by
  have := h.box.cell 0
  simpa using this

set_option maxRecDepth 1000000 in
set_option maxHeartbeats 4000000 in
theorem up_any {B b : Nat} {w : World} {V : Value} {xs : List Int} (n j : Nat) (hl : xs.length = n) (hjn : j < n) (hn : n ≤ 1099511627776) (h : Hq B b w V xs) (hu : HpU xs n j) :
    Calls Try.prog 57 #[hpI b, .int .i64 (j : Int)] w fun e w' => (∃ r, e = .returned r) ∧ ∃ ys, Hq B b w' V ys ∧ Hpp ys n ∧ ys.Perm xs ∧ Mv B b V.ownBlock w w' := by
  have HH : Hid (Hq B b w V xs) := h
  have HU : Hid (HpU xs n j) := hu
  have HL : Hid (xs.length = n) := hl
  clear h hu hl
  go_enter Try.func57, Try.ntmps57
  go_wp2
  go_loopg [1] j (fun gk sj wr => ∃ (j : Nat) (ys : List Int), gk = j ∧ sj = .int .i64 (j : Int) ∧ j < n ∧ ys.length = n ∧ Hq B b wr V ys ∧ HpU ys n j ∧ ys.Perm xs ∧ Mv B b V.ownBlock w wr)
  case atStart => exact ⟨j, xs, rfl, rfl, hjn, HL.out, HH.out, HU.out, List.Perm.refl _, Mv.refl _ _ _ _⟩
  case round =>
    clear HH HU HL
    obtain ⟨j, ys, hgk, rfl, hj, hyl, hQ, hU, hP, hM⟩ := hrel
    have HH := hidH hQ
    have HU := hidH hU
    have HP := hidH hP
    have HM := hidH hM
    have HL := hidH hyl
    have c0 := hQ.at0
    have z0 := hQ.box.lt
    have ml := m_less b V wr c0
    clear hQ hU hP hM hyl
    by_cases h0 : j = 0
    · subst h0
      have k1 : IntKind.i64.wrap ((0 : Int) - 1) = -1 := by decide
      have k2 : IntKind.i64.wrap ((-1 : Int).tdiv 2) = 0 := by decide
      go_wp2
      go_end0
      exact ⟨⟨_, rfl⟩, ys, HH.out, HU.out.done (.inl rfl), HP.out, HM.out⟩
    · obtain ⟨jm, hjm⟩ : ∃ jm : Nat, j - 1 = jm := ⟨_, rfl⟩
      obtain ⟨p, hp⟩ : ∃ p : Nat, jm / 2 = p := ⟨_, rfl⟩
      have k1 : IntKind.i64.wrap ((j : Int) - 1) = (jm : Int) := by rw [IntWalk.i64_in _ ⟨by omega, by omega⟩]; omega
      have k2 : IntKind.i64.wrap ((jm : Int).tdiv 2) = (p : Int) := by rw [Int.tdiv_eq_ediv_of_nonneg (by omega), IntWalk.i64_in _ ⟨by omega, by omega⟩]; omega
      have k3 : IntKind.i64.wrap ((jm : Int) / 2) = (p : Int) := by rw [IntWalk.i64_in _ ⟨by omega, by omega⟩]; omega
      have hpj : ((p : Int) == (j : Int)) = false := by rw [beq_eq_false_iff_ne]; omega
      have HP1 : Hid ((j - 1) / 2 = p ∧ p < j) := by unfold Hid; omega
      have HLS : Hid (∀ v, Below wr.heap.size wr v → Calls Try.prog 114 #[V, .int .i64 (j : Int), .int .i64 (p : Int)] v fun e w' => e = .returned (.bool (decide (ys[j]! < ys[p]!))) ∧ Below v.heap.size v w') := fun v hv => rless_any (HH.out.below hv) j p (by have := HL.out; omega) (by have := HL.out; omega)
      clear hjm hp
      by_cases hlt : ys[j]! < ys[p]!
      · rw [show decide (ys[j]! < ys[p]!) = true from decide_eq_true hlt] at HLS
        have HLT := hidH hlt
        clear hlt
        go_wp2_with (first
          | (go_at_call 114; (with_reducible refine (HLS.out _ (Below.refl _ _)).mono ?_); rintro e w1 ⟨rfl, hb1⟩; have H1 := hidH (HH.out.below hb1); have M1 := hidH (HM.out.trans (Mv.of (r := V.ownBlock) hb1 HH.out.box.lt HH.out.le) (.inl rfl)); have c1 := H1.out.at0; have z1 := H1.out.box.lt; have ms := m_swap b V w1 c1; clear hb1)
          | (go_at_call 115; (with_reducible refine (rswap_any H1.out p j (by have h1 := HL.out; have h2 := HP1.out; omega) (by have h1 := HL.out; omega)).mono ?_); rintro e w2 ⟨⟨x, rfl⟩, hq2, hm2⟩; have H2 := hidH hq2; have M2 := hidH (M1.out.trans hm2 (.inl rfl)); clear hq2 hm2))
        go_roundg p
        case measure => have := HP1.out; omega
        case rel => exact ⟨p, sw ys p j, rfl, rfl, by have := HP1.out; omega, by rw [sw_len]; exact HL.out, H2.out, by have h1 := HU.out.up (by rw [HL.out]; exact Nat.le_refl _) hj (by omega) (by rw [HP1.out.1]; have := HLT.out; omega); rw [HP1.out.1] at h1; exact h1, (sw_perm ys (by have h1 := HL.out; have h2 := HP1.out; omega) (by have := HL.out; omega)).trans HP.out, M2.out⟩
      · rw [show decide (ys[j]! < ys[p]!) = false from decide_eq_false hlt] at HLS
        have HLT := hidH hlt
        clear hlt
        go_wp2_with (go_at_call 114; (with_reducible refine (HLS.out _ (Below.refl _ _)).mono ?_); rintro e w1 ⟨rfl, hb1⟩; have H1 := hidH (HH.out.below hb1); have M1 := hidH (HM.out.trans (Mv.of (r := V.ownBlock) hb1 HH.out.box.lt HH.out.le) (.inl rfl)); clear hb1)
        go_end0
        exact ⟨⟨_, rfl⟩, ys, H1.out, HU.out.done (.inr (by rw [HP1.out.1]; have := HLT.out; omega)), HP.out, M1.out⟩
end Go.Proofs.Ytgijcbipnjmhgab

namespace Go.Proofs.Ytgijcbipnjmhgab
open Go.ChangeShapes Go.WideShapes Go.ChangeAt Go.RowKit
set_option linter.unusedVariables false
set_option linter.unusedSimpArgs false

end Go.Proofs.Ytgijcbipnjmhgab

namespace Go.Proofs.Ytgijcbipnjmhgab
open Go.ChangeShapes Go.WideShapes Go.ChangeAt Go.RowKit
set_option linter.unusedVariables false
set_option linter.unusedSimpArgs false

/-- a row of ints has grown -/
theorem Wc.grw {B bm bn bk bt gm gV n k : Nat} {tv v : Value} {w0 z z' : World} {rs : List Rr} {m : List Bool} {xs : List Value} (h : Wc B bm bn bk bt gm gV n tv w0 rs m z) (h' : z.ownsRow B 3 1 v k xs) (hg : z.grownBy z' v.ownBlock) : Wc B bm bn bk bt gm gV n tv w0 rs m z' :=
  ⟨h.lv.grw h' (by decide) (by decide) hg, own_grwR h.met hg (fun g hr => own_otherR h.met h' (by decide) hr), h.xm.grw hg (fun e => h.xm.neR h' (by decide) e rfl), h.xn.grw hg (fun e => h.xn.neR h' (by decide) e rfl), h.xk.grw hg (fun e => h.xk.neR h' (by decide) e rfl), h.xt.grw hg (fun e => h.xt.neR h' (by decide) e rfl)⟩
/-- a cell of a box of another kind is written -/
theorem Wc.box {B bm bn bk bt gm gV n b i : Nat} {tv x : Value} {w0 z : World} {rs : List Rr} {m : List Bool} {vs : Array Value} {t : TypeId} (h : Wc B bm bn bk bt gm gV n tv w0 rs m z) (hb : Bx z b vs t) (hB : B ≤ b) (h1 : 21 ≠ t) (h2 : 59 ≠ t) (h3 : 4 ≠ t) (h4 : 75 ≠ t) (h5 : 43 ≠ t) (h6 : 46 ≠ t) : Wc B bm bn bk bt gm gV n tv w0 rs m (z.setCell ⟨b, i, none⟩ x) :=
  ⟨h.lv.farBox hb h1 h2 hB, ownsRow_setCell_other h.met (a := ⟨b, i, none⟩) (fun e => hb.neR h.met h3 e rfl) _, h.xm.other ⟨b, i, none⟩ (h.xm.ne hb h4) _, h.xn.other ⟨b, i, none⟩ (h.xn.ne hb h5) _, h.xk.other ⟨b, i, none⟩ (h.xk.ne hb h6) _, h.xt.other ⟨b, i, none⟩ (h.xt.ne hb h6) _⟩
/-- a cell of a row of ints is written -/
theorem Wc.cell {B bm bn bk bt gm gV n k g i : Nat} {tv v x : Value} {w0 z : World} {rs : List Rr} {m : List Bool} {xs : List Value} (h : Wc B bm bn bk bt gm gV n tv w0 rs m z) (h' : z.ownsRow B 3 1 v k xs) (hg : v.ownBlock = some g) : Wc B bm bn bk bt gm gV n tv w0 rs m (z.setCell ⟨g, i, none⟩ x) :=
  ⟨h.lv.farRow h' (by decide) (by decide) hg, ownsRow_setCell_other h.met (a := ⟨g, i, none⟩) (own_otherR h.met h' (by decide) hg) _, h.xm.other ⟨g, i, none⟩ (h.xm.neR h' (by decide) hg) _, h.xn.other ⟨g, i, none⟩ (h.xn.neR h' (by decide) hg) _, h.xk.other ⟨g, i, none⟩ (h.xk.neR h' (by decide) hg) _, h.xt.other ⟨g, i, none⟩ (h.xt.neR h' (by decide) hg) _⟩
/-- the list of what was told, in its box -/
structure TR (B bo : Nat) (t : List Nat) (z : World) : Prop where
  ex : ∃ v, Bx z bo #[v] 24 ∧ z.ownsRow B 3 1 v t.length (t.map fun (x : Nat) => Value.int .i64 (x : Int))
  base : B ≤ bo
  most : t.length ≤ 131072
theorem TR.mark {B bo bm bn bk bt gm gV n x : Nat} {tv : Value} {w0 z : World} {rs : List Rr} {m : List Bool} {t : List Nat} (h : Wc B bm bn bk bt gm gV n tv w0 rs m z) (hT : TR B bo t z) : TR B bo t (z.setCell ⟨gm, x, none⟩ (.bool true)) := by
  obtain ⟨v, h1, h2⟩ := hT.ex
  exact ⟨⟨v, h1.other ⟨gm, x, none⟩ (h1.neR h.met (by decide) rfl) _, ownsRow_setCell_other h2 (a := ⟨gm, x, none⟩) (own_otherR h2 h.met (by decide) rfl) _⟩, hT.base, hT.most⟩
end Go.Proofs.Ytgijcbipnjmhgab
