import Derived.Test.YtgijcbipnjmhgaaGc1
namespace Go.Proofs.Ytgijcbipnjmhgaa
open Go.ChangeShapes Go.WideShapes Go.ChangeAt Go.RowKit
set_option linter.unusedVariables false
set_option linter.unusedSimpArgs false

theorem own_front {B e g n c : Nat} {w : World} {xs : List Int} (h : w.ownsRow B e 1 (.slice (some ⟨g, 0, none⟩) n c) n (flat xs)) {k : Nat} (hk : k ≤ n) : w.ownsRow B e 1 (.slice (some ⟨g, 0, none⟩) k c) k (flat (xs.take k)) := by
  have hl : xs.length = n := by
    have := h.1
    rw [flat_length] at this
    exact Nat.eq_of_mul_eq_mul_right (by decide) this
  rcases h.2 with ⟨hv, h0⟩ | ⟨g', c', cur, hv, hg, hh, hlc, hm, hs, hx⟩
  · cases hv
  · cases hv
    refine ⟨by rw [flat_length, List.length_take, hl, Nat.min_eq_left hk]; rfl, .inr ⟨g, c, cur, rfl, hg, hh, by omega, hm, hs, ?_⟩⟩
    have : cur.toList.take (k * 1) = (cur.toList.take (n * 1)).take (k * 1) := by rw [List.take_take]; congr 1; omega
    rw [this, hx]
    apply List.ext_getElem?
    intro j
    rw [List.getElem?_take, flat_at, flat_at, List.getElem?_take]
    by_cases hj : j < k
    · rw [if_pos (by omega), if_pos hj]
    · rw [if_neg (by omega), if_neg hj]; rfl
theorem own_caps {B e g n c : Nat} {w : World} {xs : List Value} (h : w.ownsRow B e 1 (.slice (some ⟨g, 0, none⟩) n c) n xs) : n ≤ c := by
  rcases h.2 with ⟨hv, h0⟩ | ⟨g', c', cur, hv, hg, hh, hlc, hm, hs, hx⟩
  · cases hv
  · cases hv
    omega
set_option maxRecDepth 1000000 in
set_option maxHeartbeats 2000000 in
theorem rpop_any {B b : Nat} {w : World} {V : Value} {xs : List Int} (h : Hq B b w V xs) (n : Nat) (h0 : xs.length = n + 1) (hn : n ≤ 70368744177664) : Calls Try.prog 116 #[.pointer (some ⟨b, 0, none⟩)] w fun e w' => e = .returned (.iface 3 (.int .i64 xs[n]!)) ∧ ∃ V', Hq B b w' V' (xs.take n) ∧ V'.ownBlock = V.ownBlock ∧ Mv B b V.ownBlock w w' := by
  obtain ⟨a, c, rfl, ha⟩ := h.form
  obtain ⟨g, rfl⟩ := ha (by omega)
  have c1 := h.cell (i := n) (by omega)
  have c0 := h.box.cell 0
  have f0 := h.box.free 0
  have z0 := h.box.lt
  simp at c0
  have hc := own_caps h.row
  have HF : Hid (Hq B b (w.setCell ⟨b, 0, none⟩ (.slice (some ⟨g, 0, none⟩) n c)) (.slice (some ⟨g, 0, none⟩) n c) (xs.take n) ∧ Mv B b (some g) w (w.setCell ⟨b, 0, none⟩ (.slice (some ⟨g, 0, none⟩) n c))) := by
    have hne := h.ne
    refine ⟨⟨h.box.set 0 _, ?_, h.le⟩, fun k hk hb hg => heap_setCell_other _ _ _ _ hb, (Below.refl _ _).setCell (p := ⟨b, 0, none⟩) h.le _⟩
    have h1 := own_front h.row (k := n) (by omega)
    have h2 : (xs.take n).length = n := by rw [List.length_take]; omega
    rw [h2]
    exact ownsRow_setCell_other h1 (a := ⟨b, 0, none⟩) (fun e => hne (by injection e with e; exact e.symm)) _
  obtain ⟨x, hx⟩ : ∃ x, xs[n]! = x := ⟨_, rfl⟩
  rw [hx] at c1 ⊢
  rw [h0] at c0 hc ⊢
  have k1 : IntKind.i64.wrap (((n + 1 : Nat) : Int) - 1) = (n : Int) := by rw [IntWalk.i64_in _ ⟨by omega, by omega⟩]; omega
  have t1 : (n : Int) < ((n + 1 : Nat) : Int) := by omega
  have t2 : (n : Int) ≤ (c : Int) := by omega
  clear h ha hx h0
  obtain ⟨m, hm⟩ : ∃ m : Nat, n + 1 = m := ⟨_, rfl⟩
  rw [hm] at c0 k1 t1 ⊢
  go_enter Try.func116, Try.ntmps116
  go_wp2
  go_ret
  exact ⟨rfl, _, HF.out.1, rfl, HF.out.2⟩
set_option maxRecDepth 1000000 in
theorem ta_int (x : Int) (t : TypeId) (z : World) : (Instr.typeAssert (.iface 3 (.int .i64 x)) t 3 false).run Try.prog z = .ok (.int .i64 x) z := by
  first
    | kernel_rfl
    | rfl
theorem infoIntH : (Try.prog.info? 3).map (fun i => (i.zero, i.size, i.bytes)) = some (some (.int .i64 0), 1, 8) := by kernel_rfl
theorem cells_newH (w : World) (l : List Value) (t : TypeId) : ∀ j u, l[j]? = some u → (w.alloc (.cells l.toArray t)).cell? ((⟨w.heap.size, 0, none⟩ : Addr).add j) = some u := cells_new w l t
set_option maxRecDepth 1000000 in
set_option maxHeartbeats 4000000 in
theorem rpush_any {B b : Nat} {w : World} {V : Value} {xs : List Int} (h : Hq B b w V xs) (x : Int) (hn : xs.length ≤ 1099511627776) : Calls Try.prog 117 #[.pointer (some ⟨b, 0, none⟩), .iface 3 (.int .i64 x)] w fun e w' => (∃ r, e = .returned r) ∧ ∃ V', Hq B b w' V' (xs ++ [x]) ∧ (V'.ownBlock = V.ownBlock ∨ ∃ g, V'.ownBlock = some g ∧ w.heap.size ≤ g) ∧ Mv B b V.ownBlock w w' := by
  obtain ⟨i0, hi0, hz0, hz1, hz2⟩ := info_parts infoIntH
  obtain ⟨a, c, rfl, ha⟩ := h.form
  have HH : Hid (Hq B b w (.slice a xs.length c) xs) := h
  have c0 := h.box.cell 0
  have z0 := h.box.lt
  simp at c0
  have HNB : Hid ((Value.slice a xs.length c).ownBlock ≠ some b) := fun e => h.box.neR h.row (by decide) e rfl
  clear h ha
  go_enter Try.func117, Try.ntmps117
  obtain ⟨n, hnn⟩ : ∃ n, xs.length = n := ⟨_, rfl⟩
  have HN : Hid (xs.length = n) := hnn
  rw [hnn] at c0 hn HNB ⊢
  have HR : Hid (w.ownsRow B 3 1 (.slice a n c) n (flat xs)) := by unfold Hid; have := HH.out.row; rw [hnn] at this; exact this
  clear hnn
  refine wp_region_G (fun z => z.cell? ⟨b, 0, none⟩ = some (.slice a n c)) 9 (by kernel_rfl) ?_
  refine wpAnyG_take (i := 0) (v := .pointer (some ⟨b, 0, none⟩)) rfl (by kernel_rfl) (by kernel_rfl) (by kernel_rfl) (fun _ _ _ h => h) (by kernel_rfl) (by kernel_rfl) (by kernel_rfl) (Or.inl ⟨by rfl, fun z hz => ?_⟩) c0 ?_
  · (try dsimp only at hz); go_simp
  try simp only [Act.put, List.setIfInBounds_toArray, List.set_cons_zero, List.set_cons_succ]
  refine wpAnyG_take (i := 1) (v := .pointer (some ⟨b, 0, none⟩)) rfl (by kernel_rfl) (by kernel_rfl) (by kernel_rfl) (fun _ _ _ h => h) (by kernel_rfl) (by kernel_rfl) (by kernel_rfl) (Or.inl ⟨by rfl, fun z hz => ?_⟩) c0 ?_
  · (try dsimp only at hz); go_simp
  try simp only [Act.put, List.setIfInBounds_toArray, List.set_cons_zero, List.set_cons_succ]
  refine wpAnyG_take (i := 2) (v := .pointer (some ⟨b, 0, none⟩)) rfl (by kernel_rfl) (by kernel_rfl) (by kernel_rfl) (fun _ _ _ h => h) (by kernel_rfl) (by kernel_rfl) (by kernel_rfl) (Or.inl ⟨by rfl, fun z hz => ?_⟩) c0 ?_
  · (try dsimp only at hz); go_simp
  try simp only [Act.put, List.setIfInBounds_toArray, List.set_cons_zero, List.set_cons_succ]
  refine wpAnyG_take (i := 3) (v := .slice a n c) rfl (by kernel_rfl) (by kernel_rfl) (by kernel_rfl) (fun _ _ _ h => h) (by kernel_rfl) (by kernel_rfl) (by kernel_rfl) (Or.inl ⟨by rfl, fun z hz => ?_⟩) c0 ?_
  · (try dsimp only at hz); go_simp
  try simp only [Act.put, List.setIfInBounds_toArray, List.set_cons_zero, List.set_cons_succ]
  refine wpAnyG_take (i := 4) (v := .iface 3 (.int .i64 x)) rfl (by kernel_rfl) (by kernel_rfl) (by kernel_rfl) (fun _ _ _ h => h) (by kernel_rfl) (by kernel_rfl) (by kernel_rfl) (Or.inl ⟨by rfl, fun z hz => ?_⟩) c0 ?_
  · (try dsimp only at hz); go_simp
  try simp only [Act.put, List.setIfInBounds_toArray, List.set_cons_zero, List.set_cons_succ]
  refine wpAnyG_take (i := 5) (v := .int .i64 x) rfl (by kernel_rfl) (by kernel_rfl) (by kernel_rfl) (fun _ _ _ h => h) (by kernel_rfl) (by kernel_rfl) (by kernel_rfl) (Or.inl ⟨by rfl, fun z hz => ?_⟩) c0 ?_
  · (try dsimp only at hz); have hta := fun t => ta_int x t z; go_simp; (try rw [hta]); (try rfl)
  try simp only [Act.put, List.setIfInBounds_toArray, List.set_cons_zero, List.set_cons_succ]
  refine wpAnyG_one (i := 6) (by kernel_rfl) rfl (fun K hK0 => ?_)
  have hK : Hid _ := hK0
  clear hK0
  go_simp
  obtain ⟨w1, hw1⟩ : ∃ w1, (w.alloc (.cells #[.int .i64 x] 3)).drew = w1 := ⟨_, rfl⟩
  have hA : Below w.heap.size w w1 := by rw [← hw1]; exact ((Below.refl _ w).alloc (Nat.le_refl _) _).drew
  have HNW : Hid (∀ j u, ([Value.int .i64 x] : List Value)[j]? = some u → w1.cell? ((⟨w.heap.size, 0, none⟩ : Addr).add j) = some u) := by unfold Hid; rw [← hw1]; exact cells_newH w [Value.int .i64 x] 3
  have HZ1 : Hid (w1.heap.size = w.heap.size + 1) := by unfold Hid; rw [← hw1]; simp
  have HB1 : Hid (Below w.heap.size w w1) := hA
  have c1 : w1.cell? ⟨b, 0, none⟩ = some (.slice a n c) := (HH.out.box.below hA HH.out.box.lt).cell 0 |>.trans (by have := HN.out; simp [this])
  rw [hw1]
  clear hw1 hA
  refine hK.out _ _ (fun _ => c1) ?_
  clear hK K
  try simp only [Act.put, List.setIfInBounds_toArray, List.set_cons_zero, List.set_cons_succ]
  refine wpAnyG_one (i := 7) (by kernel_rfl) rfl (fun K hK0 => ?_)
  have hK : Hid _ := hK0
  clear hK0
  refine step_append_lies _ (by rfl) _ _ _ (by rfl) B 3 i0 (.int .i64 0) 1 8 Try.underlying68 hi0 hz0 hz1 hz2 rfl (by omega) (.slice a n c) n (flat xs) (by rfl) (own_belowR HR.out HB1.out (Nat.le_refl _)) ⟨w.heap.size, 0, none⟩ 1 1 [Value.int .i64 x] (by rfl) (by rfl) HNW.out (by intro u hu; simp at hu; subst hu; rfl) (by omega) (by unfold maxLen; omega) (by omega) (by have h1 := HH.out.le; have h2 := HZ1.out; omega) (w.heap.size + 1) HZ1.out ?_
  intro gg cp w2 hown2 hgrow2 hat2 hlt2
  have X2 : Hid (Bx w2 b #[.slice a xs.length c] 68) := (HH.out.box.below HB1.out HH.out.box.lt).grw hgrow2 HNB.out
  have c2 : w2.cell? ⟨b, 0, none⟩ = some (.slice a n c) := X2.out.cell 0 |>.trans (by have := HN.out; simp [this])
  have f2 := X2.out.free 0
  have R2 : Hid (w2.ownsRow B 3 1 (.slice (some ⟨gg, 0, none⟩) (n + 1) cp) (n + 1) (flat (xs ++ [x]))) := by unfold Hid; rw [flat_append]; exact hown2
  have M2 : Hid (Mv B b (Value.slice a n c).ownBlock w w2) := by
    have hz := HZ1.out
    have hle := HH.out.le
    refine ⟨fun k hk hb hg => (hgrow2.block k (by omega) hg).trans (HB1.out.block k hk), ?_⟩
    exact (HB1.out.mono (by omega)).grown hgrow2 (by omega) (fun g hg => (HR.out.lt g hg).1)
  have A2 : Hid ((Value.slice a n c).ownBlock = some gg ∨ w.heap.size ≤ gg) := hat2.elim .inl (fun e => .inr (by omega))
  clear hown2 hgrow2 hat2 hlt2
  refine hK.out _ _ (fun _ => c2) ?_
  clear hK K
  try simp only [Act.put, List.setIfInBounds_toArray, List.set_cons_zero, List.set_cons_succ]
  refine wpAnyG_one (i := 8) (by kernel_rfl) rfl (fun K hK0 => ?_)
  have hK : Hid _ := hK0
  clear hK0
  go_simp
  refine hK.out _ _ (fun _ => c2) ?_
  clear hK K
  try simp only [Act.put, List.setIfInBounds_toArray, List.set_cons_zero, List.set_cons_succ]
  refine wpAnyG_one (i := 9) (by kernel_rfl) rfl (fun K hK0 => ?_)
  have hK : Hid _ := hK0
  clear hK0
  go_simp
  refine hK.out _ _ (fun h => Bool.noConfusion (show true = false from h)) ?_
  clear hK K
  try simp only [Act.put, List.setIfInBounds_toArray, List.set_cons_zero, List.set_cons_succ]
  refine wpAnyG_done (by kernel_rfl) ?_ _
  refine bodyPost_end (results_none rfl _ _ _) rfl ?_
  refine ⟨⟨_, rfl⟩, .slice (some ⟨gg, 0, none⟩) (n + 1) cp, ⟨X2.out.set 0 _, ?_, HH.out.le⟩, ?_, ?_⟩
  · have hl : (xs ++ [x]).length = n + 1 := by rw [List.length_append, HN.out]; rfl
    rw [hl]
    exact ownsRow_setCell_other R2.out (a := ⟨b, 0, none⟩) (fun e => by have e2 : b ≠ gg := X2.out.neR R2.out (by decide) rfl; injection e with e; exact e2 e.symm) _
  · rcases A2.out with e | e
    · exact .inl (by rw [e]; rfl)
    · exact .inr ⟨gg, rfl, e⟩
  · exact ⟨fun k hk hb hg => (heap_setCell_other _ _ _ _ hb).trans (M2.out.keep k hk hb hg), M2.out.bel.setCell (p := ⟨b, 0, none⟩) HH.out.le _⟩
end Go.Proofs.Ytgijcbipnjmhgaa
