import Derived.Test.YtgijcbipnjmhgabGreatGr3c
import Derived.Test.YtgijcbipnjmhgabGreatSmN
import Derived.Test.YtgijcbipnjmhgabGreatGr3
import Derived.Test.YtgijcbipnjmhgabGreatKs0
import Derived.Test.YtgijcbipnjmhgabGreatHp2
namespace Go.Proofs.YtgijcbipnjmhgabGreat
open Go.ChangeShapes Go.WideShapes Go.ChangeAt Go.RowKit
set_option linter.unusedVariables false
set_option linter.unusedSimpArgs false
set_option maxRecDepth 1000000

theorem m_pop (b : Nat) (w : World) : (method 282 80 (.pointer (some ⟨b, 0, none⟩)) "Pop").run Tryz.prog w = .ok (130, .pointer (some ⟨b, 0, none⟩)) w := by
  obtain ⟨k, hk⟩ : ∃ k, k + 1 = 282 := ⟨282 - 1, rfl⟩
  rw [← hk]
  unfold method
  have hf : Array.find? (fun x => x.name == "Pop") Tryz.t80.methods = some Tryz.t80.methods[2]! := by kernel_rfl
  have hp : Tryz.t80.methods[2]!.path = #[] := by kernel_rfl
  have hg : Tryz.t80.methods[2]!.func = some (130, true) := by kernel_rfl
  go_simp
  simp [follow, receiverAt, Place.get, asAddr]
  try go_simp
theorem m_push (b : Nat) (w : World) : (method 282 80 (.pointer (some ⟨b, 0, none⟩)) "Push").run Tryz.prog w = .ok (131, .pointer (some ⟨b, 0, none⟩)) w := by
  obtain ⟨k, hk⟩ : ∃ k, k + 1 = 282 := ⟨282 - 1, rfl⟩
  rw [← hk]
  unfold method
  have hf : Array.find? (fun x => x.name == "Push") Tryz.t80.methods = some Tryz.t80.methods[3]! := by kernel_rfl
  have hp : Tryz.t80.methods[3]!.path = #[] := by kernel_rfl
  have hg : Tryz.t80.methods[3]!.func = some (131, true) := by kernel_rfl
  go_simp
  simp [follow, receiverAt, Place.get, asAddr]
  try go_simp
/-- the row's block is as before, or new -/
def Nb (w : World) (V V' : Value) : Prop := V'.ownBlock = V.ownBlock ∨ ∃ g, V'.ownBlock = some g ∧ w.heap.size ≤ g
theorem Nb.mv {B b : Nat} {w v u : World} {V V' : Value} (h : Mv B b V.ownBlock w v) (hn : Nb w V V') (k : Mv B b V'.ownBlock v u) : Mv B b V.ownBlock w u :=
  h.trans k (by
    rcases hn with e | ⟨g, e, hg⟩
    · exact .inl e
    · refine .inr fun g' e' => ?_
      rw [e] at e'
      cases e'
      exact hg)
set_option maxHeartbeats 4000000 in
theorem push_any {B b : Nat} {w : World} {V : Value} {xs : List Int} (x : Int) (h : Hq B b w V xs) (hh : Hpp xs xs.length) (hn : xs.length ≤ 549755813888) :
    Calls Tryz.prog 47 #[hpI b, .iface 3 (.int .i64 x)] w fun e w' => (∃ r, e = .returned r) ∧ ∃ V' ys, Hq B b w' V' ys ∧ Hpp ys ys.length ∧ ys.Perm (xs ++ [x]) ∧ Nb w V V' ∧ Mv B b V.ownBlock w w' := by
  obtain ⟨n, hl⟩ : ∃ n, xs.length = n := ⟨_, rfl⟩
  have HH : Hid (Hq B b w V xs) := h
  have HP : Hid (HpU (xs ++ [x]) (n + 1) n) := by rw [← hl]; exact hh.push x
  have HL : Hid (xs.length = n ∧ n ≤ 549755813888) := ⟨hl, by omega⟩
  have mp := m_push b w
  have k1 : IntKind.i64.wrap (((n + 1 : Nat) : Int) - 1) = (n : Int) := by rw [IntWalk.i64_in _ ⟨by omega, by omega⟩]; omega
  have k2 : IntKind.i64.wrap ((n : Int) + 1 - 1) = (n : Int) := by rw [IntWalk.i64_in _ ⟨by omega, by omega⟩]; omega
  have k3 : IntKind.i64.wrap (n : Int) = (n : Int) := by rw [IntWalk.i64_in _ ⟨by omega, by omega⟩]
  clear h hh hl hn
  go_enter Tryz.func47, Tryz.ntmps47
  go_wp2_with (first
    | (go_at_call 131; (with_reducible refine (rpush_any HH.out x (by have := HL.out; omega)).mono ?_); rintro e w1 ⟨⟨r1, rfl⟩, V1, hq1, hn1, hm1⟩; have H1 := hidH hq1; have N1 := hidH hn1; have M1 := hidH hm1; have c1 := hq1.at0; have ml1 := m_len b V1 w1 c1; obtain ⟨a1, p1, hV1, hz1⟩ := hq1.form; rw [List.length_append, List.length_singleton, HL.out.1] at hV1; clear hz1 hq1 hn1 hm1; subst hV1)
    | (go_at_call 127; (with_reducible refine (rlen_any a1 (n + 1) p1 _).mono ?_); rintro e w2 ⟨rfl, rfl⟩)
    | (go_at_call 72; (with_reducible refine (up_any (n + 1) n (by rw [List.length_append, List.length_singleton, HL.out.1]) (by omega) (by have := HL.out; omega) H1.out HP.out).mono ?_); rintro e w3 ⟨⟨r3, rfl⟩, ys, hq3, hp3, hr3, hm3⟩; have H3 := hidH hq3; have P3 := hidH hp3; have R3 := hidH hr3; have M3 := hidH hm3; clear hq3 hp3 hr3 hm3))
  go_end0
  exact ⟨⟨_, rfl⟩, _, ys, H3.out, by rw [R3.out.length_eq, List.length_append, List.length_singleton, HL.out.1]; exact P3.out, R3.out, N1.out, Nb.mv M1.out N1.out M3.out⟩
set_option maxHeartbeats 4000000 in
theorem pop_any {B b : Nat} {w : World} {V : Value} {xs : List Int} (n : Nat) (hl : xs.length = n + 1) (h : Hq B b w V xs) (hh : Hpp xs (n + 1)) (hn : n ≤ 549755813888) :
    Calls Tryz.prog 46 #[hpI b] w fun e w' => ∃ m, e = .returned (.iface 3 (.int .i64 m)) ∧ (∀ x ∈ xs, m ≤ x) ∧ ∃ V' ys, Hq B b w' V' ys ∧ Hpp ys n ∧ ys.length = n ∧ (m :: ys).Perm xs ∧ V'.ownBlock = V.ownBlock ∧ Mv B b V.ownBlock w w' := by
  have HH : Hid (Hq B b w V xs) := h
  have HP : Hid (HpD (sw xs 0 n) n 0) := hh.pop hl.symm
  have HM : Hid (∀ x ∈ xs, xs[0]! ≤ x) := fun x hx => by
    obtain ⟨i, hi, rfl⟩ := List.mem_iff_getElem.mp hx
    have := hh.min i i (Nat.le_refl _) (by omega)
    rw [getElem!_pos xs i hi] at this
    exact this
  have HL : Hid (xs.length = n + 1 ∧ n ≤ 549755813888) := ⟨hl, hn⟩
  have HS : Hid (Calls Tryz.prog 129 #[V, .int .i64 0, .int .i64 (n : Int)] w fun e w' => (∃ x, e = .returned x) ∧ Hq B b w' V (sw xs 0 n) ∧ Mv B b V.ownBlock w w') := rswap_any h 0 n (by omega) (by omega)
  have c0 := h.at0
  have ml0 := m_len b V w c0
  have ms0 := m_swap b V w c0
  obtain ⟨a, c, hV, hz⟩ := h.form
  have k1 : IntKind.i64.wrap (((n + 1 : Nat) : Int) - 1) = (n : Int) := by rw [IntWalk.i64_in _ ⟨by omega, by omega⟩]; omega
  have k2 : IntKind.i64.wrap ((n : Int) + 1 - 1) = (n : Int) := by rw [IntWalk.i64_in _ ⟨by omega, by omega⟩]; omega
  have k3 : IntKind.i64.wrap (n : Int) = (n : Int) := by rw [IntWalk.i64_in _ ⟨by omega, by omega⟩]
  rw [hl] at hV
  clear h hh hl hn hz
  subst hV
  go_enter Tryz.func46, Tryz.ntmps46
  go_wp2_with (first
    | (go_at_call 127; (with_reducible refine (rlen_any a (n + 1) c _).mono ?_); rintro e w2 ⟨rfl, rfl⟩)
    | (go_at_call 129; (with_reducible refine (HS.out).mono ?_); rintro e w3 ⟨⟨x3, rfl⟩, hq3, hm3⟩; have H3 := hidH hq3; have M3 := hidH hm3; clear hq3 hm3)
    | (go_at_call 71; (with_reducible refine (down_any n (n + 1) (by rw [sw_len]; exact HL.out.1) (by omega) (by have := HL.out; omega) H3.out HP.out).mono ?_); rintro e w4 ⟨⟨r4, rfl⟩, ys, hq4, hp4, hr4, ht4, hm4⟩; have H4 := hidH hq4; have P4 := hidH hp4; have R4 := hidH hr4; have T4 := hidH ht4; have M4 := hidH (M3.out.trans hm4 (.inl rfl)); have mp4 := m_pop b w4; clear hq4 hp4 hr4 ht4 hm4; obtain ⟨m5, em5⟩ : ∃ m : Int, ys[n]! = m := ⟨_, rfl⟩; have E5 := hidH em5; clear em5; have Q5 := hidH (rpop_any H4.out n (by rw [R4.out.length_eq, sw_len]; exact HL.out.1) (by have := HL.out; omega)); rw [E5.out] at Q5)
    | (go_at_call 130; (with_reducible refine (Q5.out).mono ?_); rintro e w5 ⟨rfl, V5, hq5, hn5, hm5⟩; have H5 := hidH hq5; have N5 := hidH hn5; have M5 := hidH (M4.out.trans hm5 (.inl rfl)); clear hq5 hn5 hm5))
  go_ret
  have hyl : ys.length = n + 1 := by rw [R4.out.length_eq, sw_len]; exact HL.out.1
  have hlast : ys[n]! = xs[0]! := by
    rw [T4.out n (Nat.le_refl _), sw_get xs (by have := HL.out; omega) (by have := HL.out; omega), if_pos rfl]
  refine ⟨xs[0]!, by rw [← hlast, E5.out]; rfl, HM.out, V5, ys.take n, H5.out, P4.out.take (by omega), by rw [List.length_take]; omega, ?_, N5.out, M5.out⟩
  refine List.Perm.trans ?_ (R4.out.trans (sw_perm xs (by have := HL.out; omega) (by have := HL.out; omega)))
  rw [← hlast]
  have e : ys = ys.take n ++ [ys[n]!] := by
    rw [getElem!_pos ys n (by omega)]
    conv => lhs; rw [← List.take_append_drop n ys]
    rw [List.drop_eq_getElem_cons (by omega), List.drop_eq_nil_of_le (by omega)]
  conv => rhs; rw [e]
  exact (List.perm_append_singleton _ _).symm
end Go.Proofs.YtgijcbipnjmhgabGreat

namespace Go.Proofs.YtgijcbipnjmhgabGreat
open Go.ChangeShapes Go.WideShapes Go.ChangeAt Go.RowKit
set_option linter.unusedVariables false
set_option linter.unusedSimpArgs false

theorem own_same {B e s n : Nat} {w w' : World} {v : Value} {xs : List Value} (h : w.ownsRow B e s v n xs) (hk : ∀ g, v.ownBlock = some g → w'.heap[g]? = w.heap[g]?) : w'.ownsRow B e s v n xs :=
  ⟨h.1, h.2.imp id (fun ⟨g, cap, cur, hv, hbase, hb, rest⟩ => ⟨g, cap, cur, hv, hbase, (hk g (by rw [hv]; rfl)).trans hb, rest⟩)⟩
/-- lists that are read: a row of rows, all below B -/
structure Rl (B : Nat) (w : World) (gV n : Nat) (N : Nat → List Int) : Prop where
  lt : gV < B
  row : ∀ x, x < n → ∃ a c, w.cell? ⟨gV, x, none⟩ = some (.slice a (N x).length c) ∧ (0 < (N x).length → ∃ g, a = some ⟨g, 0, none⟩ ∧ g < B ∧ ∀ j y, (N x)[j]? = some y → w.cell? ⟨g, j, none⟩ = some (.int .i32 y))
theorem Rl.below {B gV n : Nat} {w w' : World} {N : Nat → List Int} (h : Rl B w gV n N) (hb : Below B w w') : Rl B w' gV n N :=
  ⟨h.lt, fun x hx => by
    obtain ⟨a, c, h1, h2⟩ := h.row x hx
    refine ⟨a, c, (hb.cell (p := ⟨gV, x, none⟩) h.lt).trans h1, fun h0 => ?_⟩
    obtain ⟨g, e, hg, h3⟩ := h2 h0
    exact ⟨g, e, hg, fun j y hj => (hb.cell (p := ⟨g, j, none⟩) hg).trans (h3 j y hj)⟩⟩
/-- lineUp's world: the heap in its box, what is missing, what stands in line -/
structure Lw2 (B b gm n : Nat) (w : World) (V : Value) (xs ms : List Int) (O : Value) (os : List Int) : Prop where
  hq : Hq B b w V xs
  mi : w.ownsRow B 3 1 (.slice (some ⟨gm, 0, none⟩) n n) n (flat ms)
  ou : w.ownsRow B 3 1 O os.length (flat os)
  d1 : V.ownBlock ≠ some gm
  d2 : O.ownBlock ≠ some gm
  d3 : ∀ g, V.ownBlock = some g → O.ownBlock ≠ some g
theorem Lw2.below {B b gm n : Nat} {w w' : World} {V O : Value} {xs ms os : List Int} (h : Lw2 B b gm n w V xs ms O os) (hb : Below w.heap.size w w') : Lw2 B b gm n w' V xs ms O os :=
  ⟨h.hq.below hb, own_belowR h.mi hb (Nat.le_refl _), own_belowR h.ou hb (Nat.le_refl _), h.d1, h.d2, h.d3⟩
theorem Lw2.mlen {B b gm n : Nat} {w : World} {V O : Value} {xs ms os : List Int} (h : Lw2 B b gm n w V xs ms O os) : ms.length = n := by
  have := h.mi.1
  rw [flat_length] at this
  exact Nat.eq_of_mul_eq_mul_right (by decide) this
theorem Lw2.bgm {B b gm n : Nat} {w : World} {V O : Value} {xs ms os : List Int} (h : Lw2 B b gm n w V xs ms O os) : b ≠ gm := h.hq.box.neR h.mi (by decide) rfl
theorem Lw2.heap {B b gm n : Nat} {w w' : World} {V V' O : Value} {xs xs' ms os : List Int} (h : Lw2 B b gm n w V xs ms O os) (hq : Hq B b w' V' xs') (hn : Nb w V V') (hm : Mv B b V.ownBlock w w') : Lw2 B b gm n w' V' xs' ms O os := by
  have hg := (h.mi.lt gm rfl).2
  have hlt : ∀ g, O.ownBlock = some g → g < w.heap.size := fun g e => (h.ou.lt g e).2
  refine ⟨hq, own_same h.mi (fun g e => ?_), own_same h.ou (fun g e => hm.keep g (hlt g e) (fun e2 => ?_) (fun e2 => h.d3 g e2.symm e)), ?_, h.d2, ?_⟩
  · cases e
    exact hm.keep gm hg (fun e2 => h.bgm e2.symm) (fun e2 => h.d1 e2.symm)
  · exact h.hq.box.neR h.ou (by decide) e e2.symm
  · rcases hn with e | ⟨g, e, hg2⟩
    · rw [e]; exact h.d1
    · rw [e]; intro e2; injection e2; omega
  · rcases hn with e | ⟨g, e, hg2⟩
    · rw [e]; exact h.d3
    · rw [e]
      intro g' e2 e3
      injection e2 with e2
      have := hlt g' e3
      omega
theorem Lw2.get {B b gm n : Nat} {w : World} {V O : Value} {xs ms os : List Int} (h : Lw2 B b gm n w V xs ms O os) {y : Nat} (hy : y < n) : w.cell? ⟨gm, y, none⟩ = some (.int .i64 ms[y]!) ∧ w.frozen? ⟨gm, y, none⟩ = false := by
  have hl := h.mlen
  have h1 := h.mi.cells rfl y (.int .i64 ms[y]!) (by rw [flat_at, List.getElem?_eq_getElem (by omega), getElem!_pos ms y (by omega)]; rfl)
  rw [addr_add, Nat.zero_add] at h1
  refine ⟨h1, ?_⟩
  rcases h.mi.2 with ⟨hv, h0⟩ | ⟨g, c, cur, hv, hg, hh, h1, hm, hs, hx⟩
  · cases hv
  · cases hv
    simp [World.frozen?, hh]
theorem Lw2.set {B b gm n : Nat} {w : World} {V O : Value} {xs ms os : List Int} (h : Lw2 B b gm n w V xs ms O os) (y : Nat) (x : Int) : Lw2 B b gm n (w.setCell ⟨gm, y, none⟩ (.int .i64 x)) V xs (ms.set y x) O os := by
  refine ⟨⟨h.hq.box.other ⟨gm, y, none⟩ h.bgm _, ownsRow_setCell_other h.hq.row (a := ⟨gm, y, none⟩) h.d1 _, h.hq.le⟩, ?_, ownsRow_setCell_other h.ou (a := ⟨gm, y, none⟩) h.d2 _, h.d1, h.d2, h.d3⟩
  have := (World.ownsRow.stored h.mi y (.int .i64 x)).1
  rw [← flat_setI]
  exact this
theorem Lw2.out {B b gm n : Nat} {w w' : World} {V O O' : Value} {xs ms os os' : List Int} (h : Lw2 B b gm n w V xs ms O os) (ho : w'.ownsRow B 3 1 O' os'.length (flat os')) (hg : w.grownBy w' O.ownBlock) (hn : O'.ownBlock = O.ownBlock ∨ ∃ g, O'.ownBlock = some g ∧ w.heap.size ≤ g) : Lw2 B b gm n w' V xs ms O' os' := by
  have hbo : O.ownBlock ≠ some b := fun e => h.hq.box.neR h.ou (by decide) e rfl
  have hlt : ∀ g, V.ownBlock = some g → g < w.heap.size := fun g e => (h.hq.row.lt g e).2
  have hgm := (h.mi.lt gm rfl).2
  refine ⟨⟨h.hq.box.grw hg hbo, own_same h.hq.row (fun g e => hg.block g (hlt g e) (fun e2 => h.d3 g e e2.symm)), h.hq.le⟩, own_same h.mi (fun g e => ?_), ho, h.d1, ?_, ?_⟩
  · cases e
    exact hg.block gm hgm (fun e2 => h.d2 e2.symm)
  · rcases hn with e | ⟨g, e, hg2⟩
    · rw [e]; exact h.d2
    · rw [e]; intro e2; injection e2; omega
  · rcases hn with e | ⟨g, e, hg2⟩
    · rw [e]; exact h.d3
    · rw [e]
      intro g' e2 e3
      injection e3 with e3
      have := hlt g' e2
      omega
theorem Lw2.ready {B b gm n : Nat} {w w' : World} {V V' O : Value} {xs xs' ms os : List Int} (h : Lw2 B b gm n w V xs ms O os) (ho : w'.ownsRow B 3 1 V' xs'.length (flat xs')) (hg : w.grownBy w' V.ownBlock) (hn : Nb w V V') : Lw2 B b gm n (w'.setCell ⟨b, 0, none⟩ V') V' xs' ms O os := by
  have hbV : V.ownBlock ≠ some b := fun e => h.hq.box.neR h.hq.row (by decide) e rfl
  have X' : Bx w' b #[V] 78 := h.hq.box.grw hg hbV
  have hb' : V'.ownBlock ≠ some b := fun e => X'.neR ho (by decide) e rfl
  have hlt := h.hq.box.lt
  have hle := h.hq.le
  refine h.heap ⟨X'.set 0 V', ownsRow_setCell_other ho (a := ⟨b, 0, none⟩) hb' _, h.hq.le⟩ hn ⟨fun k hk hkb hg2 => (heap_setCell_other _ _ _ _ hkb).trans (hg.block k hk hg2), ?_⟩
  exact ((Below.refl B w).grown hg (by omega) (fun g e => (h.hq.row.lt g e).1)).setCell (p := ⟨b, 0, none⟩) h.hq.le _
end Go.Proofs.YtgijcbipnjmhgabGreat

namespace Go.Proofs.YtgijcbipnjmhgabGreat
set_option linter.unusedVariables false
set_option linter.unusedSimpArgs false

/-- one part: each comes to the other -/
def Sam (ps : List Pr) (x y : Nat) : Prop := Rch ps x y ∧ Rch ps y x
/-- the lowest of a part -/
def Low (ps : List Pr) (x z : Nat) : Prop := Sam ps x z ∧ ∀ y, Sam ps x y → z ≤ y
/-- the lists of one way, as pairs -/
abbrev Lst (n : Nat) (ps : List Pr) (N : Nat → List Int) : Prop := ∀ x : Nat, x < n → (N x).length ≤ 131072 ∧ ∀ y, y ∈ N x ↔ (⟨(x : Int), y⟩ : Pr) ∈ ps
/-- the pairs turned -/
abbrev Trn (ps qs : List Pr) : Prop := ∀ x y : Int, (⟨x, y⟩ : Pr) ∈ qs ↔ (⟨y, x⟩ : Pr) ∈ ps
theorem Sam.symm {ps : List Pr} {x y : Nat} (h : Sam ps x y) : Sam ps y x := ⟨h.2, h.1⟩
theorem Sam.trans {ps : List Pr} {x y z : Nat} (h : Sam ps x y) (k : Sam ps y z) : Sam ps x z := ⟨h.1.trans k.1, k.2.trans h.2⟩
theorem Rch.turn {ps qs : List Pr} (hq : Trn ps qs) {x y : Nat} (h : Rch qs x y) : Rch ps y x := by
  induction h with
  | refl x => exact .refl x
  | step e _ ih => exact ih.trans (.step ((hq _ _).1 e) (.refl _))
theorem Rch.back {ps qs : List Pr} (hq : Trn ps qs) {x y : Nat} (h : Rch ps y x) : Rch qs x y := h.turn (fun x y => (hq y x).symm)
theorem told_all {ps : List Pr} {P : Nat → Prop} {n : Nat} {m : List Bool} {t : List Nat} (h : Dk ps P (List.replicate n false) [] m t) (hm : ∀ y : Nat, y < n → m[y]? = some true) : t.Nodup ∧ (∀ y, y ∈ t ↔ y < n) ∧ Fnl ps t := by
  obtain ⟨s, e, hn, hy, hz⟩ := h.told
  obtain ⟨s', e', ho⟩ := h.od
  rw [List.nil_append] at e e'
  subst e'
  subst e
  refine ⟨hn, fun y => ⟨fun hy' => ?_, fun hy' => ?_⟩, ho.fin⟩
  · have := (List.getElem?_eq_some_iff.1 (hy y hy').1).1
    simpa using this
  · rcases hz y (hm y hy') with h1 | h1
    · rw [List.getElem?_replicate] at h1; split at h1 <;> cases h1
    · exact h1
/-- the parts that are known -/
structure Ki (ps : List Pr) (pre : List Nat) (m : List Bool) (ls : List Int) : Prop where
  clo : ∀ u v : Nat, (⟨(u : Int), (v : Int)⟩ : Pr) ∈ ps → m[v]? = some true → m[u]? = some true
  all : ∀ x ∈ pre, m[x]? = some true
  low : ∀ y : Nat, m[y]? = some true → ∃ z : Nat, ls[y]? = some (z : Int) ∧ Low ps y z
theorem Ki.start (ps : List Pr) (n : Nat) (ls : List Int) : Ki ps [] (List.replicate n false) ls := by
  have : ∀ y : Nat, (List.replicate n false)[y]? ≠ some true := fun y h => by rw [List.getElem?_replicate] at h; split at h <;> cases h
  exact ⟨fun u v _ h => absurd h (this v), fun x h => by simp at h, fun y h => absurd h (this y)⟩
theorem Ki.rch {ps : List Pr} {pre : List Nat} {m : List Bool} {ls : List Int} (h : Ki ps pre m ls) {x y : Nat} (hr : Rch ps x y) (hy : m[y]? = some true) : m[x]? = some true := by
  induction hr with
  | refl => exact hy
  | step e _ ih => exact h.clo _ _ e (ih hy)
/-- what a walk against the edges comes to: the part -/
theorem Ki.part {ps qs : List Pr} {n x : Nat} {t pre p0 s : List Nat} {m m' : List Bool} {ls : List Int} (hq : Trn ps qs) (hps : ∀ p ∈ ps, 0 ≤ p.b ∧ p.b < (n : Int)) (h : Ki ps pre m ls) (hml : m.length = n) (ht : t.Nodup) (hta : ∀ y, y ∈ t ↔ y < n) (hf : Fnl ps t) (e : t = p0 ++ x :: pre.reverse) (hd : Dq qs (Rch qs x) m [] m' s) (hx : m'[x]? = some true) :
    (∀ y ∈ s, Sam ps x y) ∧ (∀ u v : Nat, (⟨(u : Int), (v : Int)⟩ : Pr) ∈ ps → m'[v]? = some true → m'[u]? = some true) ∧ (∀ y : Nat, m'[y]? = some true → m[y]? = some true ∨ y ∈ s) ∧ (∀ y ∈ s, m[y]? = some false) ∧ ∀ y ∈ s, ∀ y', Sam ps y y' → y' ∈ s := by
  obtain ⟨s', es, hn, hy, hz⟩ := hd.told
  rw [List.nil_append] at es
  subst es
  have hclo : ∀ u v : Nat, (⟨(u : Int), (v : Int)⟩ : Pr) ∈ ps → m'[v]? = some true → m'[u]? = some true := fun u v he hv => by
    have hvl : v < m.length := by have := (List.getElem?_eq_some_iff.1 hv).1; rw [hd.len] at this; exact this
    cases hm : m[v] with
    | false => exact hd.closed v u (by rw [List.getElem?_eq_getElem hvl, hm]) hv ((hq _ _).2 he)
    | true => exact hd.mono u (h.clo u v he (by rw [List.getElem?_eq_getElem hvl, hm]))
  have hrch : ∀ {a b : Nat}, Rch ps a b → m'[b]? = some true → m'[a]? = some true := fun {a b} hr hb => by
    induction hr with
    | refl => exact hb
    | step e _ ih => exact hclo _ _ e (ih hb)
  have hsam : ∀ y ∈ s, Sam ps x y := fun y hys => by
    obtain ⟨h1, h2⟩ := hy y hys
    have hyx : Rch ps y x := by
      rcases hd.reach y h2 with h3 | h3
      · exact (tf h3 h1).elim
      · exact h3.turn hq
    refine ⟨kos (M := fun v => m[v]? = some true) ht hf e ?_ h.clo ?_ ?_ ?_ hyx, hyx⟩
    · intro u v he
      have := hps _ he
      simp only at this
      exact (hta v).2 (by omega)
    · intro v hv
      exact h.all v (List.mem_reverse.1 hv)
    · have := (List.getElem?_eq_some_iff.1 h1).1
      exact (hta y).2 (by omega)
    · intro h3
      exact tf h3 h1
  refine ⟨hsam, hclo, hz, fun y hys => (hy y hys).1, fun y hys y' hyy => ?_⟩
  have hxy := (hsam y hys).trans hyy
  rcases hz y' (hrch hxy.2 hx) with h3 | h3
  · exact (tf (h.rch hyy.1 h3) (hy y hys).1).elim
  · exact h3
theorem Ki.step {ps qs : List Pr} {n x z0 : Nat} {t pre p0 s : List Nat} {m m' : List Bool} {ls ls' : List Int} (hq : Trn ps qs) (hps : ∀ p ∈ ps, 0 ≤ p.b ∧ p.b < (n : Int)) (h : Ki ps pre m ls) (hml : m.length = n) (ht : t.Nodup) (hta : ∀ y, y ∈ t ↔ y < n) (hf : Fnl ps t) (e : t = p0 ++ x :: pre.reverse) (hd : Dq qs (Rch qs x) m [] m' s) (hx : m'[x]? = some true) (hz0 : ∀ y ∈ s, z0 ∈ s ∧ z0 ≤ y) (hl1 : ∀ y ∈ s, ls'[y]? = some (z0 : Int)) (hl2 : ∀ y : Nat, y ∉ s → ls'[y]? = ls[y]?) : Ki ps (pre ++ [x]) m' ls' := by
  obtain ⟨h1, h2, h3, h4, h5⟩ := h.part hq hps hml ht hta hf e hd hx
  refine ⟨h2, fun y hy => ?_, fun y hy => ?_⟩
  · rcases List.mem_append.1 hy with hy | hy
    · exact hd.mono y (h.all y hy)
    · rw [List.mem_singleton] at hy; subst hy; exact hx
  · by_cases hys : y ∈ s
    · refine ⟨z0, hl1 y hys, (h1 y hys).symm.trans (h1 z0 (hz0 y hys).1), fun y' hyy => (hz0 y' (h5 y hys y' hyy)).2⟩
    · rcases h3 y hy with h6 | h6
      · rw [hl2 y hys]; exact h.low y h6
      · exact absurd h6 hys
theorem Ki.done {ps : List Pr} {n : Nat} {t : List Nat} {m : List Bool} {ls : List Int} (h : Ki ps t.reverse m ls) (hta : ∀ y, y ∈ t ↔ y < n) (y : Nat) (hy : y < n) : ∃ z : Nat, ls[y]? = some (z : Int) ∧ Low ps y z :=
  h.low y (h.all y (List.mem_reverse.2 ((hta y).2 hy)))
end Go.Proofs.YtgijcbipnjmhgabGreat

namespace Go.Proofs.YtgijcbipnjmhgabGreat
open Go.ChangeShapes Go.WideShapes Go.ChangeAt Go.RowKit
set_option linter.unusedVariables false
set_option linter.unusedSimpArgs false

theorem flat_put {α : Type} [Rw α] : ∀ (xs : List α) (i r : Nat) (x y : α) (v : Value), xs[i]? = some x → r < Rw.k α → (Rw.cs x).set r v = Rw.cs y → (flat xs).set (i * Rw.k α + r) v = flat (xs.set i y)
  | [], i, r, x, y, v, h, _, _ => by simp at h
  | z :: t, 0, r, x, y, v, h, hr, hc => by
    simp at h; subst h
    rw [flat_cons, List.set_cons_zero, flat_cons, Nat.zero_mul, Nat.zero_add, List.set_append_left _ _ (by rw [Rw.len]; exact hr), hc]
  | z :: t, i + 1, r, x, y, v, h, hr, hc => by
    have ih := flat_put t i r x y v (by simpa using h) hr hc
    rw [flat_cons, List.set_cons_succ, flat_cons, ← ih, show (i + 1) * Rw.k α + r = (Rw.cs z).length + (i * Rw.k α + r) by rw [Rw.len, Nat.add_mul, Nat.one_mul]; omega, List.set_append_right _ _ (by omega), Nat.add_sub_cancel_left]
/-- a row of pairs of the call's own -/
def Pw (B g n c : Nat) (w : World) (ps : List Pr) : Prop := w.ownsRow B 51 2 (.slice (some ⟨g, 0, none⟩) n c) n (flat ps)
theorem Pw.get {B g n c : Nat} {w : World} {ps : List Pr} (h : Pw B g n c w ps) {i : Nat} {p : Pr} (hp : ps[i]? = some p) : w.cell? ⟨g, i * 2, none⟩ = some (.int .i64 p.a) ∧ w.cell? ⟨g, i * 2 + 1, none⟩ = some (.int .i64 p.b) := by
  have hl : Lies w g 0 ps := Lies.own (α := Pr) h
  have h9 := hl.pr hp
  simp only [Nat.zero_add] at h9
  exact h9
theorem Pw.put {B g n c : Nat} {w : World} {ps : List Pr} (h : Pw B g n c w ps) {i : Nat} {p : Pr} (hp : ps[i]? = some p) (x y : Int) : Pw B g n c ((w.setCell ⟨g, i * 2, none⟩ (.int .i64 x)).setCell ⟨g, i * 2 + 1, none⟩ (.int .i64 y)) (ps.set i ⟨x, y⟩) := by
  have h1 := (World.ownsRow.stored h (i * 2) (.int .i64 x)).1
  have e1 := flat_put ps i 0 p ⟨x, p.b⟩ (.int .i64 x) hp (by decide) rfl
  rw [show i * Rw.k Pr + 0 = i * 2 from rfl] at e1
  rw [e1] at h1
  have h2 := (World.ownsRow.stored h1 (i * 2 + 1) (.int .i64 y)).1
  have e2 := flat_put (ps.set i ⟨x, p.b⟩) i 1 ⟨x, p.b⟩ ⟨x, y⟩ (.int .i64 y) (by rw [List.getElem?_set, if_pos rfl, if_pos (List.getElem?_eq_some_iff.1 hp).1]) (by decide) rfl
  rw [show i * Rw.k Pr + 1 = i * 2 + 1 from rfl] at e2
  rw [e2, List.set_set] at h2
  exact h2
theorem made_pairs (n : Nat) : (madeCells #[Value.int .i64 0, .int .i64 0] (n * 2)).toList = flat (List.replicate n (⟨0, 0⟩ : Pr)) := by
  have h1 : ∀ m, (madeCells #[Value.int .i64 0, .int .i64 0] m).toList = List.replicate m (Value.int .i64 0) := fun m => by
    rw [List.eq_replicate_iff]
    refine ⟨by simp [madeCells], fun b hb => ?_⟩
    simp only [madeCells, Array.toList_map, List.mem_map] at hb
    obtain ⟨i, _, rfl⟩ := hb
    have hi : i % 2 < 2 := Nat.mod_lt _ (by decide)
    show (#[Value.int .i64 0, .int .i64 0] : Array Value)[i % 2]! = _
    generalize i % 2 = j at hi
    match j, hi with
    | 0, _ => rfl
    | 1, _ => rfl
  have h2 : ∀ m, flat (List.replicate m (⟨0, 0⟩ : Pr)) = List.replicate (m * 2) (Value.int .i64 0) := fun m => by
    induction m with
    | zero => rfl
    | succ m ih => rw [List.replicate_succ, flat_cons, ih, show (m + 1) * 2 = 2 + m * 2 by omega, ← List.replicate_append_replicate]; rfl
  rw [h1, h2]

set_option maxRecDepth 1000000 in
set_option maxHeartbeats 1000000 in
theorem turned_any (a : Option Addr) (cap : Nat) (ps : List Pr) (w : World) (hL : LiesA w a ps) (hl : ps.length ≤ 8796093022208) :
    Calls Tryz.prog 19 #[.slice a ps.length cap] w fun e w' => e = .returned (.slice (some ⟨w.heap.size, 0, none⟩) ps.length ps.length) ∧ Below w.heap.size w w' ∧ Lies w' w.heap.size 0 (ps.map swapP) := by
  obtain ⟨i0, hi0, hz0, hz1, hz2⟩ := info_parts infoPr
  have HL : Hid (LiesA w a ps) := hL
  clear hL
  go_enter Tryz.func19, Tryz.ntmps19
  go_wp2_with (at_make; refine wpList_make_full _ rfl _ _ 22 rfl w.heap.size 51 i0 (.agg #[.int .i64 0, .int .i64 0]) 2 Tryz.underlying22 hi0 hz0 hz1 _ _ _ _ ps.length rfl rfl rfl rfl (by rw [hz2]; omega) (by unfold maxLen; omega) (Nat.le_refl _) ?_; intro w1 hown1 hgr1; have P1 : Hid (Pw w.heap.size w.heap.size ps.length ps.length w1 (List.replicate ps.length ⟨0, 0⟩)) := (by have h9 := made_pairs ps.length; rw [show (Value.agg #[.int .i64 0, .int .i64 0]).cells = #[.int .i64 0, .int .i64 0] by rfl] at hown1; rw [h9] at hown1; exact hown1); have HB1 : Hid (Below w.heap.size w w1 ∧ w.heap.size ≤ w1.heap.size) := ⟨(Below.refl _ w).grown hgr1 (Nat.le_refl _) (fun k h => by cases h), hgr1.size⟩; clear hown1 hgr1)
  go_loopg [11] ps.length (fun gk si wr => ∃ (k : Nat) (qs : List Pr), gk = ps.length - k ∧ si = .int .i64 (k : Int) ∧ k ≤ ps.length ∧ Pw w.heap.size w.heap.size ps.length ps.length wr qs ∧ qs.length = ps.length ∧ (∀ i p, i < k → ps[i]? = some p → qs[i]? = some (swapP p)) ∧ Below w.heap.size w wr ∧ w.heap.size ≤ wr.heap.size)
  case atStart => exact ⟨0, _, rfl, rfl, Nat.zero_le _, P1.out, by simp, fun i p h => absurd h (Nat.not_lt_zero _), HB1.out.1, HB1.out.2⟩
  case round =>
    obtain ⟨k, qs, hgk, rfl, hk, hP, hql, hq, hb, hs⟩ := hrel
    clear P1 HB1
    have PP : Hid (Pw w.heap.size w.heap.size ps.length ps.length wr qs) := hP
    have HB : Hid (Below w.heap.size w wr ∧ w.heap.size ≤ wr.heap.size) := ⟨hb, hs⟩
    have HQ : Hid (qs.length = ps.length ∧ ∀ i p, i < k → ps[i]? = some p → qs[i]? = some (swapP p)) := ⟨hql, hq⟩
    clear hP hql hq hb hs
    by_cases hkp : k < ps.length
    · have hkp' : (k : Int) < (ps.length : Int) := by omega
      obtain ⟨p, hp⟩ : ∃ p, ps[k]? = some p := ⟨_, List.getElem?_eq_getElem hkp⟩
      obtain ⟨b, o, ha, hLi⟩ : ∃ b o, a = some ⟨b, o, none⟩ ∧ Lies w b o ps := by
        rcases HL.out with h | h
        · rw [h] at hkp; exact absurd hkp (Nat.not_lt_zero _)
        · exact h
      subst ha
      obtain ⟨pa, pb⟩ := p
      obtain ⟨d0, d1⟩ := (hLi.below HB.out.1 hLi.1).pr hp
      simp only at d0 d1
      have HP : Hid (ps[k]? = some ⟨pa, pb⟩) := hp
      clear hp hLi
      go_upto_region 5 with fail
      obtain ⟨w2, e2, hb2, hs2, B2⟩ := bx1 wr #[.int .i64 pa, .int .i64 pb] 51
      rw [e2]
      obtain ⟨q, hq⟩ : ∃ q, wr.heap.size = q := ⟨_, rfl⟩
      rw [hq] at B2 ⊢
      have P2 : Hid (Pw w.heap.size w.heap.size ps.length ps.length w2 qs) := ownsRow_below PP.out hb2 (Nat.le_refl _)
      have HB2 : Hid (Below w.heap.size w w2 ∧ w.heap.size ≤ w2.heap.size) := ⟨HB.out.1.trans (hb2.mono HB.out.2), Nat.le_trans HB.out.2 hb2.size⟩
      obtain ⟨r, hr⟩ : ∃ r, qs[k]? = some r := ⟨_, List.getElem?_eq_getElem (by rw [HQ.out.1]; exact hkp)⟩
      have HR : Hid (qs[k]? = some r) := hr
      obtain ⟨f0, f1⟩ := P2.out.get hr
      have z0 : w2.frozen? ⟨w.heap.size, k * 2, none⟩ = false := World.ownsRow.frozenAt P2.out (k * 2)
      have z1 : w2.frozen? ⟨w.heap.size, k * 2 + 1, none⟩ = false := World.ownsRow.frozenAt P2.out (k * 2 + 1)
      have x0 : w2.cell? ⟨q, 0, none⟩ = some (.int .i64 pa) := B2.cell 0
      have x1 : w2.cell? ⟨q, 1, none⟩ = some (.int .i64 pb) := B2.cell 1
      have hk0 : (0 : Int) ≤ (k : Int) := by omega
      clear e2 hb2 hs2 B2 hr d0 d1
      have P9 : Hid (Pw w.heap.size w.heap.size ps.length ps.length ((w2.setCell ⟨w.heap.size, k * 2, none⟩ (.int .i64 pb)).setCell ⟨w.heap.size, k * 2 + 1, none⟩ (.int .i64 pa)) (qs.set k ⟨pb, pa⟩)) := P2.out.put HR.out pb pa
      have B9 : Hid (Below w.heap.size w ((w2.setCell ⟨w.heap.size, k * 2, none⟩ (.int .i64 pb)).setCell ⟨w.heap.size, k * 2 + 1, none⟩ (.int .i64 pa))) := (HB2.out.1.setCell (p := ⟨w.heap.size, k * 2, none⟩) (Nat.le_refl _) _).setCell (p := ⟨w.heap.size, k * 2 + 1, none⟩) (Nat.le_refl _) _
      go_wp2
      go_roundg (ps.length - (k + 1))
      case measure => omega
      case rel =>
        refine ⟨k + 1, _, rfl, by go_num, by omega, P9.out, by rw [List.length_set]; exact HQ.out.1, fun i p hi hp => ?_, B9.out, by simpa using HB2.out.2⟩
        rw [List.getElem?_set]
        by_cases hik : k = i
        · subst hik
          rw [if_pos rfl, if_pos (by rw [HQ.out.1]; exact hkp)]
          rw [HP.out] at hp
          cases hp
          rfl
        · rw [if_neg hik]
          exact HQ.out.2 i p (by omega) hp
    · have hkp' : ¬ (k : Int) < (ps.length : Int) := by omega
      have hqs : qs = ps.map swapP := by
        apply List.ext_getElem?
        intro i
        rw [List.getElem?_map]
        by_cases hi : i < ps.length
        · rw [HQ.out.2 i _ (by omega) (List.getElem?_eq_getElem hi), List.getElem?_eq_getElem hi]
          rfl
        · rw [List.getElem?_eq_none (by rw [HQ.out.1]; omega), List.getElem?_eq_none (by omega)]
          rfl
      have LL : Hid (Lies wr w.heap.size 0 (ps.map swapP)) := by unfold Hid; rw [← hqs]; exact Lies.own (α := Pr) PP.out
      clear hqs
      go_wp2
      go_ret
      exact ⟨rfl, HB.out.1, LL.out⟩
end Go.Proofs.YtgijcbipnjmhgabGreat
