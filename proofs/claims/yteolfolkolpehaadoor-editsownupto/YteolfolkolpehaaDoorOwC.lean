import Derived.Test.YteolfolkolpehaaDoorShf3
import Derived.Test.YteolfolkolpehaaDoorSh
namespace Go.Proofs.YteolfolkolpehaaDoor
open Go.ChangeShapes Go.WideShapes Go.ChangeAt Go.RowKit
set_option linter.unusedVariables false
set_option linter.unusedSimpArgs false

theorem Sti.n {rs us : List Rr} (h : Sti rs us) : ∀ r ∈ rs, r.n ≤ 1000000 := fun r hr => by
  obtain ⟨i, hi⟩ := List.getElem?_of_mem hr
  have hl := (List.getElem?_eq_some_iff.1 hi).1
  obtain ⟨u, hu⟩ : ∃ u, us[i]? = some u := ⟨_, List.getElem?_eq_getElem (by have := h.1; omega)⟩
  obtain ⟨E, h1, -, -, -, h2⟩ := h.2 i r u hi hu
  omega
theorem vn_at {ts rs : List Rr} (h : ts.map vn = rs.map vn) {j : Nat} {t : Rr} (ht : ts[j]? = some t) : ∃ r, rs[j]? = some r ∧ r.n = t.n := by
  have h1 : (ts.map vn)[j]? = some (vn t) := by rw [List.getElem?_map, ht]; rfl
  rw [h, List.getElem?_map] at h1
  obtain ⟨q, hq, he⟩ := Option.map_eq_some_iff.1 h1
  exact ⟨q, hq, congrArg Prod.snd he⟩

theorem marked0_any (b B : Nat) (w : World) (V U : Value) (ts us : List Rr) (hbx : Bx w b (bxA V U) 54) (hS : She 45 22 3 B w V U ts us) (hM : Mkd 0 ts us) (hts : ts.length ≤ 1000) :
    Calls Tryd.prog 55 #[.pointer (some ⟨b, 0, none⟩), .int .i64 0] w fun e w' => e = .returned (.bool true) ∧ Below w.heap.size w w' := marked_any b B 0 w V U ts us hbx hS hM hts (by decide)
theorem marked70_any (b B : Nat) (w : World) (V U : Value) (ts us : List Rr) (hbx : Bx w b (bxA V U) 54) (hS : She 45 22 3 B w V U ts us) (hM : Mkd 70 ts us) (hts : ts.length ≤ 1000) :
    Calls Tryd.prog 55 #[.pointer (some ⟨b, 0, none⟩), .int .i64 70] w fun e w' => e = .returned (.bool true) ∧ Below w.heap.size w w' := marked_any b B 70 w V U ts us hbx hS hM hts (by decide)

set_option maxRecDepth 1000000 in
set_option maxHeartbeats 2000000 in
/-- what is on the shelf is the asker's own -/
theorem own_any (b B : Nat) (w : World) (V U : Value) (rs us : List Rr) (hbx : Bx w b (bxA V U) 54) (hS : She 45 22 3 B w V U rs us) (hE : Sti rs us) (hrs : rs.length ≤ 1000) (hbB : b < B) (hBw : B ≤ w.heap.size) :
    Calls Tryd.prog 26 #[.pointer (some ⟨b, 0, none⟩)] w fun e w' => e = .returned (.bool true) ∧ Below b w w' := by
  have HX : Hid (Bx w b (bxA V U) 54) := hbx
  have HS : Hid (She 45 22 3 B w V U rs us) := hS
  have HE : Hid (Sti rs us) := hE
  clear hbx hS hE
  go_enter Tryd.func26, Tryd.ntmps26
  go_wp2_with (first
    | (go_at_call 53; (with_reducible refine (still_any b B _ V U rs us HX.out HS.out HE.out hrs).mono ?_); rintro e w1 ⟨rfl, hb1⟩; have X1 : Hid (Bx w1 b (bxA V U) 54) := HX.out.below hb1 HX.out.lt; have S1 : Hid (She 45 22 3 B w1 V U rs us) := HS.out.below hb1; have B1 : Hid (Below b w w1) := hb1.mono (by omega); have Z1 : Hid (B ≤ w1.heap.size) := Nat.le_trans hBw hb1.size; clear hb1)
    | (go_at_call 54; (with_reducible refine (fill_any b B _ V U rs us X1.out S1.out hrs HE.out.n hbB).mono ?_); rintro e w2 ⟨⟨x, rfl⟩, ts, hx2, hs2, hv2, hm2, hb2⟩; have X2 : Hid (Bx w2 b (bxA V U) 54) := hx2; have S2 : Hid (She 45 22 3 B w2 V U ts us) := hs2; have V2 : Hid (ts.map vn = rs.map vn) := hv2; have M2 : Hid (∀ j t, ts[j]? = some t → t.xs = flat (List.replicate t.n (mkE j))) := hm2; have B2 : Hid (Below b w w2) := B1.out.trans hb2; have Z2 : Hid (B ≤ w2.heap.size) := Nat.le_trans Z1.out hb2.size; have K2 : Hid (Mkd 0 ts us) := ⟨(vn_len hv2).trans HE.out.1, fun j t u ht hu => (by obtain ⟨r, hr, hn⟩ := vn_at hv2 ht; obtain ⟨E, q1, -, q3, -, q5⟩ := HE.out.2 j r u hr hu; exact ⟨by omega, hm2 j t ht, by omega⟩)⟩; have N2 : Hid (∀ r ∈ ts, r.n ≤ 1000000) := (fun t ht => by obtain ⟨j, hj⟩ := List.getElem?_of_mem ht; obtain ⟨r, hr, hn⟩ := vn_at hv2 hj; have := HE.out.n r (List.mem_of_getElem? hr); omega); have L2 : Hid (ts.length ≤ 1000) := (by unfold Hid; rw [vn_len hv2]; exact hrs); have G2 : Hid (Grn 0 0 ts ts) := ⟨rfl, fun j r t hr ht => (by rw [hr] at ht; cases ht; exact ⟨by simp, hm2 j r hr⟩)⟩; clear hx2 hs2 hv2 hm2 hb2)
    | (go_at_call 55; (with_reducible refine (marked0_any b B _ V U ts us X2.out S2.out K2.out L2.out).mono ?_); rintro e w3 ⟨rfl, hb3⟩; have X3 : Hid (Bx w3 b (bxA V U) 54) := X2.out.below hb3 X2.out.lt; have S3 : Hid (She 45 22 3 B w3 V U ts us) := S2.out.below hb3; have B3 : Hid (Below b w w3) := B2.out.trans (hb3.mono (by have := Z2.out; omega)); have Z3 : Hid (B ≤ w3.heap.size) := Nat.le_trans Z2.out hb3.size; clear hb3)
    | (go_at_call 56; (with_reducible refine (grow_any b B _ V U ts us X3.out S3.out L2.out N2.out G2.out hbB Z3.out).mono ?_); rintro e w4 ⟨⟨x, rfl⟩, ys, hx4, hs4, hg4, hb4⟩; have X4 : Hid (Bx w4 b (bxA V U) 54) := hx4; have S4 : Hid (She 45 22 3 B w4 V U ys us) := hs4; have B4 : Hid (Below b w w4) := B3.out.trans hb4; have Z4 : Hid (B ≤ w4.heap.size) := Nat.le_trans Z3.out hb4.size; have L4 : Hid (ys.length ≤ 1000) := (by unfold Hid; rw [hg4.1]; exact L2.out); have K4 : Hid (Mkd 70 ys us) := ⟨hg4.1.trans K2.out.1, fun j t u ht hu => (by obtain ⟨r, hr⟩ : ∃ r, ts[j]? = some r := ⟨_, List.getElem?_eq_getElem (by have := (List.getElem?_eq_some_iff.1 ht).1; have := hg4.1; omega)⟩; obtain ⟨q1, q2⟩ := hg4.2 j r t hr ht; obtain ⟨p1, -, p3⟩ := K2.out.2 j r u hr hu; have p4 := N2.out r (List.mem_of_getElem? hr); rw [if_neg (Nat.not_lt_zero _)] at q1; exact ⟨by omega, q2, by omega⟩)⟩; clear hx4 hs4 hg4 hb4)
    | (go_at_call 55; (with_reducible refine (marked70_any b B _ V U ys us X4.out S4.out K4.out L4.out).mono ?_); rintro e w5 ⟨rfl, hb5⟩; have B5 : Hid (Below b w w5) := B4.out.trans (hb5.mono (by have := Z4.out; omega)); clear hb5))
  go_ret
  exact ⟨rfl, B5.out⟩
end Go.Proofs.YteolfolkolpehaaDoor

namespace Go.Proofs.YteolfolkolpehaaDoor
open Go.ChangeShapes Go.WideShapes Go.ChangeAt Go.RowKit
set_option linter.unusedVariables false

/-- the shelf, and two lent lists beside it -/
structure Ow (b B n : Nat) (w0 w : World) (V U : Value) (rs us : List Rr) (gc gd : Nat) (xa xb : List Ed) : Prop where
  box : Bx w b (bxA V U) 54
  she : She 45 22 3 B w V U rs us
  sti : Sti rs us
  len : rs.length = n
  low : ∀ g, g < B → g ≠ b → w.heap[g]? = w0.heap[g]?
  bel : Below b w0 w
  sz : B ≤ w.heap.size
  bB : b < B
  rc : w.ownsRow B 45 3 (.slice (some ⟨gc, 0, none⟩) (xa.length + 3) (xa.length + 3)) (xa.length + 3) (flat (xa ++ marks))
  rd : w.ownsRow B 45 3 (.slice (some ⟨gd, 0, none⟩) (xb.length + 3) (xb.length + 3)) (xb.length + 3) (flat (xb ++ marks))
  ac : ∀ q ∈ rs ++ us, q.v.ownBlock ≠ some gc ∧ q.v.ownBlock ≠ some gd
/-- a list that waits to be put on the shelf -/
structure Pd (B : Nat) (w : World) (rs us : List Rr) (gc gd : Nat) (v : Value) (E : List Ed) : Prop where
  own : w.ownsRow B 45 3 v E.length (flat E)
  apt : ∀ q ∈ rs ++ us, ∀ g, q.v.ownBlock = some g → v.ownBlock ≠ some g
  cd : v.ownBlock ≠ some gc ∧ v.ownBlock ≠ some gd
theorem Ow.below {b B n : Nat} {w0 w w' : World} {V U : Value} {rs us : List Rr} {gc gd : Nat} {xa xb : List Ed} (h : Ow b B n w0 w V U rs us gc gd xa xb) (hb : Below w.heap.size w w') : Ow b B n w0 w' V U rs us gc gd xa xb :=
  ⟨h.box.below hb h.box.lt, h.she.below hb, h.sti, h.len, fun g hg hne => (hb.block g (Nat.lt_of_lt_of_le hg h.sz)).trans (h.low g hg hne), h.bel.trans (hb.mono (by have := h.sz; have := h.bB; omega)), Nat.le_trans h.sz hb.size, h.bB, own_belowR h.rc hb (Nat.le_refl _), own_belowR h.rd hb (Nat.le_refl _), h.ac⟩
theorem Pd.below {B : Nat} {w w' : World} {rs us : List Rr} {gc gd : Nat} {v : Value} {E : List Ed} (h : Pd B w rs us gc gd v E) (hb : Below w.heap.size w w') : Pd B w' rs us gc gd v E :=
  ⟨own_belowR h.own hb (Nat.le_refl _), h.apt, h.cd⟩
/-- a list that a call has made -/
theorem Pd.new {b B n : Nat} {w0 w w' : World} {V U : Value} {rs us : List Rr} {gc gd : Nat} {xa xb : List Ed} (h : Ow b B n w0 w V U rs us gc gd xa xb) {v : Value} {E : List Ed} (ho : w'.ownsRow w.heap.size 45 3 v E.length (flat E)) : Pd B w' rs us gc gd v E :=
  ⟨own_low ho h.sz, fun q hq g hg hv => by have h1 := ((h.she.each q hq).lt g hg).2; have h2 := (ho.lt g hv).1; omega,
    ⟨fun hv => by have h1 := (h.rc.lt gc rfl).2; have h2 := (ho.lt gc hv).1; omega, fun hv => by have h1 := (h.rd.lt gd rfl).2; have h2 := (ho.lt gd hv).1; omega⟩⟩
theorem own_keep {b B' : Nat} {w w' : World} {V U : Value} (hk : Frm b V U w w') {e : TypeId} {k n : Nat} {v : Value} {xs : List Value} (h : w.ownsRow B' e k v n xs) (hb : b < B') (hV : ∀ g, V.ownBlock = some g → v.ownBlock ≠ some g) (hU : ∀ g, U.ownBlock = some g → v.ownBlock ≠ some g) : w'.ownsRow B' e k v n xs := by
  refine ⟨h.1, ?_⟩
  rcases h.2 with h2 | ⟨g, cap, cur, hv, hg, hh, r⟩
  · exact .inl h2
  · refine .inr ⟨g, cap, cur, hv, hg, ?_, r⟩
    rw [hk.keep g (lt_of_block hh) (by omega) (fun h1 => hV g h1 (by rw [hv]; rfl)) (fun h1 => hU g h1 (by rw [hv]; rfl))]
    exact hh
/-- the list is put on the shelf -/
theorem Ow.put {b B n : Nat} {w0 w w' : World} {V U V' U' : Value} {rs us : List Rr} {gc gd : Nat} {xa xb : List Ed} (h : Ow b B n w0 w V U rs us gc gd xa xb) {v : Value} {E : List Ed} (hp : Pd B w rs us gc gd v E) (hE : E.length ≤ 1000000) {u : Rr} (hx : Bx w' b (bxA V' U') 54) (hs : She 45 22 3 B w' V' U' (rs ++ [⟨v, E.length, flat E⟩]) (us ++ [u])) (hn : u.n = E.length) (hxs : u.xs = flat E) (hu : ∀ g, u.v.ownBlock = some g → w.heap.size ≤ g) (hk : Frm b V U w w') (hz : w.heap.size ≤ w'.heap.size) :
    Ow b B (n + 1) w0 w' V' U' (rs ++ [⟨v, E.length, flat E⟩]) (us ++ [u]) gc gd xa xb := by
  have hVr : ∀ {v : Value} {m : Nat} {xs : List Value}, w.ownsRow B 45 3 v m xs → (∀ g, V.ownBlock = some g → v.ownBlock ≠ some g) ∧ ∀ g, U.ownBlock = some g → v.ownBlock ≠ some g := fun ho => ⟨fun g hg => own_otherR ho h.she.outV (by decide) hg, fun g hg => own_otherR ho h.she.outU (by decide) hg⟩
  have hVl : ∀ g, V.ownBlock = some g → B ≤ g := fun g hg => (h.she.outV.lt g hg).1
  have hUl : ∀ g, U.ownBlock = some g → B ≤ g := fun g hg => (h.she.outU.lt g hg).1
  refine ⟨hx, hs, ⟨by rw [List.length_append, List.length_append, h.sti.1]; rfl, fun i r q hr hq => ?_⟩, by rw [List.length_append, h.len]; rfl, fun g hg hne => ?_, h.bel.trans hk.bel, Nat.le_trans h.sz hz, h.bB, own_keep hk h.rc h.bB (hVr h.rc).1 (hVr h.rc).2, own_keep hk h.rd h.bB (hVr h.rd).1 (hVr h.rd).2, fun q hq => ?_⟩
  · by_cases hi : i < rs.length
    · rw [List.getElem?_append_left hi] at hr
      rw [List.getElem?_append_left (by have := h.sti.1; omega)] at hq
      exact h.sti.2 i r q hr hq
    · have h1 := (List.getElem?_eq_some_iff.1 hr).1
      rw [List.length_append, List.length_singleton] at h1
      have h2 : i = rs.length := by omega
      rw [List.getElem?_append_right (by omega), h2, Nat.sub_self] at hr
      rw [List.getElem?_append_right (by have := h.sti.1; omega), h2, h.sti.1, Nat.sub_self] at hq
      have hr' := (Option.some.inj hr).symm
      have hq' := (Option.some.inj hq).symm
      subst hr' hq'
      exact ⟨E, rfl, rfl, hn, hxs, hE⟩
  · rw [hk.keep g (Nat.lt_of_lt_of_le hg h.sz) hne (fun h1 => by have := hVl g h1; omega) (fun h1 => by have := hUl g h1; omega)]
    exact h.low g hg hne
  · rcases List.mem_append.1 hq with hq | hq
    · rcases List.mem_append.1 hq with hq | hq
      · exact h.ac q (List.mem_append_left _ hq)
      · rw [List.mem_singleton] at hq; subst hq; exact hp.cd
    · rcases List.mem_append.1 hq with hq | hq
      · exact h.ac q (List.mem_append_right _ hq)
      · rw [List.mem_singleton] at hq
        subst hq
        exact ⟨fun h1 => by have h2 := hu gc h1; have h3 := (h.rc.lt gc rfl).2; omega, fun h1 => by have h2 := hu gd h1; have h3 := (h.rd.lt gd rfl).2; omega⟩
/-- .. and another one goes on waiting -/
theorem Pd.put {b B n : Nat} {w0 w w' : World} {V U : Value} {rs us : List Rr} {gc gd : Nat} {xa xb : List Ed} (h : Ow b B n w0 w V U rs us gc gd xa xb) {v v' : Value} {E E' : List Ed} (hp : Pd B w rs us gc gd v' E') (hvv : ∀ g, v.ownBlock = some g → v'.ownBlock ≠ some g) {u : Rr} (hu : ∀ g, u.v.ownBlock = some g → w.heap.size ≤ g) (hk : Frm b V U w w') :
    Pd B w' (rs ++ [⟨v, E.length, flat E⟩]) (us ++ [u]) gc gd v' E' := by
  refine ⟨own_keep hk hp.own h.bB (fun g hg => own_otherR hp.own h.she.outV (by decide) hg) (fun g hg => own_otherR hp.own h.she.outU (by decide) hg), fun q hq g hg => ?_, hp.cd⟩
  rcases List.mem_append.1 hq with hq | hq
  · rcases List.mem_append.1 hq with hq | hq
    · exact hp.apt q (List.mem_append_left _ hq) g hg
    · rw [List.mem_singleton] at hq; subst hq; exact hvv g hg
  · rcases List.mem_append.1 hq with hq | hq
    · exact hp.apt q (List.mem_append_right _ hq) g hg
    · rw [List.mem_singleton] at hq
      subst hq
      intro h1
      have h2 := hu g hg
      have h3 := (hp.own.lt g h1).2
      omega
/-- two lists made one behind the other -/
theorem new_apart {w w' : World} {B m m' : Nat} {v v' : Value} {xs xs' : List Value} (h : w.ownsRow B 45 3 v m xs) (h' : w'.ownsRow w.heap.size 45 3 v' m' xs') : ∀ g, v.ownBlock = some g → v'.ownBlock ≠ some g := fun g hg hg' => by
  have h1 := (h.lt g hg).2
  have h2 := (h'.lt g hg').1
  omega
/-- Shelf.Edits, in these words -/
theorem put_any {b B n : Nat} {w0 w : World} {V U : Value} {rs us : List Rr} {gc gd : Nat} {xa xb : List Ed} (h : Ow b B n w0 w V U rs us gc gd xa xb) {v : Value} {E : List Ed} (hp : Pd B w rs us gc gd v E) (hE : E.length ≤ 1000000) (hn : n ≤ 1000) :
    Calls Tryd.prog 23 #[.pointer (some ⟨b, 0, none⟩), v] w fun e w' => (∃ x, e = .returned x) ∧ ∃ V' U' u, Ow b B (n + 1) w0 w' V' U' (rs ++ [⟨v, E.length, flat E⟩]) (us ++ [u]) gc gd xa xb ∧ (∀ g, u.v.ownBlock = some g → w.heap.size ≤ g) ∧ Frm b V U w w' := by
  refine (shelfEdits_any b B w V U rs us ⟨v, E.length, flat E⟩ h.box h.she hp.own (fun q hq g hg hv => hp.apt q hq g hg hv) h.bB h.sz (flat_oneCell _) hE (by rw [h.len]; exact hn) (by rw [← h.sti.1, h.len]; exact hn)).mono ?_
  rintro e w' ⟨he, V', U', u, hx, hs, h1, h2, h3, hk⟩
  exact ⟨he, V', U', u, h.put hp hE hx hs h1 h2 h3 hk hk.bel.size, h3, hk⟩
end Go.Proofs.YteolfolkolpehaaDoor

namespace Go.Proofs.YteolfolkolpehaaDoor
open Go.ChangeShapes Go.WideShapes Go.ChangeAt Go.RowKit
set_option linter.unusedVariables false

/-- the shelf alone, at a turn's beginning and end -/
structure Ow0 (b B n : Nat) (w0 w : World) (V U : Value) (rs us : List Rr) : Prop where
  box : Bx w b (bxA V U) 54
  she : She 45 22 3 B w V U rs us
  sti : Sti rs us
  len : rs.length = n
  low : ∀ g, g < B → g ≠ b → w.heap[g]? = w0.heap[g]?
  bel : Below b w0 w
  sz : B ≤ w.heap.size
  bB : b < B
theorem Ow.zero {b B n : Nat} {w0 w : World} {V U : Value} {rs us : List Rr} {gc gd : Nat} {xa xb : List Ed} (h : Ow b B n w0 w V U rs us gc gd xa xb) : Ow0 b B n w0 w V U rs us := ⟨h.box, h.she, h.sti, h.len, h.low, h.bel, h.sz, h.bB⟩
theorem Ow0.below {b B n : Nat} {w0 w w' : World} {V U : Value} {rs us : List Rr} (h : Ow0 b B n w0 w V U rs us) (hb : Below w.heap.size w w') : Ow0 b B n w0 w' V U rs us :=
  ⟨h.box.below hb h.box.lt, h.she.below hb, h.sti, h.len, fun g hg hne => (hb.block g (Nat.lt_of_lt_of_le hg h.sz)).trans (h.low g hg hne), h.bel.trans (hb.mono (by have := h.sz; have := h.bB; omega)), Nat.le_trans h.sz hb.size, h.bB⟩
/-- two lists are lent -/
theorem Ow0.lent {b B n : Nat} {w0 w w1 w2 : World} {V U : Value} {rs us : List Rr} {xa xb : List Ed} (h : Ow0 b B n w0 w V U rs us) (h1 : Below w.heap.size w w1) (r1 : w1.ownsRow w.heap.size 45 3 (.slice (some ⟨w.heap.size, 0, none⟩) (xa.length + 3) (xa.length + 3)) (xa.length + 3) (flat (xa ++ marks))) (h2 : Below w1.heap.size w1 w2) (r2 : w2.ownsRow w1.heap.size 45 3 (.slice (some ⟨w1.heap.size, 0, none⟩) (xb.length + 3) (xb.length + 3)) (xb.length + 3) (flat (xb ++ marks))) :
    Ow b B n w0 w2 V U rs us w.heap.size w1.heap.size xa xb := by
  have h' := (h.below h1).below h2
  have hs1 := h1.size
  refine ⟨h'.box, h'.she, h'.sti, h'.len, h'.low, h'.bel, h'.sz, h'.bB, own_belowR (own_low r1 h.sz) h2 (Nat.le_refl _), own_low r2 (Nat.le_trans h.sz hs1), fun q hq => ?_⟩
  have hlt := (h.she.each q hq).lt
  exact ⟨fun h3 => by have := (hlt _ h3).2; omega, fun h3 => by have := (hlt _ h3).2; omega⟩
/-- what was there ahead of the turns is there still -/
theorem Ow0.keepA {b B n : Nat} {w0 w : World} {V U : Value} {rs us : List Rr} (h : Ow0 b B n w0 w V U rs us) (hB : B = w0.heap.size) (hx0 : Bx w0 b (bxA (.slice none 0 0) (.slice none 0 0)) 54) {a : Option Addr} {L : List Ed} (he : EdsA w0 a L) : EdsA w a L := by
  rcases he with he | ⟨g, o, ha, hE⟩
  · exact .inl he
  · cases L with
    | nil => exact .inl rfl
    | cons e r =>
      right
      have hg : g ≠ b := fun hgb => by
        have h1 := (hE.2 0 e rfl).1
        rw [hgb, hx0.cell] at h1
        have h2 : bxA (.slice none 0 0) (.slice none 0 0) = Array.replicate 12 (.slice none 0 0) := rfl
        rw [h2, Array.getElem?_replicate] at h1
        split at h1
        · cases h1
        · cases h1
      have hgl : g < B := by rw [hB]; exact hE.1
      have hblk := h.low g hgl hg
      have hcell : ∀ i, w.cell? ⟨g, i, none⟩ = w0.cell? ⟨g, i, none⟩ := fun i => by unfold World.cell?; rw [hblk]
      refine ⟨g, o, ha, Nat.lt_of_lt_of_le hgl h.sz, fun i e he => ?_⟩
      obtain ⟨q1, q2, q3⟩ := hE.2 i e he
      exact ⟨(hcell _).trans q1, (hcell _).trans q2, (hcell _).trans q3⟩
theorem She.other {e te : TypeId} {k B : Nat} {w : World} {V U : Value} {rs us : List Rr} (h : She e te k B w V U rs us) {g : Nat} (hq : ∀ q ∈ rs ++ us, q.v.ownBlock ≠ some g) (hV : V.ownBlock ≠ some g) (hU : U.ownBlock ≠ some g) (m : Nat) (x : Value) : She e te k B (w.setCell ⟨g, m, none⟩ x) V U rs us :=
  ⟨ownsRow_setCell_other h.outV (a := ⟨g, m, none⟩) hV x, ownsRow_setCell_other h.outU (a := ⟨g, m, none⟩) hU x, fun r hr => ownsRow_setCell_other (h.each r hr) (a := ⟨g, m, none⟩) (hq r hr) x, h.apart, h.outs⟩
/-- a lent list, whatever is in it by now -/
structure Ln (B : Nat) (w : World) (rs us : List Rr) (g n : Nat) : Prop where
  own : ∃ ys, w.ownsRow B 45 3 (.slice (some ⟨g, 0, none⟩) (n + 3) (n + 3)) (n + 3) ys
  ac : ∀ q ∈ rs ++ us, q.v.ownBlock ≠ some g
theorem Ow0.write {b B n : Nat} {w0 w : World} {V U : Value} {rs us : List Rr} (h : Ow0 b B n w0 w V U rs us) {g m : Nat} (hl : Ln B w rs us g m) (i : Nat) (x : Value) : Ow0 b B n w0 (w.setCell ⟨g, i, none⟩ x) V U rs us := by
  obtain ⟨ys, ho⟩ := hl.own
  have hgl := ho.lt g rfl
  have hbB := h.bB
  refine ⟨h.box.other ⟨g, i, none⟩ (by show b ≠ g; omega) x, h.she.other hl.ac (own_otherR h.she.outV ho (by decide) rfl) (own_otherR h.she.outU ho (by decide) rfl) i x, h.sti, h.len, fun g' hg' hne => ?_, h.bel.setCell (p := ⟨g, i, none⟩) (by show b ≤ g; omega) _, by have := h.sz; simpa using this, h.bB⟩
  rw [heap_setCell_other _ _ _ _ (by show g' ≠ g; omega)]
  exact h.low g' hg' hne
theorem Ln.write {B : Nat} {w : World} {rs us : List Rr} {g m : Nat} (hl : Ln B w rs us g m) (i : Nat) (x : Value) : Ln B (w.setCell ⟨g, i, none⟩ x) rs us g m := by
  obtain ⟨ys, ho⟩ := hl.own
  exact ⟨⟨_, (ho.stored i x).1⟩, hl.ac⟩
theorem Ln.other {B : Nat} {w : World} {rs us : List Rr} {g g' m : Nat} (hl : Ln B w rs us g m) (hne : g ≠ g') (i : Nat) (x : Value) : Ln B (w.setCell ⟨g', i, none⟩ x) rs us g m := by
  obtain ⟨ys, ho⟩ := hl.own
  exact ⟨⟨ys, ownsRow_setCell_other ho (a := ⟨g', i, none⟩) (fun h => hne (Option.some.inj h)) x⟩, hl.ac⟩
theorem Ln.at {B : Nat} {w : World} {rs us : List Rr} {g m : Nat} (hl : Ln B w rs us g m) {i : Nat} (hi : i < m) : (∃ u, w.cell? ⟨g, i * 3, none⟩ = some u) ∧ (∃ u, w.cell? ⟨g, i * 3 + 1, none⟩ = some u) ∧ (∃ u, w.cell? ⟨g, i * 3 + 2, none⟩ = some u) ∧ ∀ j, w.frozen? ⟨g, j, none⟩ = false := by
  obtain ⟨ys, ho⟩ := hl.own
  have hl3 := ho.1
  have key : ∀ j, j < ys.length → ∃ u, w.cell? ⟨g, j, none⟩ = some u := fun j hj => by
    have := ho.cells rfl j _ (List.getElem?_eq_getElem hj)
    rw [addr_addR] at this
    exact ⟨_, this⟩
  exact ⟨key _ (by omega), key _ (by omega), key _ (by omega), fun j => ho.frozenAt j⟩
theorem Ow.lnC {b B n : Nat} {w0 w : World} {V U : Value} {rs us : List Rr} {gc gd : Nat} {xa xb : List Ed} (h : Ow b B n w0 w V U rs us gc gd xa xb) : Ln B w rs us gc xa.length ∧ Ln B w rs us gd xb.length :=
  ⟨⟨⟨_, h.rc⟩, fun q hq => (h.ac q hq).1⟩, ⟨⟨_, h.rd⟩, fun q hq => (h.ac q hq).2⟩⟩
/-- the lent lists, as lists -/
theorem Ow.edsC {b B n : Nat} {w0 w : World} {V U : Value} {rs us : List Rr} {gc gd : Nat} {xa xb : List Ed} (h : Ow b B n w0 w V U rs us gc gd xa xb) : Eds w gc 0 (xa ++ marks) ∧ Eds w gd 0 (xb ++ marks) := ⟨Eds.own h.rc, Eds.own h.rd⟩
theorem Eds.frontC {w : World} {g o : Nat} {xs ys : List Ed} (h : Eds w g o (xs ++ ys)) : Eds w g o xs := ⟨h.1, fun i e he => h.2 i e (by rw [List.getElem?_append_left (List.getElem?_eq_some_iff.1 he).1]; exact he)⟩
end Go.Proofs.YteolfolkolpehaaDoor
