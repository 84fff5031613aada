import Derived.Test.YteolfolkolpehaaDoorShf4
import Derived.Test.YteolfolkolpehaaDoorW5
namespace Go.Proofs.YteolfolkolpehaaDoor
open Go.ChangeShapes Go.WideShapes Go.ChangeAt Go.RowKit
set_option linter.unusedVariables false

/-- the shelf, and two lent lists beside it -/
structure Ow (b B n : Nat) (w0 w : World) (V U : Value) (rs us : List Rr) (gc gd : Nat) (xa xb : List Ed) : Prop where
  box : Bx w b (bxA V U) 54
  she : She 45 22 3 B w V U rs us
  sti : Sti rs us
  len : rs.length = n
  low : ∀ g, g < B → g ≠ b → w.heap[g]? = w0.heap[g]?
  bel : Below b w0 w
  sz : B ≤ w.heap.size
  bB : b < B
  rc : w.ownsRow B 45 3 (.slice (some ⟨gc, 0, none⟩) (xa.length + 3) (xa.length + 3)) (xa.length + 3) (flat (xa ++ marks))
  rd : w.ownsRow B 45 3 (.slice (some ⟨gd, 0, none⟩) (xb.length + 3) (xb.length + 3)) (xb.length + 3) (flat (xb ++ marks))
  ac : ∀ q ∈ rs ++ us, q.v.ownBlock ≠ some gc ∧ q.v.ownBlock ≠ some gd
/-- a list that waits to be put on the shelf -/
structure Pd (B : Nat) (w : World) (rs us : List Rr) (gc gd : Nat) (v : Value) (E : List Ed) : Prop where
  own : w.ownsRow B 45 3 v E.length (flat E)
  apt : ∀ q ∈ rs ++ us, ∀ g, q.v.ownBlock = some g → v.ownBlock ≠ some g
  cd : v.ownBlock ≠ some gc ∧ v.ownBlock ≠ some gd
theorem Ow.below {b B n : Nat} {w0 w w' : World} {V U : Value} {rs us : List Rr} {gc gd : Nat} {xa xb : List Ed} (h : Ow b B n w0 w V U rs us gc gd xa xb) (hb : Below w.heap.size w w') : Ow b B n w0 w' V U rs us gc gd xa xb :=
  ⟨h.box.below hb h.box.lt, h.she.below hb, h.sti, h.len, fun g hg hne => (hb.block g (Nat.lt_of_lt_of_le hg h.sz)).trans (h.low g hg hne), h.bel.trans (hb.mono (by have := h.sz; have := h.bB; omega)), Nat.le_trans h.sz hb.size, h.bB, own_belowR h.rc hb (Nat.le_refl _), own_belowR h.rd hb (Nat.le_refl _), h.ac⟩
theorem Pd.below {B : Nat} {w w' : World} {rs us : List Rr} {gc gd : Nat} {v : Value} {E : List Ed} (h : Pd B w rs us gc gd v E) (hb : Below w.heap.size w w') : Pd B w' rs us gc gd v E :=
  ⟨own_belowR h.own hb (Nat.le_refl _), h.apt, h.cd⟩
/-- a list that a call has made -/
theorem Pd.new {b B n : Nat} {w0 w w' : World} {V U : Value} {rs us : List Rr} {gc gd : Nat} {xa xb : List Ed} (h : Ow b B n w0 w V U rs us gc gd xa xb) {v : Value} {E : List Ed} (ho : w'.ownsRow w.heap.size 45 3 v E.length (flat E)) : Pd B w' rs us gc gd v E :=
  ⟨own_low ho h.sz, fun q hq g hg hv => by have h1 := ((h.she.each q hq).lt g hg).2; have h2 := (ho.lt g hv).1; omega,
    ⟨fun hv => by have h1 := (h.rc.lt gc rfl).2; have h2 := (ho.lt gc hv).1; omega, fun hv => by have h1 := (h.rd.lt gd rfl).2; have h2 := (ho.lt gd hv).1; omega⟩⟩
theorem own_keep {b B' : Nat} {w w' : World} {V U : Value} (hk : Frm b V U w w') {e : TypeId} {k n : Nat} {v : Value} {xs : List Value} (h : w.ownsRow B' e k v n xs) (hb : b < B') (hV : ∀ g, V.ownBlock = some g → v.ownBlock ≠ some g) (hU : ∀ g, U.ownBlock = some g → v.ownBlock ≠ some g) : w'.ownsRow B' e k v n xs := by
  refine ⟨h.1, ?_⟩
  rcases h.2 with h2 | ⟨g, cap, cur, hv, hg, hh, r⟩
  · exact .inl h2
  · refine .inr ⟨g, cap, cur, hv, hg, ?_, r⟩
    rw [hk.keep g (lt_of_block hh) (by omega) (fun h1 => hV g h1 (by rw [hv]; rfl)) (fun h1 => hU g h1 (by rw [hv]; rfl))]
    exact hh
/-- the list is put on the shelf -/
theorem Ow.put {b B n : Nat} {w0 w w' : World} {V U V' U' : Value} {rs us : List Rr} {gc gd : Nat} {xa xb : List Ed} (h : Ow b B n w0 w V U rs us gc gd xa xb) {v : Value} {E : List Ed} (hp : Pd B w rs us gc gd v E) (hE : E.length ≤ 1000000) {u : Rr} (hx : Bx w' b (bxA V' U') 54) (hs : She 45 22 3 B w' V' U' (rs ++ [⟨v, E.length, flat E⟩]) (us ++ [u])) (hn : u.n = E.length) (hxs : u.xs = flat E) (hu : ∀ g, u.v.ownBlock = some g → w.heap.size ≤ g) (hk : Frm b V U w w') (hz : w.heap.size ≤ w'.heap.size) :
    Ow b B (n + 1) w0 w' V' U' (rs ++ [⟨v, E.length, flat E⟩]) (us ++ [u]) gc gd xa xb := by
  have hVr : ∀ {v : Value} {m : Nat} {xs : List Value}, w.ownsRow B 45 3 v m xs → (∀ g, V.ownBlock = some g → v.ownBlock ≠ some g) ∧ ∀ g, U.ownBlock = some g → v.ownBlock ≠ some g := fun ho => ⟨fun g hg => own_otherR ho h.she.outV (by decide) hg, fun g hg => own_otherR ho h.she.outU (by decide) hg⟩
  have hVl : ∀ g, V.ownBlock = some g → B ≤ g := fun g hg => (h.she.outV.lt g hg).1
  have hUl : ∀ g, U.ownBlock = some g → B ≤ g := fun g hg => (h.she.outU.lt g hg).1
  refine ⟨hx, hs, ⟨by rw [List.length_append, List.length_append, h.sti.1]; rfl, fun i r q hr hq => ?_⟩, by rw [List.length_append, h.len]; rfl, fun g hg hne => ?_, h.bel.trans hk.bel, Nat.le_trans h.sz hz, h.bB, own_keep hk h.rc h.bB (hVr h.rc).1 (hVr h.rc).2, own_keep hk h.rd h.bB (hVr h.rd).1 (hVr h.rd).2, fun q hq => ?_⟩
  · by_cases hi : i < rs.length
    · rw [List.getElem?_append_left hi] at hr
      rw [List.getElem?_append_left (by have := h.sti.1; omega)] at hq
      exact h.sti.2 i r q hr hq
    · have h1 := (List.getElem?_eq_some_iff.1 hr).1
      rw [List.length_append, List.length_singleton] at h1
      have h2 : i = rs.length := by omega
      rw [List.getElem?_append_right (by omega), h2, Nat.sub_self] at hr
      rw [List.getElem?_append_right (by have := h.sti.1; omega), h2, h.sti.1, Nat.sub_self] at hq
      have hr' := (Option.some.inj hr).symm
      have hq' := (Option.some.inj hq).symm
      subst hr' hq'
      exact ⟨E, rfl, rfl, hn, hxs, hE⟩
  · rw [hk.keep g (Nat.lt_of_lt_of_le hg h.sz) hne (fun h1 => by have := hVl g h1; omega) (fun h1 => by have := hUl g h1; omega)]
    exact h.low g hg hne
  · rcases List.mem_append.1 hq with hq | hq
    · rcases List.mem_append.1 hq with hq | hq
      · exact h.ac q (List.mem_append_left _ hq)
      · rw [List.mem_singleton] at hq; subst hq; exact hp.cd
    · rcases List.mem_append.1 hq with hq | hq
      · exact h.ac q (List.mem_append_right _ hq)
      · rw [List.mem_singleton] at hq
        subst hq
        exact ⟨fun h1 => by have h2 := hu gc h1; have h3 := (h.rc.lt gc rfl).2; omega, fun h1 => by have h2 := hu gd h1; have h3 := (h.rd.lt gd rfl).2; omega⟩
/-- .. and another one goes on waiting -/
theorem Pd.put {b B n : Nat} {w0 w w' : World} {V U : Value} {rs us : List Rr} {gc gd : Nat} {xa xb : List Ed} (h : Ow b B n w0 w V U rs us gc gd xa xb) {v v' : Value} {E E' : List Ed} (hp : Pd B w rs us gc gd v' E') (hvv : ∀ g, v.ownBlock = some g → v'.ownBlock ≠ some g) {u : Rr} (hu : ∀ g, u.v.ownBlock = some g → w.heap.size ≤ g) (hk : Frm b V U w w') :
    Pd B w' (rs ++ [⟨v, E.length, flat E⟩]) (us ++ [u]) gc gd v' E' := by
  refine ⟨own_keep hk hp.own h.bB (fun g hg => own_otherR hp.own h.she.outV (by decide) hg) (fun g hg => own_otherR hp.own h.she.outU (by decide) hg), fun q hq g hg => ?_, hp.cd⟩
  rcases List.mem_append.1 hq with hq | hq
  · rcases List.mem_append.1 hq with hq | hq
    · exact hp.apt q (List.mem_append_left _ hq) g hg
    · rw [List.mem_singleton] at hq; subst hq; exact hvv g hg
  · rcases List.mem_append.1 hq with hq | hq
    · exact hp.apt q (List.mem_append_right _ hq) g hg
    · rw [List.mem_singleton] at hq
      subst hq
      intro h1
      have h2 := hu g hg
      have h3 := (hp.own.lt g h1).2
      omega
/-- two lists made one behind the other -/
theorem new_apart {w w' : World} {B m m' : Nat} {v v' : Value} {xs xs' : List Value} (h : w.ownsRow B 45 3 v m xs) (h' : w'.ownsRow w.heap.size 45 3 v' m' xs') : ∀ g, v.ownBlock = some g → v'.ownBlock ≠ some g := fun g hg hg' => by
  have h1 := (h.lt g hg).2
  have h2 := (h'.lt g hg').1
  omega
/-- Shelf.Edits, in these words -/
theorem put_any {b B n : Nat} {w0 w : World} {V U : Value} {rs us : List Rr} {gc gd : Nat} {xa xb : List Ed} (h : Ow b B n w0 w V U rs us gc gd xa xb) {v : Value} {E : List Ed} (hp : Pd B w rs us gc gd v E) (hE : E.length ≤ 1000000) (hn : n ≤ 1000) :
    Calls Tryd.prog 23 #[.pointer (some ⟨b, 0, none⟩), v] w fun e w' => (∃ x, e = .returned x) ∧ ∃ V' U' u, Ow b B (n + 1) w0 w' V' U' (rs ++ [⟨v, E.length, flat E⟩]) (us ++ [u]) gc gd xa xb ∧ (∀ g, u.v.ownBlock = some g → w.heap.size ≤ g) ∧ Frm b V U w w' := by
  refine (shelfEdits_any b B w V U rs us ⟨v, E.length, flat E⟩ h.box h.she hp.own (fun q hq g hg hv => hp.apt q hq g hg hv) h.bB h.sz (flat_oneCell _) hE (by rw [h.len]; exact hn) (by rw [← h.sti.1, h.len]; exact hn)).mono ?_
  rintro e w' ⟨he, V', U', u, hx, hs, h1, h2, h3, hk⟩
  exact ⟨he, V', U', u, h.put hp hE hx hs h1 h2 h3 hk hk.bel.size, h3, hk⟩
end Go.Proofs.YteolfolkolpehaaDoor
