import Derived.Test.YtaploloedocgbaaDoorTss
import Derived.Test.YtaploloedocgbaaDoorCpT
import Derived.Test.YtaploloedocgbaaDoorLent
namespace Go.Proofs.YtaploloedocgbaaDoor
open Go.ChangeShapes Go.WideShapes Go.ChangeAt Go.RowKit
set_option linter.unusedVariables false
set_option linter.unusedSimpArgs false

theorem Sti.n {α : Type} [Rw α] {rs us : List Rr} (h : Sti α rs us) : ∀ r ∈ rs, r.n ≤ 4194304 := fun r hr => by
  obtain ⟨i, hi⟩ := List.getElem?_of_mem hr
  have hl := (List.getElem?_eq_some_iff.1 hi).1
  obtain ⟨u, hu⟩ : ∃ u, us[i]? = some u := ⟨_, List.getElem?_eq_getElem (by have := h.1; omega)⟩
  obtain ⟨E, h1, -, -, -, h2⟩ := h.2 i r u hi hu
  omega
theorem vn_at {ts rs : List Rr} (h : ts.map vn = rs.map vn) {j : Nat} {t : Rr} (ht : ts[j]? = some t) : ∃ r, rs[j]? = some r ∧ r.n = t.n := by
  have h1 : (ts.map vn)[j]? = some (vn t) := by rw [List.getElem?_map, ht]; rfl
  rw [h, List.getElem?_map] at h1
  obtain ⟨q, hq, he⟩ := Option.map_eq_some_iff.1 h1
  exact ⟨q, hq, congrArg Prod.snd he⟩
theorem Sti.mkd {α : Type} [Rw α] {mk : Nat → α} {rs us ts : List Rr} (h : Sti α rs us) (hv : ts.map vn = rs.map vn) (hm : Mks α mk ts.length ts) : Mkd α mk 0 ts us :=
  ⟨(vn_len hv).trans h.1, fun j t u ht hu => by
    obtain ⟨r, hr, hn⟩ := vn_at hv ht
    obtain ⟨E, q1, -, q3, -, q5⟩ := h.2 j r u hr hu
    exact ⟨by omega, hm j t (List.getElem?_eq_some_iff.1 ht).1 ht, by omega⟩⟩
theorem Sti.tn {α : Type} [Rw α] {rs us ts : List Rr} (h : Sti α rs us) (hv : ts.map vn = rs.map vn) : ∀ r ∈ ts, r.n ≤ 4194304 := fun t ht => by
  obtain ⟨j, hj⟩ := List.getElem?_of_mem ht
  exact vn_n hv h.n hj
theorem Mks.grn {α : Type} [Rw α] {mk : Nat → α} {ts : List Rr} (hm : Mks α mk ts.length ts) : Grn α mk 0 0 ts ts :=
  ⟨rfl, fun j r t hr ht => by rw [hr] at ht; cases ht; exact ⟨by simp, hm j r (List.getElem?_eq_some_iff.1 hr).1 hr⟩⟩
theorem Mkd.grown {α : Type} [Rw α] {mk : Nat → α} {us ts ys : List Rr} (h : Mkd α mk 0 ts us) (hn : ∀ r ∈ ts, r.n ≤ 4194304) (hg : Grn α mk 70 0 ts ys) : Mkd α mk 70 ys us :=
  ⟨hg.1.trans h.1, fun j t u ht hu => by
    obtain ⟨r, hr⟩ : ∃ r, ts[j]? = some r := ⟨_, List.getElem?_eq_getElem (by have := (List.getElem?_eq_some_iff.1 ht).1; have := hg.1; omega)⟩
    obtain ⟨q1, q2⟩ := hg.2 j r t hr ht
    obtain ⟨p1, -, p3⟩ := h.2 j r u hr hu
    have p4 := hn r (List.mem_of_getElem? hr)
    rw [if_neg (Nat.not_lt_zero _)] at q1
    exact ⟨by omega, q2, by omega⟩⟩
theorem marked0_any (b B : Nat) (w : World) (V U I J : Value) (tn un ti ui : List Rr) (hT : ShT b B w V U I J tn un ti ui) (hM : Mkd Nd mkNd 0 tn un) (hN : Mkd Int mkI 0 ti ui) (htn : tn.length ≤ 1000) (hti : ti.length ≤ 1000) :
    Calls Tryd.prog 52 #[.pointer (some ⟨b, 0, none⟩), .int .i64 0] w fun e w' => e = .returned (.bool true) ∧ Below w.heap.size w w' := marked_any b B 0 w V U I J tn un ti ui hT hM hN htn hti (by decide)
theorem marked70_any (b B : Nat) (w : World) (V U I J : Value) (tn un ti ui : List Rr) (hT : ShT b B w V U I J tn un ti ui) (hM : Mkd Nd mkNd 70 tn un) (hN : Mkd Int mkI 70 ti ui) (htn : tn.length ≤ 1000) (hti : ti.length ≤ 1000) :
    Calls Tryd.prog 52 #[.pointer (some ⟨b, 0, none⟩), .int .i64 70] w fun e w' => e = .returned (.bool true) ∧ Below w.heap.size w w' := marked_any b B 70 w V U I J tn un ti ui hT hM hN htn hti (by decide)

set_option maxRecDepth 1000000 in
set_option maxHeartbeats 2000000 in
/-- what is on the shelf is the asker's own -/
theorem own_shelf (b B : Nat) (w : World) (V U I J : Value) (rn un ri ui : List Rr) (hT : ShT b B w V U I J rn un ri ui) (hE : Sti Nd rn un) (hF : Sti Int ri ui) (hrn : rn.length ≤ 1000) (hri : ri.length ≤ 1000) :
    Calls Tryd.prog 25 #[.pointer (some ⟨b, 0, none⟩)] w fun e w' => e = .returned (.bool true) ∧ Below b w w' := by
  have HT : Hid (ShT b B w V U I J rn un ri ui) := hT
  have HE : Hid (Sti Nd rn un) := hE
  have HF : Hid (Sti Int ri ui) := hF
  have hbB := hT.lt
  have hBw := hT.le
  clear hT hE hF
  go_enter Tryd.func25, Tryd.ntmps25
  go_wp2_with (first
    | (go_at_call 50; (with_reducible refine (still_any b B _ V U I J rn un ri ui HT.out HE.out HF.out hrn hri).mono ?_); rintro e w1 ⟨rfl, hb1⟩; have T1 : Hid (ShT b B w1 V U I J rn un ri ui) := HT.out.below hb1; have B1 : Hid (Below b w w1) := hb1.mono (by omega); clear hb1)
    | (go_at_call 51; (with_reducible refine (fill_any b B _ V U I J rn un ri ui T1.out hrn hri HE.out.n HF.out.n).mono ?_); rintro e w2 ⟨⟨x, rfl⟩, tn, ti, ht2, hv2, hm2, hv3, hm3, hb2⟩; have T2 : Hid (ShT b B w2 V U I J tn un ti ui) := ht2; have B2 : Hid (Below b w w2) := B1.out.trans hb2; have K2 : Hid (Mkd Nd mkNd 0 tn un) := HE.out.mkd hv2 hm2; have K3 : Hid (Mkd Int mkI 0 ti ui) := HF.out.mkd hv3 hm3; have N2 : Hid (∀ r ∈ tn, r.n ≤ 4194304) := HE.out.tn hv2; have N3 : Hid (∀ r ∈ ti, r.n ≤ 4194304) := HF.out.tn hv3; have L2 : Hid (tn.length ≤ 1000) := (by unfold Hid; rw [vn_len hv2]; exact hrn); have L3 : Hid (ti.length ≤ 1000) := (by unfold Hid; rw [vn_len hv3]; exact hri); have G2 : Hid (Grn Nd mkNd 0 0 tn tn) := hm2.grn; have G3 : Hid (Grn Int mkI 0 0 ti ti) := hm3.grn; clear ht2 hv2 hm2 hv3 hm3 hb2)
    | (go_at_call 52; (with_reducible refine (marked0_any b B _ V U I J tn un ti ui T2.out K2.out K3.out L2.out L3.out).mono ?_); rintro e w3 ⟨rfl, hb3⟩; have T3 : Hid (ShT b B w3 V U I J tn un ti ui) := T2.out.below hb3; have B3 : Hid (Below b w w3) := B2.out.trans (hb3.mono (by have := T2.out.le; omega)); clear hb3)
    | (go_at_call 53; (with_reducible refine (grow_any b B _ V U I J tn un ti ui T3.out L2.out L3.out N2.out N3.out G2.out G3.out).mono ?_); rintro e w4 ⟨⟨x, rfl⟩, yn, yi, ht4, hg4, hg5, hb4⟩; have T4 : Hid (ShT b B w4 V U I J yn un yi ui) := ht4; have B4 : Hid (Below b w w4) := B3.out.trans hb4; have L4 : Hid (yn.length ≤ 1000) := (by unfold Hid; rw [hg4.1]; exact L2.out); have L5 : Hid (yi.length ≤ 1000) := (by unfold Hid; rw [hg5.1]; exact L3.out); have K4 : Hid (Mkd Nd mkNd 70 yn un) := K2.out.grown N2.out hg4; have K5 : Hid (Mkd Int mkI 70 yi ui) := K3.out.grown N3.out hg5; clear ht4 hg4 hg5 hb4)
    | (go_at_call 52; (with_reducible refine (marked70_any b B _ V U I J yn un yi ui T4.out K4.out K5.out L4.out L5.out).mono ?_); rintro e w5 ⟨rfl, hb5⟩; have B5 : Hid (Below b w w5) := B4.out.trans (hb5.mono (by have := T4.out.le; omega)); clear hb5))
  go_ret
  exact ⟨rfl, B5.out⟩
end Go.Proofs.YtaploloedocgbaaDoor

namespace Go.Proofs.YtaploloedocgbaaDoor
open Go.ChangeShapes Go.WideShapes Go.ChangeAt Go.RowKit
set_option linter.unusedVariables false
set_option linter.unusedSimpArgs false

set_option maxRecDepth 1000000 in
set_option maxHeartbeats 1000000 in
theorem copyTokens_own (a : Option Addr) (cap : Nat) (ts : List Tk) (w : World) (h : LiesA w a ts) (hn : a = none → ts.length = 0 ∧ cap = 0) (hl : ts.length * 24 ≤ 140737488351232) :
    Calls Tryd.prog 5 #[.slice a ts.length cap] w fun e w' => ∃ a' c', e = .returned (.slice a' ts.length c') ∧ w'.ownsRow w.heap.size 60 3 (.slice a' ts.length c') ts.length (flat ts) ∧ Below w.heap.size w w' := by
  obtain ⟨i0, hi0, hz0, hz1, hz2⟩ := info_parts infoTk
  have HL : Hid (LiesA (w.alloc (.cells #[] 60)) a ts) := h.below ((Below.refl _ w).alloc (Nat.le_refl _) _)
  have HN2 : Hid (a = none → ts.length = 0 ∧ cap = 0) := hn
  clear h hn
  have HL0 : Hid ((w.alloc (.cells #[] 60)).ownsRow w.heap.size 60 3 (.slice (some ⟨w.heap.size, 0, none⟩) 0 0) 0 []) := World.ownsRow_lit w #[] 0 (Nat.le_refl _) (by unfold maxLen; omega) rfl
  have HNW : Hid (∀ ad, a = some ad → ∀ j u, (flat ts)[j]? = some u → (w.alloc (.cells #[] 60)).cell? (ad.add j) = some u) := by
    intro ad had
    rcases HL.out with h | ⟨b, o, hab, h⟩
    · intro j u hj; rw [h] at hj; simp [flat] at hj
    · rw [hab] at had; cases had
      exact h.flat
  go_enter Tryd.func5, Tryd.ntmps5
  go_wp2_with (at_builtin; ((refine wpList_append_at _ rfl _ _ 22 rfl w.heap.size 60 i0 (.agg #[.int .u8 0, .int .i64 0, .int .i64 0]) 3 24 Tryd.underlying22 hi0 hz0 hz1 hz2 rfl (by decide) _ 0 [] rfl HL0.out a ts.length cap (flat ts) rfl (flat_length ts) HN2.out HNW.out (flat_oneCell ts) (by unfold maxLen; omega) (by omega) (by simp) ?_); intro v1 w1 hown1 hgrow1 _; have HB1 : Hid (Below w.heap.size w w1) := ((Below.refl _ w).alloc (Nat.le_refl _) _).grown hgrow1 (by simp) (fun g h => (HL0.out.lt g h).1); have HO1 : Hid (w1.ownsRow w.heap.size 60 3 v1 ts.length (flat ts)) := (by unfold Hid; rw [Nat.zero_add, List.nil_append] at hown1; exact hown1); clear hown1 hgrow1))
  go_ret
  obtain ⟨a', c', rfl, -, -⟩ := own_slice HO1.out
  exact ⟨a', c', rfl, HO1.out, HB1.out⟩

/-- a row beside a shelf's rows of another type -/
theorem own_frm {w w' : World} {b B B1 B2 s n m1 m2 : Nat} {e te : TypeId} {v V U : Value} {xs y1 y2 : List Value} (h : w.ownsRow B e s v n xs) (hb : b < B) (hf : Frm b V U w w') (hV : w.ownsRow B1 te 1 V m1 y1) (hU : w.ownsRow B2 te 1 U m2 y2) (hne : e ≠ te) : w'.ownsRow B e s v n xs :=
  own_far h (fun g hg => hf.keep g (h.lt g hg).2 (by have := (h.lt g hg).1; omega) (own_otherR hV h hne hg) (own_otherR hU h hne hg))
theorem bx_row {w : World} {g B s n : Nat} {vs : Array Value} {t e : TypeId} {v : Value} {xs : List Value} (h : Bx w g vs t) (ho : w.ownsRow B e s v n xs) (hne : t ≠ e) : v.ownBlock ≠ some g := by
  intro hg
  obtain ⟨c, fz, hh⟩ := row_kindR ho g hg
  rw [show w.heap[g]? = _ from h] at hh
  cases hh
  exact hne rfl
theorem Bx.frm {w w' : World} {g b B1 B2 m1 m2 : Nat} {vs : Array Value} {t te : TypeId} {V U : Value} {y1 y2 : List Value} (h : Bx w g vs t) (hb : g ≠ b) (hf : Frm b V U w w') (hV : w.ownsRow B1 te 1 V m1 y1) (hU : w.ownsRow B2 te 1 U m2 y2) (hne : t ≠ te) : Bx w' g vs t :=
  (hf.keep g h.lt hb (bx_row h hV hne) (bx_row h hU hne)).trans h
theorem ap_more {rs us : List Rr} {L0 u L : Rr} (h : ∀ q ∈ rs ++ us, ApR q L) (h0 : ApR L0 L) (hu : ApR u L) : ∀ q ∈ (rs ++ [L0]) ++ (us ++ [u]), ApR q L := by
  intro q hq
  simp only [List.mem_append, List.mem_singleton] at hq
  rcases hq with (hq | rfl) | (hq | rfl)
  · exact h q (List.mem_append_left _ hq)
  · exact h0
  · exact h q (List.mem_append_right _ hq)
  · exact hu
theorem Sti.snoc {α : Type} [Rw α] {rs us : List Rr} {L u : Rr} (h : Sti α rs us) (E : List α) (h1 : L.n = E.length) (h2 : L.xs = flat E) (h3 : u.n = L.n) (h4 : u.xs = L.xs) (hE : E.length ≤ 4194304) : Sti α (rs ++ [L]) (us ++ [u]) := by
  refine ⟨by simp [h.1], fun i r v hr hv => ?_⟩
  rw [List.getElem?_append] at hr hv
  split at hr
  · rename_i hi
    rw [if_pos (by have := h.1; omega)] at hv
    exact h.2 i r v hr hv
  · rename_i hi
    rw [if_neg (by have := h.1; omega)] at hv
    have hi0 : i - rs.length = 0 := by
      rcases Nat.eq_zero_or_pos (i - rs.length) with h0 | h0
      · exact h0
      · rw [List.getElem?_eq_none (by simp; omega)] at hr; cases hr
    rw [hi0] at hr
    rw [← h.1, hi0] at hv
    simp at hr hv
    subst hr; subst hv
    exact ⟨E, h1, h2, by omega, by rw [h4, h2], hE⟩

/-- TreeMine's world: the shelf, the forest, and the one that was lent -/
structure Mn (w0 : World) (b B fb cb g1 g2 m : Nat) (s : ByteArray) (F : Array Value) (ts : List Tk) (ns : List Nd) (w : World) (V U I J : Value) (rn un ri ui : List Rr) : Prop where
  sh : ShT b B w V U I J rn un ri ui
  sn : Sti Nd rn un
  si : Sti Int ri ui
  nm : rn.length + ri.length ≤ m
  bf : Bx w fb F 27
  bc : Bx w cb #[.string s, .slice (some ⟨g1, 0, none⟩) ts.length (ts.length + 2), .slice (some ⟨g2, 0, none⟩) ns.length (ns.length + 2)] 27
  ot : w.ownsRow w0.heap.size 60 3 (.slice (some ⟨g1, 0, none⟩) (ts.length + 2) (ts.length + 2)) (ts.length + 2) (flat (ts ++ tmarks))
  on : w.ownsRow w0.heap.size 57 4 (.slice (some ⟨g2, 0, none⟩) (ns.length + 2) (ns.length + 2)) (ns.length + 2) (flat (ns ++ nmarks))
  bel : Below w0.heap.size w0 w
  lb : w0.heap.size ≤ b
  lf : fb < b
  lc : b < cb ∧ cb < B
  l1 : b < g1 ∧ g1 < B
  l2 : b < g2 ∧ g2 < B
theorem Mn.below {w0 : World} {b B fb cb g1 g2 m : Nat} {s : ByteArray} {F : Array Value} {ts : List Tk} {ns : List Nd} {w w' : World} {V U I J : Value} {rn un ri ui : List Rr} (h : Mn w0 b B fb cb g1 g2 m s F ts ns w V U I J rn un ri ui) (hb : Below w.heap.size w w') : Mn w0 b B fb cb g1 g2 m s F ts ns w' V U I J rn un ri ui :=
  ⟨h.sh.below hb, h.sn, h.si, h.nm, h.bf.below hb h.bf.lt, h.bc.below hb h.bc.lt, own_belowR h.ot hb (Nat.le_refl _), own_belowR h.on hb (Nat.le_refl _), h.bel.trans (hb.mono h.bel.size), h.lb, h.lf, h.lc, h.l1, h.l2⟩
theorem Mn.tok {w0 : World} {b B fb cb g1 g2 m : Nat} {s : ByteArray} {F : Array Value} {ts : List Tk} {ns : List Nd} {w : World} {V U I J : Value} {rn un ri ui : List Rr} (h : Mn w0 b B fb cb g1 g2 m s F ts ns w V U I J rn un ri ui) : LiesA w (some ⟨g1, 0, none⟩) ts := .inr ⟨g1, 0, rfl, (Lies.own h.ot).pre⟩
theorem Mn.nod {w0 : World} {b B fb cb g1 g2 m : Nat} {s : ByteArray} {F : Array Value} {ts : List Tk} {ns : List Nd} {w : World} {V U I J : Value} {rn un ri ui : List Rr} (h : Mn w0 b B fb cb g1 g2 m s F ts ns w V U I J rn un ri ui) : LiesA w (some ⟨g2, 0, none⟩) ns := .inr ⟨g2, 0, rfl, (Lies.own h.on).pre⟩
/-- a block of the lent ones' stands beside the shelf's -/
theorem frm_low {b B g n1 n2 : Nat} {t1 t2 : TypeId} {V U : Value} {y1 y2 : List Value} {w w' : World} (hf : Frm b V U w w') (hV : w.ownsRow B t1 1 V n1 y1) (hU : w.ownsRow B t2 1 U n2 y2) (hg : g < B) (hb : g ≠ b) (hB : B ≤ w.heap.size) : w'.heap[g]? = w.heap[g]? :=
  hf.keep g (by omega) hb (fun h => by have := (hV.lt g h).1; omega) (fun h => by have := (hU.lt g h).1; omega)
theorem Mn.frm {w0 : World} {b B fb cb g1 g2 m n1 n2 : Nat} {t1 t2 : TypeId} {y1 y2 : List Value} {s : ByteArray} {F : Array Value} {ts : List Tk} {ns : List Nd} {w w' : World} {V U I J X Y : Value} {rn un ri ui : List Rr} (h : Mn w0 b B fb cb g1 g2 m s F ts ns w V U I J rn un ri ui) (hf : Frm b X Y w w') (hX : w.ownsRow B t1 1 X n1 y1) (hY : w.ownsRow B t2 1 Y n2 y2) {V' U' I' J' : Value} {rn' un' ri' ui' : List Rr} (hs : ShT b B w' V' U' I' J' rn' un' ri' ui') (hsn : Sti Nd rn' un') (hsi : Sti Int ri' ui') (hm : rn'.length + ri'.length ≤ m + 1) :
    Mn w0 b B fb cb g1 g2 (m + 1) s F ts ns w' V' U' I' J' rn' un' ri' ui' := by
  have hB := h.sh.le
  have low := fun {g} (hg : g < B) (hb : g ≠ b) => frm_low hf hX hY hg hb hB
  have k1 := h.lb; have k2 := h.lf; have k3 := h.lc; have k4 := h.l1; have k5 := h.l2
  exact ⟨hs, hsn, hsi, hm, (low (by omega) (by omega)).trans h.bf, (low (by omega) (by omega)).trans h.bc,
    own_far h.ot (fun g hg => by cases hg; exact low (g := g1) (by omega) (by omega)), own_far h.on (fun g hg => by cases hg; exact low (g := g2) (by omega) (by omega)),
    h.bel.trans (hf.bel.mono h.lb), h.lb, h.lf, h.lc, h.l1, h.l2⟩
/-- a list of ints is put on the shelf -/
theorem Mn.ints {w0 : World} {b B fb cb g1 g2 m : Nat} {s : ByteArray} {F : Array Value} {ts : List Tk} {ns : List Nd} {w : World} {V U I J : Value} {rn un ri ui : List Rr} (h : Mn w0 b B fb cb g1 g2 m s F ts ns w V U I J rn un ri ui) (hm : m ≤ 900) (E : List Int) (v : Value) (hL : w.ownsRow B 3 1 v E.length (flat E)) (hE : E.length ≤ 4194304) (hap : ∀ q ∈ ri ++ ui, ApR q ⟨v, E.length, flat E⟩) :
    Calls Tryd.prog 23 #[.pointer (some ⟨b, 0, none⟩), v] w fun e w' => (∃ x, e = .returned x) ∧ ∃ I' J' u, Mn w0 b B fb cb g1 g2 (m + 1) s F ts ns w' V U I' J' rn un (ri ++ [⟨v, E.length, flat E⟩]) (ui ++ [u]) ∧ (∀ g, u.v.ownBlock = some g → w.heap.size ≤ g) ∧ Frm b I J w w' := by
  have hri : ri.length ≤ 1000 := by have := h.nm; omega
  have hui : ui.length ≤ 1000 := by rw [← h.si.1]; exact hri
  refine (shelfInts_any b B w V U I J rn un ri ui ⟨v, E.length, flat E⟩ h.sh hL hap (flat_oneCell E) hE hri hui).mono ?_
  rintro e w' ⟨he, I', J', u, hT, hn, hx, hg, hf⟩
  exact ⟨he, I', J', u, h.frm hf h.sh.i.outV h.sh.i.outU hT h.sn (h.si.snoc E rfl rfl hn hx hE) (by have := h.nm; simp; omega), hg, hf⟩
/-- a tree is put on the shelf -/
theorem Mn.tree {w0 : World} {b B fb cb g1 g2 m : Nat} {s : ByteArray} {F : Array Value} {ts : List Tk} {ns : List Nd} {w : World} {V U I J : Value} {rn un ri ui : List Rr} (h : Mn w0 b B fb cb g1 g2 m s F ts ns w V U I J rn un ri ui) (hm : m ≤ 900) (E : List Nd) (v : Value) (hL : w.ownsRow B 57 4 v E.length (flat E)) (hE : E.length ≤ 4194304) (hap : ∀ q ∈ rn ++ un, ApR q ⟨v, E.length, flat E⟩) :
    Calls Tryd.prog 24 #[.pointer (some ⟨b, 0, none⟩), .agg #[v]] w fun e w' => (∃ x, e = .returned x) ∧ ∃ V' U' u, Mn w0 b B fb cb g1 g2 (m + 1) s F ts ns w' V' U' I J (rn ++ [⟨v, E.length, flat E⟩]) (un ++ [u]) ri ui ∧ Frm b V U w w' := by
  have hrn : rn.length ≤ 1000 := by have := h.nm; omega
  have hun : un.length ≤ 1000 := by rw [← h.sn.1]; exact hrn
  refine (shelfTree_any b B w I J V U ri ui rn un ⟨v, E.length, flat E⟩ h.sh hL hap (flat_oneCell E) hE hrn hun).mono ?_
  rintro e w' ⟨he, V', U', u, hT, hn, hx, hg, hf⟩
  exact ⟨he, V', U', u, h.frm hf h.sh.n.outV h.sh.n.outU hT (h.sn.snoc E rfl rfl hn hx hE) h.si (by have := h.nm; simp; omega), hf⟩
end Go.Proofs.YtaploloedocgbaaDoor
