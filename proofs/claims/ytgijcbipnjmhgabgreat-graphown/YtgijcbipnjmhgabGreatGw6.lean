import Derived.Test.YtgijcbipnjmhgabGreatGw5
namespace Go.Proofs.YtgijcbipnjmhgabGreat
open Go.ChangeShapes Go.WideShapes Go.ChangeAt Go.RowKit
set_option linter.unusedVariables false
set_option linter.unusedSimpArgs false

theorem Sti.n {α : Type} [Rw α] {rs us : List Rr} (h : Sti α rs us) : ∀ r ∈ rs, r.n ≤ 4194304 := fun r hr => by
  obtain ⟨i, hi⟩ := List.getElem?_of_mem hr
  have hl := (List.getElem?_eq_some_iff.1 hi).1
  obtain ⟨u, hu⟩ : ∃ u, us[i]? = some u := ⟨_, List.getElem?_eq_getElem (by have := h.1; omega)⟩
  obtain ⟨E, h1, -, -, -, h2⟩ := h.2 i r u hi hu
  omega
theorem vn_at {ts rs : List Rr} (h : ts.map vn = rs.map vn) {j : Nat} {t : Rr} (ht : ts[j]? = some t) : ∃ r, rs[j]? = some r ∧ r.n = t.n := by
  have h1 : (ts.map vn)[j]? = some (vn t) := by rw [List.getElem?_map, ht]; rfl
  rw [h, List.getElem?_map] at h1
  obtain ⟨q, hq, he⟩ := Option.map_eq_some_iff.1 h1
  exact ⟨q, hq, congrArg Prod.snd he⟩
theorem Sti.mkd {α : Type} [Rw α] {mk : Nat → α} {rs us ts : List Rr} (h : Sti α rs us) (hv : ts.map vn = rs.map vn) (hm : Mks α mk ts.length ts) : Mkd α mk 0 ts us :=
  ⟨(vn_len hv).trans h.1, fun j t u ht hu => by
    obtain ⟨r, hr, hn⟩ := vn_at hv ht
    obtain ⟨E, q1, -, q3, -, q5⟩ := h.2 j r u hr hu
    exact ⟨by omega, hm j t (List.getElem?_eq_some_iff.1 ht).1 ht, by omega⟩⟩
theorem Sti.tn {α : Type} [Rw α] {rs us ts : List Rr} (h : Sti α rs us) (hv : ts.map vn = rs.map vn) : ∀ r ∈ ts, r.n ≤ 4194304 := fun t ht => by
  obtain ⟨j, hj⟩ := List.getElem?_of_mem ht
  exact vn_n hv h.n hj
theorem Mks.grn {α : Type} [Rw α] {mk : Nat → α} {ts : List Rr} (hm : Mks α mk ts.length ts) : Grn α mk 0 0 ts ts :=
  ⟨rfl, fun j r t hr ht => by rw [hr] at ht; cases ht; exact ⟨by simp, hm j r (List.getElem?_eq_some_iff.1 hr).1 hr⟩⟩
theorem Mkd.grown {α : Type} [Rw α] {mk : Nat → α} {us ts ys : List Rr} (h : Mkd α mk 0 ts us) (hn : ∀ r ∈ ts, r.n ≤ 4194304) (hg : Grn α mk 70 0 ts ys) : Mkd α mk 70 ys us :=
  ⟨hg.1.trans h.1, fun j t u ht hu => by
    obtain ⟨r, hr⟩ : ∃ r, ts[j]? = some r := ⟨_, List.getElem?_eq_getElem (by have := (List.getElem?_eq_some_iff.1 ht).1; have := hg.1; omega)⟩
    obtain ⟨q1, q2⟩ := hg.2 j r t hr ht
    obtain ⟨p1, -, p3⟩ := h.2 j r u hr hu
    have p4 := hn r (List.mem_of_getElem? hr)
    rw [if_neg (Nat.not_lt_zero _)] at q1
    exact ⟨by omega, q2, by omega⟩⟩
theorem marked0_any (b B : Nat) (w : World) (V U I J : Value) (tn un ti ui : List Rr) (hT : ShT b B w V U I J tn un ti ui) (hM : Mkd Nd mkNd 0 tn un) (hN : Mkd Int mkI 0 ti ui) (htn : tn.length ≤ 1000) (hti : ti.length ≤ 1000) :
    Calls Tryz.prog 40 #[.pointer (some ⟨b, 0, none⟩), .int .i64 0] w fun e w' => e = .returned (.bool true) ∧ Below w.heap.size w w' := marked_any b B 0 w V U I J tn un ti ui hT hM hN htn hti (by decide)
theorem marked70_any (b B : Nat) (w : World) (V U I J : Value) (tn un ti ui : List Rr) (hT : ShT b B w V U I J tn un ti ui) (hM : Mkd Nd mkNd 70 tn un) (hN : Mkd Int mkI 70 ti ui) (htn : tn.length ≤ 1000) (hti : ti.length ≤ 1000) :
    Calls Tryz.prog 40 #[.pointer (some ⟨b, 0, none⟩), .int .i64 70] w fun e w' => e = .returned (.bool true) ∧ Below w.heap.size w w' := marked_any b B 70 w V U I J tn un ti ui hT hM hN htn hti (by decide)

set_option maxRecDepth 1000000 in
set_option maxHeartbeats 2000000 in
/-- what is on the shelf is the asker's own -/
theorem own_shelf (b B : Nat) (w : World) (V U I J : Value) (rn un ri ui : List Rr) (hT : ShT b B w V U I J rn un ri ui) (hE : Sti Nd rn un) (hF : Sti Int ri ui) (hrn : rn.length ≤ 1000) (hri : ri.length ≤ 1000) :
    Calls Tryz.prog 16 #[.pointer (some ⟨b, 0, none⟩)] w fun e w' => e = .returned (.bool true) ∧ Below b w w' := by
  have HT : Hid (ShT b B w V U I J rn un ri ui) := hT
  have HE : Hid (Sti Nd rn un) := hE
  have HF : Hid (Sti Int ri ui) := hF
  have hbB := hT.lt
  have hBw := hT.le
  clear hT hE hF
  go_enter Tryz.func16, Tryz.ntmps16
  go_wp2_with (first
    | (go_at_call 38; (with_reducible refine (still_any b B _ V U I J rn un ri ui HT.out HE.out HF.out hrn hri).mono ?_); rintro e w1 ⟨rfl, hb1⟩; have T1 : Hid (ShT b B w1 V U I J rn un ri ui) := HT.out.below hb1; have B1 : Hid (Below b w w1) := hb1.mono (by omega); clear hb1)
    | (go_at_call 39; (with_reducible refine (fill_any b B _ V U I J rn un ri ui T1.out hrn hri HE.out.n HF.out.n).mono ?_); rintro e w2 ⟨⟨x, rfl⟩, tn, ti, ht2, hv2, hm2, hv3, hm3, hb2⟩; have T2 : Hid (ShT b B w2 V U I J tn un ti ui) := ht2; have B2 : Hid (Below b w w2) := B1.out.trans hb2; have K2 : Hid (Mkd Nd mkNd 0 tn un) := HE.out.mkd hv2 hm2; have K3 : Hid (Mkd Int mkI 0 ti ui) := HF.out.mkd hv3 hm3; have N2 : Hid (∀ r ∈ tn, r.n ≤ 4194304) := HE.out.tn hv2; have N3 : Hid (∀ r ∈ ti, r.n ≤ 4194304) := HF.out.tn hv3; have L2 : Hid (tn.length ≤ 1000) := (by unfold Hid; rw [vn_len hv2]; exact hrn); have L3 : Hid (ti.length ≤ 1000) := (by unfold Hid; rw [vn_len hv3]; exact hri); have G2 : Hid (Grn Nd mkNd 0 0 tn tn) := hm2.grn; have G3 : Hid (Grn Int mkI 0 0 ti ti) := hm3.grn; clear ht2 hv2 hm2 hv3 hm3 hb2)
    | (go_at_call 40; (with_reducible refine (marked0_any b B _ V U I J tn un ti ui T2.out K2.out K3.out L2.out L3.out).mono ?_); rintro e w3 ⟨rfl, hb3⟩; have T3 : Hid (ShT b B w3 V U I J tn un ti ui) := T2.out.below hb3; have B3 : Hid (Below b w w3) := B2.out.trans (hb3.mono (by have := T2.out.le; omega)); clear hb3)
    | (go_at_call 41; (with_reducible refine (grow_any b B _ V U I J tn un ti ui T3.out L2.out L3.out N2.out N3.out G2.out G3.out).mono ?_); rintro e w4 ⟨⟨x, rfl⟩, yn, yi, ht4, hg4, hg5, hb4⟩; have T4 : Hid (ShT b B w4 V U I J yn un yi ui) := ht4; have B4 : Hid (Below b w w4) := B3.out.trans hb4; have L4 : Hid (yn.length ≤ 1000) := (by unfold Hid; rw [hg4.1]; exact L2.out); have L5 : Hid (yi.length ≤ 1000) := (by unfold Hid; rw [hg5.1]; exact L3.out); have K4 : Hid (Mkd Nd mkNd 70 yn un) := K2.out.grown N2.out hg4; have K5 : Hid (Mkd Int mkI 70 yi ui) := K3.out.grown N3.out hg5; clear ht4 hg4 hg5 hb4)
    | (go_at_call 40; (with_reducible refine (marked70_any b B _ V U I J yn un yi ui T4.out K4.out K5.out L4.out L5.out).mono ?_); rintro e w5 ⟨rfl, hb5⟩; have B5 : Hid (Below b w w5) := B4.out.trans (hb5.mono (by have := T4.out.le; omega)); clear hb5))
  go_ret
  exact ⟨rfl, B5.out⟩
theorem ap_more {rs us : List Rr} {L0 u L : Rr} (h : ∀ q ∈ rs ++ us, ApR q L) (h0 : ApR L0 L) (hu : ApR u L) : ∀ q ∈ (rs ++ [L0]) ++ (us ++ [u]), ApR q L := by
  intro q hq
  simp only [List.mem_append, List.mem_singleton] at hq
  rcases hq with (hq | rfl) | (hq | rfl)
  · exact h q (List.mem_append_left _ hq)
  · exact h0
  · exact h q (List.mem_append_right _ hq)
  · exact hu
theorem Sti.snoc {α : Type} [Rw α] {rs us : List Rr} {L u : Rr} (h : Sti α rs us) (E : List α) (h1 : L.n = E.length) (h2 : L.xs = flat E) (h3 : u.n = L.n) (h4 : u.xs = L.xs) (hE : E.length ≤ 4194304) : Sti α (rs ++ [L]) (us ++ [u]) := by
  refine ⟨by simp [h.1], fun i r v hr hv => ?_⟩
  rw [List.getElem?_append] at hr hv
  split at hr
  · rename_i hi
    rw [if_pos (by have := h.1; omega)] at hv
    exact h.2 i r v hr hv
  · rename_i hi
    rw [if_neg (by have := h.1; omega)] at hv
    have hi0 : i - rs.length = 0 := by
      rcases Nat.eq_zero_or_pos (i - rs.length) with h0 | h0
      · exact h0
      · rw [List.getElem?_eq_none (by simp; omega)] at hr; cases hr
    rw [hi0] at hr
    rw [← h.1, hi0] at hv
    simp at hr hv
    subst hr; subst hv
    exact ⟨E, h1, h2, by omega, by rw [h4, h2], hE⟩

theorem frm_low {b B g n1 n2 : Nat} {t1 t2 : TypeId} {V U : Value} {y1 y2 : List Value} {w w' : World} (hf : Frm b V U w w') (hV : w.ownsRow B t1 1 V n1 y1) (hU : w.ownsRow B t2 1 U n2 y2) (hg : g < B) (hb : g ≠ b) (hB : B ≤ w.heap.size) : w'.heap[g]? = w.heap[g]? :=
  hf.keep g (by omega) hb (fun h => by have := (hV.lt g h).1; omega) (fun h => by have := (hU.lt g h).1; omega)
end Go.Proofs.YtgijcbipnjmhgabGreat
