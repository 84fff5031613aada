import Derived.Test.YteolfolkolpehaaDoorCoV
import Derived.Test.YteolfolkolpehaaDoorSh
namespace Go.Proofs.YteolfolkolpehaaDoor
open Go.ChangeShapes Go.WideShapes Go.ChangeAt Go.RowKit
set_option linter.unusedVariables false

def whr (n : Nat) : List Rn := if n = 0 then [] else [⟨true, 0, n, ⟨#[]⟩⟩]

set_option maxHeartbeats 400000 in
theorem whole_row (n : Nat) (w : World) (hn : n ≤ 4611686018427387904) :
    Calls Tryd.prog 38 #[.int .i64 n] w fun e w' => ∃ a c, e = .returned (.slice a (whr n).length c) ∧ RnA w' a (whr n) ∧ Below w.heap.size w w' := by
  by_cases h0 : n = 0
  · subst h0
    go_enter Tryd.func38, Tryd.ntmps38
    go_wp2
    go_ret
    exact ⟨none, 0, rfl, .inl rfl, Below.refl _ _⟩
  · have hb : (((n : Nat) : Int) == 0) = false := by simp; omega
    have HW : Hid (whr n = [⟨true, 0, n, ⟨#[]⟩⟩]) := by unfold Hid whr; rw [if_neg h0]
    go_enter Tryd.func38, Tryd.ntmps38
    go_wp2
    go_ret
    rw [HW.out]
    refine ⟨some ⟨w.heap.size, 0, none⟩, 1, rfl, .inr ⟨w.heap.size, 0, rfl, Rns.of_flat (by simp) (cells_new w (flatR [⟨true, 0, n, ⟨#[]⟩⟩]) 94)⟩, by go_grown⟩

theorem grw_pre {a : List Ed} {k : Nat} {e : Ed} (h : a[k]? = some e) : grw (a.take (k + 1)) = grw (a.take k) + ((e.s.size : Int) - (e.t - e.f)) := by
  obtain ⟨hk, rfl⟩ := List.getElem?_eq_some_iff.1 h
  rw [List.take_succ_eq_append_getElem hk, grw_app, grw, grw]; omega

set_option maxRecDepth 1000000 in
set_option maxHeartbeats 1000000 in
theorem left_any (size : Int) (a1 : Option Addr) (c1 : Nat) (a : List Ed) (w : World) (h : EdsA w a1 a) (hs0 : 0 ≤ size) (hs1 : size ≤ 4611686018427387904) (hck : chk size 0 a = 0) (hl : a.length ≤ 65536) (hT : tots a ≤ 1048576) :
    Calls Tryd.prog 43 #[.int .i64 size, .slice a1 a.length c1] w fun e w' => e = .returned (.int .i64 (size + grw a)) ∧ Below w.heap.size w w' := by
  have H : Hid (EdsA w a1 a) := h
  have HK : Hid (∀ e ∈ a, 0 ≤ e.f ∧ e.f ≤ e.t ∧ e.t ≤ size) := chk_ok hck
  have HG : Hid (∀ k, -size ≤ grw (a.take k) ∧ grw (a.take k) ≤ tots a ∧ size + grw a - grw (a.take k) ≤ size + tots a) := grw_top hck hs0
  have HT : Hid (∀ e ∈ a, e.s.size ≤ 1048576) := fun e he => by
    have : ∀ {l : List Ed}, e ∈ l → e.s.size ≤ tots l := by
      intro l
      induction l with
      | nil => intro h; cases h
      | cons x r ih =>
        intro h
        rw [tots]
        rcases List.mem_cons.1 h with rfl | h
        · omega
        · have := ih h; omega
    have := this he; omega
  clear h hck
  go_enter Tryd.func43, Tryd.ntmps43
  go_wp2
  go_loopg [0, 5] a.length (fun gk ss si wr => ∃ (k : Nat), gk = a.length - k ∧ k ≤ a.length ∧ si = .int .i64 (k : Int) ∧ ss = .int .i64 (size + grw (a.take k)) ∧ Below w.heap.size w wr)
  case atStart => exact ⟨0, by omega, Nat.zero_le _, rfl, by simp [grw], Below.refl _ _⟩
  case round =>
    obtain ⟨k, rfl, hk, rfl, rfl, hbel⟩ := hrel
    have HB : Hid (Below w.heap.size w wr) := hbel
    clear hbel
    by_cases hlt : k < a.length
    · have hlt' : (k : Int) < (a.length : Int) := by omega
      obtain ⟨e, he⟩ : ∃ e, a[k]? = some e := ⟨_, List.getElem?_eq_getElem hlt⟩
      have heK := HK.out e (List.mem_of_getElem? he)
      have heT := HT.out e (List.mem_of_getElem? he)
      have hg := HG.out k
      have hgn := grw_pre he
      obtain ⟨ba, oa, hab, hE⟩ : ∃ ba oa, a1 = some ⟨ba, oa, none⟩ ∧ Eds w ba oa a := by
        rcases H.out with h0 | h0
        · rw [h0] at hlt; simp at hlt
        · exact h0
      subst hab
      obtain ⟨q0, q1, q2⟩ := hE.cells HB.out he
      have HGN : Hid (size + grw (a.take k) + ((e.s.size : Int) - (e.t - e.f)) = size + grw (a.take (k + 1))) := by unfold Hid; rw [hgn]; omega
      generalize grw (a.take k) = g at *
      have hg1 : -4611686018427387904 ≤ g := by omega
      have hg2 : g ≤ 1048576 := by omega
      clear hgn hE he hg
      go_upto_region 4 with fail
      have w1 : IntKind.i64.wrap (e.t - e.f) = e.t - e.f := IntWalk.i64_in _ ⟨by omega, by omega⟩
      have w2 : IntKind.i64.wrap ((e.s.size : Int) - (e.t - e.f)) = (e.s.size : Int) - (e.t - e.f) := IntWalk.i64_in _ ⟨by omega, by omega⟩
      have w3 : IntKind.i64.wrap (size + g + ((e.s.size : Int) - (e.t - e.f))) = size + g + ((e.s.size : Int) - (e.t - e.f)) := IntWalk.i64_in _ ⟨by omega, by omega⟩
      go_quiet (fail)
      have HBQ : Hid (Below w.heap.size w (wr.drewN nq)) := below_drewN HB.out _
      clear w1 w2 w3
      go_wp2
      go_roundg (a.length - (k + 1))
      case measure => omega
      case rel => exact ⟨k + 1, rfl, by omega, by go_num, by rw [← HGN.out], HBQ.out⟩
    · have hge : ¬ (k : Int) < (a.length : Int) := by omega
      have HZ : Hid (a.take k = a) := List.take_of_length_le (by omega)
      go_wp2
      go_ret
      exact ⟨ret_i64 (by rw [HZ.out]), HB.out⟩

theorem tR_mem {l : List Rn} {r : Rn} (h : r ∈ l) : r.s.size ≤ tR l := by
  induction l with
  | nil => cases h
  | cons x l ih =>
    rw [tR]
    rcases List.mem_cons.1 h with rfl | h
    · omega
    · have := ih h; omega

set_option maxRecDepth 1000000 in
set_option maxHeartbeats 2000000 in
theorem rcompose_all (size : Int) (a1 a2 : Option Addr) (c1 c2 : Nat) (a b : List Ed) (w : World) (hs0 : -9223372036854775808 ≤ size) (hs1 : size ≤ 9223372036854775807) (h1 : EdsA w a1 a) (h2 : EdsA w a2 b) (hl1 : a.length ≤ 1048576) (hl2 : b.length ≤ 1048576) (hTa : tots a ≤ 1048576) (hTb : tots b ≤ 1048576) :
    Calls Tryd.prog 18 #[.int .i64 size, .slice a1 a.length c1, .slice a2 b.length c2] w fun e w' => ∃ a' cap', e = .returned (.tuple #[.slice a' (cmpL size a b).length cap', .int .i64 (cmpE size a b)]) ∧ EdsA w' a' (cmpL size a b) ∧ Below w.heap.size w w' := by
  have H1 : Hid (EdsA w a1 a) := h1
  have H2 : Hid (EdsA w a2 b) := h2
  have HLa : Hid (a.length ≤ maxLen) := by unfold Hid maxLen; omega
  have HLb : Hid (b.length ≤ maxLen) := by unfold Hid maxLen; omega
  have HVA : Hid (∀ v, Below w.heap.size w v → Calls Tryd.prog 42 #[.int .i64 size, .slice a1 a.length c1] v fun e w' => e = .returned (.int .i64 (val62 size a)) ∧ Below v.heap.size v w') := fun v hv => rValid_all size a1 c1 a v hs0 hs1 (h1.below hv) HLa.out
  clear h1 h2
  by_cases hva : val62 size a = 0
  · obtain ⟨s0, s1, v1⟩ := val62_ok hva
    obtain ⟨hck, hla⟩ := vld_chk v1
    have hgt := grw_top hck s0 a.length
    rw [List.take_length] at hgt
    rw [hva] at HVA
    have HLF : Hid (∀ v, Below w.heap.size w v → Calls Tryd.prog 43 #[.int .i64 size, .slice a1 a.length c1] v fun e w' => e = .returned (.int .i64 (size + grw a)) ∧ Below v.heap.size v w') := fun v hv => left_any size a1 c1 a v (H1.out.below hv) s0 s1 hck hla hTa
    have HVB : Hid (∀ v, Below w.heap.size w v → Calls Tryd.prog 35 #[.int .i64 (size + grw a), .slice a2 b.length c2] v fun e w' => e = .returned (.int .i64 (vld (size + grw a) b)) ∧ Below v.heap.size v w') := fun v hv => rvalid_all (size + grw a) a2 c2 b v (by omega) (by omega) (H2.out.below hv) HLb.out
    by_cases hvb : vld (size + grw a) b = 0
    · obtain ⟨hckb, hlb⟩ := vld_chk hvb
      obtain ⟨n, hn⟩ := Int.eq_ofNat_of_zero_le s0
      subst hn
      obtain ⟨G, hG⟩ : ∃ G, gr (a.length + b.length) (lay 0 a) a b 0 = G := ⟨_, rfl⟩
      have hE : cmpE n a b = if G.length ≤ 65536 then 0 else 2 := by unfold cmpE; rw [if_pos hva, if_pos hvb, hG]
      have hL : cmpL n a b = if G.length ≤ 65536 then G else [] := by
        unfold cmpL; rw [hG]
        by_cases h : G.length ≤ 65536
        · rw [if_pos h, if_pos ⟨hva, hvb, h⟩]
        · rw [if_neg h, if_neg (fun x => h x.2.2)]
      obtain ⟨hrc, hg0⟩ := ref_comp hck hckb (whr n) rfl
      have hg0' : ∀ r ∈ whr n, RnG 4611686018427387904 r := fun r hr => by
        have := hg0 r hr
        exact ⟨fun ho => by have := this.1 ho; omega, this.2⟩
      have ht0 : tR (whr n) = 0 := by unfold whr; split <;> rfl
      have hl0 : (whr n).length ≤ 1 := by unfold whr; split <;> simp
      have hz0 : szs (whr n) = n := by
        unfold whr
        split
        · rename_i h; rw [h]; rfl
        · simp [szs, rsz]
      have hF0 : ∀ r ∈ whr n, RnF r := fun r hr => ⟨hg0' r hr, by have := tR_mem hr; omega⟩
      obtain ⟨l1, hl1'⟩ : ∃ l1, dq (whr n) 0 a = l1 := ⟨_, rfl⟩
      have hd1 := tR_dq (whr n) 0 a
      rw [ht0, Nat.mul_zero, Nat.zero_add, hl1'] at hd1
      have hg1 := dq_good hg0' (b := a) 0
      rw [hl1'] at hg1
      have hF1 : ∀ r ∈ l1, RnF r := fun r hr => ⟨hg1 r hr, by have := tR_mem hr; omega⟩
      have hn1 : l1.length ≤ 131074 := by
        have h := dq_len (whr n) 0 a
        rw [hl1'] at h
        have : (a.length + 1) * ((whr n).length + 1) ≤ 65537 * 2 := Nat.mul_le_mul (by omega) (by omega)
        omega
      have hz1 : szs l1 = n + grw a := by
        rw [szs_toks hg1, ← hl1', DT_toks hg0']
        have ht : toks (whr n) = oseg 0 n := by
          unfold whr
          split
          · rename_i h; rw [h]; rfl
          · rw [toks_cons]; unfold rtk; simp [toks]
        rw [ht, DT_whole hck (Int.le_refl _) (Int.le_refl _) (by omega), wdt_IE (ch_chk hck (Int.le_refl _) (by omega))]
        omega
      obtain ⟨l2, hl2'⟩ : ∃ l2, dq l1 0 b = l2 := ⟨_, rfl⟩
      have hg2 := dq_good hg1 (b := b) 0
      rw [hl2'] at hg2
      have hn2 : l2.length ≤ 1099511627776 := by
        have h := dq_len l1 0 b
        rw [hl2'] at h
        have : (b.length + 1) * (l1.length + 1) ≤ 65537 * 131075 := Nat.mul_le_mul (by omega) (by omega)
        omega
      have hd2 : tR l2 ≤ 1099511627776 := by
        have h := tR_dq l1 0 b
        rw [hl2'] at h
        have : (b.length + 1) * tR l1 ≤ 65537 * 1048576 := Nat.mul_le_mul (by omega) (by omega)
        omega
      rw [hl1', hl2', hG] at hrc
      have HWH : Hid (∀ v, Calls Tryd.prog 38 #[.int .i64 (n : Int)] v fun e w' => ∃ a c, e = .returned (.slice a (whr n).length c) ∧ RnA w' a (whr n) ∧ Below v.heap.size v w') := fun v => whole_row n v (by omega)
      have HD1 : Hid (∀ v a0 c0, Below w.heap.size w v → RnA v a0 (whr n) → Calls Tryd.prog 37 #[.slice a0 (whr n).length c0, .slice a1 a.length c1] v fun e w' => ∃ a' c', e = .returned (.slice a' l1.length c') ∧ RnA w' a' l1 ∧ Below v.heap.size v w') := fun v a0 c0 hv h0 => by
        have := done_row a0 c0 (whr n) a1 c1 a v h0 hF0 (by omega) (by omega) (H1.out.below hv) hla (fun e he => by have := chk_ok hck e he; omega)
        rw [hl1'] at this
        refine this.mono ?_
        rintro e w' ⟨u, rfl, ho, hb⟩
        obtain ⟨a', c', rfl, hr, -, -⟩ := own_formR ho
        exact ⟨a', c', rfl, hr, hb⟩
      have HD2 : Hid (∀ v a0 c0, Below w.heap.size w v → RnA v a0 l1 → Calls Tryd.prog 37 #[.slice a0 l1.length c0, .slice a2 b.length c2] v fun e w' => ∃ a' c', e = .returned (.slice a' l2.length c') ∧ RnA w' a' l2 ∧ Below v.heap.size v w') := fun v a0 c0 hv h0 => by
        have := done_row a0 c0 l1 a2 c2 b v h0 hF1 hn1 (by omega) (H2.out.below hv) hlb (fun e he => by have := chk_ok hckb e he; omega)
        rw [hl2'] at this
        refine this.mono ?_
        rintro e w' ⟨u, rfl, ho, hb⟩
        obtain ⟨a', c', rfl, hr, -, -⟩ := own_formR ho
        exact ⟨a', c', rfl, hr, hb⟩
      have HLI : Hid (∀ v a0 c0, RnA v a0 l2 → Calls Tryd.prog 44 #[.slice a0 l2.length c0, .int .i64 (n : Int)] v fun e w' => ∃ a' c', e = .returned (.slice a' G.length c') ∧ EdsA w' a' G ∧ Below v.heap.size v w') := fun v a0 c0 h0 => by
        have := List_any a0 c0 l2 n v h0 hn2 (by omega) (by omega) hg2 hd2
        rw [hrc] at this
        refine this.mono ?_
        rintro e w' ⟨u, rfl, ho, hb⟩
        obtain ⟨a', c', rfl, hr, -, -⟩ := own_form ho
        exact ⟨a', c', rfl, hr, hb⟩
      have hGb : G.length ≤ 1099511627777 := by
        rw [← hrc]
        have : ∀ {l : List Rn} (last : Int) (op : Bool) (tx : List UInt8), (lq n last op tx l).length ≤ l.length + 1 := by
          intro l
          induction l with
          | nil => intro last op tx; rw [lq]; split <;> simp
          | cons r l ih =>
            intro last op tx
            rw [lq]
            split
            · split
              · have := ih r.t false []; simp; omega
              · have := ih r.t false []; simp; omega
            · have := ih last true (tx ++ r.s.data.toList); simp; omega
        have := this (l := l2) 0 false []
        omega
      rw [hvb] at HVB
      rw [hE, hL]
      clear hE hL hrc hg0 hg0' ht0 hl0 hz0 hF0 hl1' hd1 hg1 hF1 hn1 hz1 hl2' hg2 hn2 hd2 hG hck hckb v1 hva hvb
      by_cases hmn : G.length ≤ 65536
      · have hmn' : ¬ (65536 : Int) < (G.length : Int) := by omega
        rw [if_pos hmn, if_pos hmn]
        go_enter Tryd.func18, Tryd.ntmps18
        go_wp2_with (first
          | (go_at_call 42; (with_reducible refine (HVA.out _ (Below.refl _ _)).mono ?_); rintro e w3 ⟨rfl, hb3⟩; have HB3 : Hid (Below w.heap.size w w3) := hb3; clear hb3)
          | (go_at_call 43; (with_reducible refine (HLF.out _ HB3.out).mono ?_); rintro e w4 ⟨rfl, hb4⟩; have HB4 : Hid (Below w.heap.size w w4) := HB3.out.trans (hb4.mono HB3.out.size); clear hb4)
          | (go_at_call 35; (with_reducible refine (HVB.out _ HB4.out).mono ?_); rintro e w5 ⟨rfl, hb5⟩; have HB5 : Hid (Below w.heap.size w w5) := HB4.out.trans (hb5.mono HB4.out.size); clear hb5)
          | (go_at_call 38; (with_reducible refine (HWH.out _).mono ?_); rintro e w6 ⟨x6, k6, rfl, g6, hb6⟩; have HB6 : Hid (Below w.heap.size w w6) := HB5.out.trans (hb6.mono HB5.out.size); have HR6 : Hid (RnA w6 x6 (whr n)) := g6; clear hb6 g6)
          | (go_at_call 37; (with_reducible refine (HD1.out _ _ _ HB6.out HR6.out).mono ?_); rintro e w7 ⟨x7, k7, rfl, g7, hb7⟩; have HB7 : Hid (Below w.heap.size w w7) := HB6.out.trans (hb7.mono HB6.out.size); have HR7 : Hid (RnA w7 x7 l1) := g7; clear hb7 g7)
          | (go_at_call 37; (with_reducible refine (HD2.out _ _ _ HB7.out HR7.out).mono ?_); rintro e w8 ⟨x8, k8, rfl, g8, hb8⟩; have HB8 : Hid (Below w.heap.size w w8) := HB7.out.trans (hb8.mono HB7.out.size); have HR8 : Hid (RnA w8 x8 l2) := g8; clear hb8 g8)
          | (go_at_call 44; (with_reducible refine (HLI.out _ _ _ HR8.out).mono ?_); rintro e w9 ⟨x9, k9, rfl, g9, hb9⟩; have HB9 : Hid (Below w.heap.size w w9) := HB8.out.trans (hb9.mono HB8.out.size); have HR9 : Hid (EdsA w9 x9 G) := g9; clear hb9 g9))
        go_ret2
        exact ⟨_, _, rfl, HR9.out, HB9.out⟩
      · have hmn' : (65536 : Int) < (G.length : Int) := by omega
        rw [if_neg hmn, if_neg hmn]
        go_enter Tryd.func18, Tryd.ntmps18
        go_wp2_with (first
          | (go_at_call 42; (with_reducible refine (HVA.out _ (Below.refl _ _)).mono ?_); rintro e w3 ⟨rfl, hb3⟩; have HB3 : Hid (Below w.heap.size w w3) := hb3; clear hb3)
          | (go_at_call 43; (with_reducible refine (HLF.out _ HB3.out).mono ?_); rintro e w4 ⟨rfl, hb4⟩; have HB4 : Hid (Below w.heap.size w w4) := HB3.out.trans (hb4.mono HB3.out.size); clear hb4)
          | (go_at_call 35; (with_reducible refine (HVB.out _ HB4.out).mono ?_); rintro e w5 ⟨rfl, hb5⟩; have HB5 : Hid (Below w.heap.size w w5) := HB4.out.trans (hb5.mono HB4.out.size); clear hb5)
          | (go_at_call 38; (with_reducible refine (HWH.out _).mono ?_); rintro e w6 ⟨x6, k6, rfl, g6, hb6⟩; have HB6 : Hid (Below w.heap.size w w6) := HB5.out.trans (hb6.mono HB5.out.size); have HR6 : Hid (RnA w6 x6 (whr n)) := g6; clear hb6 g6)
          | (go_at_call 37; (with_reducible refine (HD1.out _ _ _ HB6.out HR6.out).mono ?_); rintro e w7 ⟨x7, k7, rfl, g7, hb7⟩; have HB7 : Hid (Below w.heap.size w w7) := HB6.out.trans (hb7.mono HB6.out.size); have HR7 : Hid (RnA w7 x7 l1) := g7; clear hb7 g7)
          | (go_at_call 37; (with_reducible refine (HD2.out _ _ _ HB7.out HR7.out).mono ?_); rintro e w8 ⟨x8, k8, rfl, g8, hb8⟩; have HB8 : Hid (Below w.heap.size w w8) := HB7.out.trans (hb8.mono HB7.out.size); have HR8 : Hid (RnA w8 x8 l2) := g8; clear hb8 g8)
          | (go_at_call 44; (with_reducible refine (HLI.out _ _ _ HR8.out).mono ?_); rintro e w9 ⟨x9, k9, rfl, g9, hb9⟩; have HB9 : Hid (Below w.heap.size w w9) := HB8.out.trans (hb9.mono HB8.out.size); have HR9 : Hid (EdsA w9 x9 G) := g9; clear hb9 g9))
        go_ret2
        exact ⟨none, 0, rfl, .inl rfl, HB9.out⟩
    · have hE : cmpE size a b = vld (size + grw a) b := by unfold cmpE; rw [if_pos hva, if_neg hvb]
      have hL : cmpL size a b = [] := by unfold cmpL; rw [if_neg (fun x => hvb x.2.1)]
      have hne : (vld (size + grw a) b != 0) = true := by simpa using hvb
      rw [hE, hL]
      obtain ⟨vb, hvb'⟩ : ∃ vb, vld (size + grw a) b = vb := ⟨_, rfl⟩
      rw [hvb'] at HVB hne
      rw [hvb']
      clear hE hL hvb hva v1 hck hvb'
      go_enter Tryd.func18, Tryd.ntmps18
      go_wp2_with (first
        | (go_at_call 42; (with_reducible refine (HVA.out _ (Below.refl _ _)).mono ?_); rintro e w3 ⟨rfl, hb3⟩; have HB3 : Hid (Below w.heap.size w w3) := hb3; clear hb3)
        | (go_at_call 43; (with_reducible refine (HLF.out _ HB3.out).mono ?_); rintro e w4 ⟨rfl, hb4⟩; have HB4 : Hid (Below w.heap.size w w4) := HB3.out.trans (hb4.mono HB3.out.size); clear hb4)
        | (go_at_call 35; (with_reducible refine (HVB.out _ HB4.out).mono ?_); rintro e w5 ⟨rfl, hb5⟩; have HB5 : Hid (Below w.heap.size w w5) := HB4.out.trans (hb5.mono HB4.out.size); clear hb5))
      go_ret2
      exact ⟨none, 0, rfl, .inl rfl, HB5.out⟩
  · have hE : cmpE size a b = val62 size a := by unfold cmpE; rw [if_neg hva]
    have hL : cmpL size a b = [] := by unfold cmpL; rw [if_neg (fun x => hva x.1)]
    have hne : (val62 size a != 0) = true := by simpa using hva
    rw [hE, hL]
    generalize val62 size a = va at *
    clear hE hL hva
    go_enter Tryd.func18, Tryd.ntmps18
    go_wp2_with (first
      | (go_at_call 42; (with_reducible refine (HVA.out _ (Below.refl _ _)).mono ?_); rintro e w3 ⟨rfl, hb3⟩; have HB3 : Hid (Below w.heap.size w w3) := hb3; clear hb3))
    go_ret2
    exact ⟨none, 0, rfl, .inl rfl, HB3.out⟩
end Go.Proofs.YteolfolkolpehaaDoor
