import Derived.Test.YtmnbakalcpanlaaGreatDoorTm0
namespace Go.Proofs.YtmnbakalcpanlaaGreatDoor
open Go.ChangeShapes Go.WideShapes Go.ChangeAt Go.RowKit Go.Maps Go.WideMaps
set_option linter.unusedVariables false
set_option linter.unusedSimpArgs false

theorem Tre.look {w : World} {B : Nat} {T : List Tn} {A : Nat → Nat} {V : Nat → Value} (h : Tre w B T A V) {i : Nat} {t : Tn} (hi : T[i]? = some t) :
    ∃ (a : Option Addr) (cap : Nat), V i = .slice a t.ch.length cap ∧ ∀ (k j : Nat), t.ch[k]? = some j → ∃ g, a = some ⟨g, 0, none⟩ ∧ g < w.heap.size ∧ t.ch.length ≤ cap ∧ w.cell? ⟨g, k, none⟩ = some (ptrT A j) := by
  have hr := h.row i t hi
  rcases hr.2 with ⟨hv, hn⟩ | ⟨g, cap, cur, hv, hg, hh, hnc, hcm, hcs, htk⟩
  · refine ⟨none, 0, by rw [hv, hn], fun k j hk => ?_⟩
    have := (List.getElem?_eq_some_iff.1 hk).1
    omega
  · refine ⟨some ⟨g, 0, none⟩, cap, hv, fun k j hk => ⟨g, rfl, lt_of_block hh, hnc, ?_⟩⟩
    have := hr.cells (g := g) (by rw [hv]; rfl) k (ptrT A j) (by rw [List.getElem?_map, hk]; rfl)
    rw [addr_add] at this
    simpa using this

set_option maxRecDepth 1000000 in
set_option maxHeartbeats 4000000 in
theorem on_any (B : Nat) (T : List Tn) (A : Nat → Nat) (V : Nat → Value) (i c : Nat) (t : Tn) (hi : T[i]? = some t) (hc : c < 256) (hl : T.length ≤ 1000) (w : World) (h : Tre w B T A V) :
    Calls Tryz.prog 59 #[.pointer (some ⟨A i, 0, none⟩), .int .u8 (c : Int)] w fun e w' => e = .returned (ptrO A (onT T i c)) ∧ w' = w := by
  have hX := (h.box i t hi).2
  have hAi := hX.lt
  have x2 := hX.cell 2
  obtain ⟨a, cap, hv, hcell⟩ := h.look hi
  have HC : Hid (∀ (k j : Nat), t.ch[k]? = some j → ∃ g, a = some ⟨g, 0, none⟩ ∧ g < w.heap.size ∧ t.ch.length ≤ cap ∧ w.cell? ⟨g, k, none⟩ = some (ptrT A j)) := hcell
  have hlim := (h.lim i t hi).2.2
  have HK : Hid (∀ j ∈ t.ch, ∃ tj, T[j]? = some tj ∧ tj.f < 256 ∧ w.cell? ⟨A j, 0, none⟩ = some (.int .u8 (tj.f : Int)) ∧ A j < w.heap.size) := fun j hj => by
    have hjl := h.kid i t hi j hj
    have hj' := List.getElem?_eq_getElem hjl
    exact ⟨_, hj', (h.lim j _ hj').1, (h.box j _ hj').2.cell 0, (h.box j _ hj').2.lt⟩
  have hO : onT T i c = t.ch.find? fun j => (T.getD j tz).f == c := by unfold onT; rw [getD_of hi]
  obtain ⟨O, hO2⟩ : ∃ O, onT T i c = O := ⟨_, rfl⟩
  have HO : Hid ((t.ch.drop 0).find? (fun j => (T.getD j tz).f == c) = O) := by unfold Hid; rw [List.drop_zero, ← hO, hO2]
  rw [hO2]
  rw [hv] at x2
  simp at x2
  clear hcell hv hX hO hO2 h
  go_enter Tryz.func59, Tryz.ntmps59
  go_wp2
  go_loopw [12] (fun si wr => ∃ k : Nat, k ≤ t.ch.length ∧ si = .int .i64 (k : Int) ∧ (t.ch.drop k).find? (fun j => (T.getD j tz).f == c) = O ∧ wr = w) (fun si _ => t.ch.length - (intOf si).toNat)
  case atStart => exact ⟨0, Nat.zero_le _, rfl, HO.out, by first | rfl | trivial⟩
  case round =>
    obtain ⟨k, hk, rfl, hfi, rfl⟩ := hrel
    by_cases hlt : k < t.ch.length
    · have hlt' : (k : Int) < (t.ch.length : Int) := by omega
      obtain ⟨j, hj⟩ : ∃ j, t.ch[k]? = some j := ⟨_, List.getElem?_eq_getElem hlt⟩
      obtain ⟨g, rfl, hg, hcap, hcj⟩ := HC.out k j hj
      obtain ⟨tj, hTj, hf, hc0, hAj⟩ := HK.out j (List.mem_of_getElem? hj)
      have hdr : t.ch.drop k = j :: t.ch.drop (k + 1) := by
        rw [List.drop_eq_getElem_cons hlt]
        congr 1
        rw [List.getElem?_eq_getElem hlt] at hj
        exact Option.some.inj hj
      rw [hdr, List.find?_cons, getD_of hTj] at hfi
      rw [show ptrT A j = .pointer (some ⟨A j, 0, none⟩) from rfl] at hcj
      by_cases he : tj.f = c
      · have hee : ((tj.f : Int) == (c : Int)) = true := by simp; omega
        rw [show (tj.f == c) = true by simp [he]] at hfi
        simp only at hfi
        subst hfi
        go_wp2
        go_ret
        exact ⟨rfl, rfl⟩
      · have hee : ((tj.f : Int) == (c : Int)) = false := by simp; omega
        rw [show (tj.f == c) = false by simp [he]] at hfi
        simp only at hfi
        go_wp2
        go_roundw
        case rel => exact ⟨k + 1, by omega, by go_num, hfi, by first | rfl | trivial⟩
        case measure => simp [intOf]; omega
    · have hge : ¬ (k : Int) < (t.ch.length : Int) := by omega
      rw [List.drop_of_length_le (by omega)] at hfi
      simp at hfi
      subst hfi
      go_wp2
      go_ret
      exact ⟨rfl, rfl⟩
end Go.Proofs.YtmnbakalcpanlaaGreatDoor

namespace Go.Proofs.YtmnbakalcpanlaaGreatDoor
open Go.ChangeShapes Go.WideShapes Go.ChangeAt Go.RowKit Go.Maps Go.WideMaps
set_option linter.unusedVariables false
set_option linter.unusedSimpArgs false

theorem infoPB : (Tryz.prog.info? 75).map (fun i => (i.zero, i.size, i.bytes)) = some (some (.pointer none), 1, 8) := by kernel_rfl
/-- trees of the same nodes' places, as far as the first of them -/
def Ext (A A' : Nat → Nat) (n : Nat) : Prop := ∀ j, j < n → A' j = A j

set_option maxRecDepth 1000000 in
set_option maxHeartbeats 4000000 in
theorem grown_any (B : Nat) (T : List Tn) (A : Nat → Nat) (V : Nat → Value) (i c : Nat) (t : Tn) (hi : T[i]? = some t) (hc : c < 256) (hl : T.length ≤ 1000) (w : World) (hB : B ≤ w.heap.size) (h : Tre w B T A V) :
    Calls Tryz.prog 83 #[.pointer (some ⟨A i, 0, none⟩), .int .u8 (c : Int)] w fun e w' => ∃ A' V', e = .returned (ptrT A' (growT T i c).2) ∧ Tre w' B (growT T i c).1 A' V' ∧ Ext A A' T.length ∧ (growT T i c).2 < (growT T i c).1.length ∧ T.length ≤ (growT T i c).1.length ∧ (growT T i c).1.length ≤ T.length + 1 ∧ Below B w w' := by
  obtain ⟨i0, hif, hz0, hz1, hz2⟩ := info_parts infoPB
  have hX := (h.box i t hi).2
  have hAi := hX.lt
  have x2 := hX.cell 2
  simp at x2
  have f2 := hX.free 2
  have HON : Hid (Calls Tryz.prog 59 #[.pointer (some ⟨A i, 0, none⟩), .int .u8 (c : Int)] w fun e w' => e = .returned (ptrO A (onT T i c)) ∧ w' = w) := on_any B T A V i c t hi hc hl w h
  cases hO : onT T i c with
  | some j =>
    have hg : growT T i c = (T, j) := by unfold growT; rw [hO]
    rw [hO] at HON
    have HON' : Hid (Calls Tryz.prog 59 #[.pointer (some ⟨A i, 0, none⟩), .int .u8 (c : Int)] w fun e w' => e = .returned (.pointer (some ⟨A j, 0, none⟩)) ∧ w' = w) := HON
    have hj : j < T.length := by
      unfold onT at hO
      rw [getD_of hi] at hO
      exact h.kid i t hi j (List.mem_of_find?_eq_some hO)
    rw [hg]
    have H : Hid (Tre w B T A V) := h
    clear HON hO hg h
    go_enter Tryz.func83, Tryz.ntmps83
    go_wp2_with (go_at_call 59; (with_reducible refine HON'.out.mono ?_); rintro e w3 ⟨rfl, hw3⟩; subst hw3)
    go_ret
    exact ⟨A, V, rfl, H.out, fun _ _ => rfl, hj, Nat.le_refl _, by simp, Below.refl _ _⟩
  | none =>
    have hg : growT T i c = (newT T i c, T.length) := by unfold growT; rw [hO]
    rw [hO] at HON
    have HON' : Hid (Calls Tryz.prog 59 #[.pointer (some ⟨A i, 0, none⟩), .int .u8 (c : Int)] w fun e w' => e = .returned (.pointer none) ∧ w' = w) := HON
    rw [hg]
    have H : Hid (Tre w B T A V) := h
    have hr := h.row i t hi
    have HR : Hid (w.ownsRow B 75 1 (V i) t.ch.length (t.ch.map (ptrT A))) := hr
    have hlim := (h.lim i t hi).2.2
    have hne := h.ne hi hr
    obtain ⟨v, hv⟩ : ∃ v, V i = v := ⟨_, rfl⟩
    have HV : Hid (V i = v) := hv
    rw [hv] at x2 HR hne
    have HNE : Hid (v.ownBlock ≠ some (A i)) := hne
    have HX : Hid (Bx w (A i) #[.int .u8 (t.f : Int), .int .u8 (t.k : Int), v] 114) := by unfold Hid; rw [← hv]; exact hX
    clear HON hO hg h hr hv hX hne
    go_enter Tryz.func83, Tryz.ntmps83
    go_wp2_with (first
      | (go_at_call 59; (with_reducible refine HON'.out.mono ?_); rintro e w3 ⟨rfl, hw3⟩; subst hw3)
      | (at_builtin; (refine wpList_append_at _ rfl (.tmp 20) (.tmp 22) 112 rfl B 75 i0 (.pointer none) 1 8 Tryz.underlying112 hif hz0 hz1 hz2 rfl (by decide) _ t.ch.length (t.ch.map (ptrT A)) rfl ((HR.out.alloc _).alloc _) (some ⟨w3.heap.size + 1, 0, none⟩) 1 1 [.pointer (some ⟨w3.heap.size, 0, none⟩)] rfl rfl (fun h => by cases h) (fun ad had => by cases had; have := cells_new (w3.alloc (.cells #[.int .u8 (c : Int), .int .u8 0, .slice none 0 0] 114)) [.pointer (some ⟨w3.heap.size, 0, none⟩)] 75; simpa using this) (fun u hu => by simp at hu; subst hu; rfl) (by unfold maxLen; omega) (by omega) (by simp; omega) ?_); intro v5 w5 ho5 hg5 hv5; obtain ⟨g5, k5, rfl⟩ : ∃ g k, v5 = .slice (some ⟨g, 0, none⟩) (t.ch.length + 1) k := (by rcases ho5.2 with ⟨-, e⟩ | ⟨g, k, cur, e, -⟩; omega; exact ⟨g, k, e⟩); have HO5 : Hid (w5.ownsRow B 75 1 (.slice (some ⟨g5, 0, none⟩) (t.ch.length + 1) k5) (t.ch.length + 1) (t.ch.map (ptrT A) ++ [.pointer (some ⟨w3.heap.size, 0, none⟩)])) := ho5; have HG5 : Hid (((w3.alloc (.cells #[.int .u8 (c : Int), .int .u8 0, .slice none 0 0] 114)).alloc (.cells #[.pointer (some ⟨w3.heap.size, 0, none⟩)] 75)).grownBy w5 v.ownBlock) := hg5; have HV5 : Hid ((Value.slice (some ⟨g5, 0, none⟩) (t.ch.length + 1) k5).ownBlock = v.ownBlock ∨ (Value.slice (some ⟨g5, 0, none⟩) (t.ch.length + 1) k5).ownBlock = some (w3.heap.size + 2)) := (by unfold Hid; rcases hv5 with e | e; exact .inl e; exact .inr (e.trans (by simp))); have HX5 : Hid (Bx w5 (A i) #[.int .u8 (t.f : Int), .int .u8 (t.k : Int), v] 114) := (hg5.block (A i) (by simp; omega) (fun e => HNE.out e.symm)).trans ((HX.out.alloc _).alloc _); have y2 := HX5.out.cell 2; have g2 := HX5.out.free 2; have hA5 := HX5.out.lt; simp at y2; clear ho5 hg5 hv5))
    go_ret
    have HG6 := HG5.out
    have HV6 := HV5.out
    rw [← HV.out] at HG6 HV6
    obtain ⟨k1, k2⟩ := H.out.grow hB hi hc HO5.out HG6 HV6
    refine ⟨_, _, ?_, k1, fun j hj => by unfold upA; rw [if_neg (by omega)], by rw [newT_len]; simp, by rw [newT_len]; omega, by rw [newT_len]; omega, k2⟩
    simp [ptrT, upA]
end Go.Proofs.YtmnbakalcpanlaaGreatDoor

namespace Go.Proofs.YtmnbakalcpanlaaGreatDoor
open Go.ChangeShapes Go.WideShapes Go.ChangeAt Go.RowKit Go.Maps Go.WideMaps
set_option linter.unusedVariables false
set_option linter.unusedSimpArgs false

theorem insT_snoc (c : UInt8) : ∀ (l : List UInt8) (T : List Tn) (i : Nat), insT T i (l ++ [c]) = growT (insT T i l).1 (insT T i l).2 c.toNat
  | [], T, i => rfl
  | d :: l, T, i => by
    show insT (growT T i d.toNat).1 (growT T i d.toNat).2 (l ++ [c]) = _
    rw [insT_snoc c l]
    rfl
theorem spl_mk (n : Nat) (h : n < 48) : spl.getD (32 + n) [] = mks.getD n [] := by
  have : ∀ n, n < 48 → spl.getD (32 + n) [] = mks.getD n [] := by decide
  exact this n h
theorem mk_short (n : Nat) (h : n < 48) : (mks.getD n []).length ≤ 3 := by
  have : ∀ n, n < 48 → (mks.getD n []).length ≤ 3 := by decide
  exact this n h

set_option maxRecDepth 1000000 in
set_option maxHeartbeats 8000000 in
theorem markTree_any (w : World) (hS : Spl w) :
    Calls Tryz.prog 73 #[] w fun e w' => ∃ A V, e = .returned (ptrT A 0) ∧ A 0 = w.heap.size ∧ Tre w' w.heap.size (mkT 48) A V ∧ Below w.heap.size w w' := by
  have HS : Hid (∀ v, Below w.heap.size w v → Spl v) := fun v hv => hS.below hv
  clear hS
  go_enter Tryz.func73, Tryz.ntmps73
  go_wp2
  go_loopw [2] (fun si wr => ∃ (n N : Nat) (A : Nat → Nat) (V : Nat → Value), n ≤ 48 ∧ si = .int .u8 (N : Int) ∧ N = 32 + n ∧ A 0 = w.heap.size ∧ 0 < (mkT n).length ∧ (mkT n).length ≤ 1 + 3 * n ∧ Tre wr w.heap.size (mkT n) A V ∧ Below w.heap.size w wr) (fun si _ => 80 - (intOf si).toNat)
  case atStart =>
    refine ⟨0, 32, fun _ => w.heap.size, fun _ => .slice none 0 0, Nat.zero_le _, rfl, rfl, rfl, by decide, by decide, ?_, (Below.refl _ w).alloc (Nat.le_refl _) _⟩
    have one : ∀ i t, (mkT 0)[i]? = some t → i = 0 ∧ t = tz := by
      intro i t hi
      match i with
      | 0 => exact ⟨rfl, (Option.some.inj hi).symm⟩
      | i + 1 => cases hi
    refine ⟨?_, ?_, ?_, ?_, ?_, ?_⟩
    · intro i t hi
      obtain ⟨rfl, rfl⟩ := one i t hi
      exact ⟨Nat.le_refl _, Bx.new _ _ _⟩
    · intro i t hi
      obtain ⟨rfl, rfl⟩ := one i t hi
      exact World.ownsRow_nil _ _ _ _
    · intro i j hi hj _
      simp [mkT] at hi hj
      omega
    · intro i j hi hj hne
      simp [mkT] at hi hj
      omega
    · intro i t hi
      obtain ⟨rfl, rfl⟩ := one i t hi
      intro j hj
      cases hj
    · intro i t hi
      obtain ⟨rfl, rfl⟩ := one i t hi
      exact ⟨by decide, by decide, by decide⟩
  case round =>
    obtain ⟨n, N, A, V, hn, rfl, hN, hA0, hT0, hTl, htre, hbel⟩ := hrel
    have HN : Hid (N = 32 + n) := hN
    have HB : Hid (Below w.heap.size w wr) := hbel
    have HT : Hid (Tre wr w.heap.size (mkT n) A V) := htre
    have HA0 : Hid (A 0 = w.heap.size) := hA0
    clear htre hbel hA0
    by_cases hlt : n < 48
    · have hle : (N : Int) ≤ 79 := by omega
      have hN80 : N < 80 := by omega
      have hd79 : decide ((N : Int) ≤ 79) = true := by simp; omega
      have hms := mk_short n hlt
      obtain ⟨m, hm⟩ : ∃ m, mks.getD n [] = m := ⟨_, rfl⟩
      have HSC : Hid (∀ v, Below w.heap.size w v → v.cell? ⟨0, N, none⟩ = some (.string ⟨m.toArray⟩) ∧ 0 < v.heap.size) := fun v hv => by
        have h := (HS.out v hv).2 (32 + n) (by omega)
        rw [spl_mk n hlt, hm, ← hN] at h
        exact ⟨h, (HS.out v hv).1⟩
      rw [hm] at hms
      obtain ⟨c0, g0⟩ := HSC.out wr HB.out
      have HMK : Hid (mkT (n + 1) = setK (insT (mkT n) 0 m).1 (insT (mkT n) 0 m).2 (32 + n)) := by unfold Hid; rw [← hm]; rfl
      have hzs : (⟨m.toArray⟩ : ByteArray).size = m.length := by show m.toArray.size = _; simp
      have hzi : ∀ j (h : j < (⟨m.toArray⟩ : ByteArray).size) (h2 : j < m.length), (⟨m.toArray⟩ : ByteArray)[j]'h = m[j]'h2 := fun j h h2 => rfl
      obtain ⟨S, hSS⟩ : ∃ S : ByteArray, ⟨m.toArray⟩ = S := ⟨_, rfl⟩
      rw [hSS] at hzs c0 HSC
      have HZI : Hid (∀ j (h : j < S.size) (h2 : j < m.length), S[j]'h = m[j]'h2) := by subst hSS; exact hzi
      clear hzi hSS hm hN
      go_wp2
      go_loopw [3, 16] (fun s3 si wi => ∃ (i P : Nat) (A : Nat → Nat) (V : Nat → Value), i ≤ m.length ∧ s3 = .pointer (some ⟨P, 0, none⟩) ∧ P = A (insT (mkT n) 0 (m.take i)).2 ∧ si = .int .i64 (i : Int) ∧ A 0 = w.heap.size ∧ (insT (mkT n) 0 (m.take i)).2 < (insT (mkT n) 0 (m.take i)).1.length ∧ (insT (mkT n) 0 (m.take i)).1.length ≤ 1 + 3 * n + i ∧ Tre wi w.heap.size (insT (mkT n) 0 (m.take i)).1 A V ∧ Below w.heap.size w wi) (fun _ si _ => m.length - (intOf si).toNat)
      case atStart => exact ⟨0, w.heap.size, A, V, Nat.zero_le _, rfl, HA0.out.symm, rfl, HA0.out, hT0, by show (mkT n).length ≤ _; omega, HT.out, HB.out⟩
      case round =>
        clear HT HB HA0 c0 g0 hT0 hTl hd79
        obtain ⟨i, P, A, V, hi, rfl, hP, rfl, hA0, hG2, hGl, htre, hbel⟩ := hrel
        have HB : Hid (Below w.heap.size w wr) := hbel
        have HT : Hid (Tre wr w.heap.size (insT (mkT n) 0 (m.take i)).1 A V) := htre
        have HA0 : Hid (A 0 = w.heap.size) := hA0
        have HP : Hid (P = A (insT (mkT n) 0 (m.take i)).2) := hP
        obtain ⟨t, ht⟩ : ∃ t, (insT (mkT n) 0 (m.take i)).1[(insT (mkT n) 0 (m.take i)).2]? = some t := ⟨_, List.getElem?_eq_getElem hG2⟩
        have HTT : Hid ((insT (mkT n) 0 (m.take i)).1[(insT (mkT n) 0 (m.take i)).2]? = some t) := ht
        obtain ⟨c0, g0⟩ := HSC.out wr hbel
        clear hbel htre hA0 hP ht
        by_cases hil : i < m.length
        · have hil' : (i : Int) < (m.length : Int) := by omega
          have hil2 : (i : Int) < (S.size : Int) := by omega
          have hiS : i < S.size := by omega
          obtain ⟨c, hc⟩ : ∃ c, (S[i]'hiS).toNat = c := ⟨_, rfl⟩
          have hci : (m[i]'hil).toNat = c := by rw [← HZI.out i hiS hil, hc]
          have hc256 : c < 256 := by rw [← hc]; exact (S[i]'hiS).toNat_lt
          have hsn : m.take (i + 1) = m.take i ++ [m[i]'hil] := by rw [List.take_add_one, List.getElem?_eq_getElem hil]; rfl
          have HST : Hid (insT (mkT n) 0 (m.take (i + 1)) = growT (insT (mkT n) 0 (m.take i)).1 (insT (mkT n) 0 (m.take i)).2 c) := by unfold Hid; rw [hsn, insT_snoc, hci]
          have HGR : Hid (Calls Tryz.prog 83 #[.pointer (some ⟨P, 0, none⟩), .int .u8 (c : Int)] wr fun e w' => ∃ A' V', e = .returned (ptrT A' (growT (insT (mkT n) 0 (m.take i)).1 (insT (mkT n) 0 (m.take i)).2 c).2) ∧ Tre w' w.heap.size (growT (insT (mkT n) 0 (m.take i)).1 (insT (mkT n) 0 (m.take i)).2 c).1 A' V' ∧ Ext A A' (insT (mkT n) 0 (m.take i)).1.length ∧ (growT (insT (mkT n) 0 (m.take i)).1 (insT (mkT n) 0 (m.take i)).2 c).2 < (growT (insT (mkT n) 0 (m.take i)).1 (insT (mkT n) 0 (m.take i)).2 c).1.length ∧ (insT (mkT n) 0 (m.take i)).1.length ≤ (growT (insT (mkT n) 0 (m.take i)).1 (insT (mkT n) 0 (m.take i)).2 c).1.length ∧ (growT (insT (mkT n) 0 (m.take i)).1 (insT (mkT n) 0 (m.take i)).2 c).1.length ≤ (insT (mkT n) 0 (m.take i)).1.length + 1 ∧ Below w.heap.size wr w') := by
            have h := grown_any w.heap.size (insT (mkT n) 0 (m.take i)).1 A V (insT (mkT n) 0 (m.take i)).2 c t HTT.out hc256 (by omega) wr HB.out.size HT.out
            unfold Hid
            rw [HP.out]
            exact h
          rw [← HST.out] at HGR
          obtain ⟨G0, hG0⟩ : ∃ G, insT (mkT n) 0 (m.take i) = G := ⟨_, rfl⟩
          obtain ⟨G1, hG1⟩ : ∃ G, insT (mkT n) 0 (m.take (i + 1)) = G := ⟨_, rfl⟩
          have HG1 : Hid (insT (mkT n) 0 (m.take (i + 1)) = G1) := hG1
          rw [hG0] at hG2 hGl HGR
          rw [hG1] at HGR
          clear hsn HST hci HTT HT HP hG0 hG1
          go_wp2_with (go_at_call 83; (with_reducible refine HGR.out.mono ?_); rintro e w5 ⟨A5, V5, rfl, ht5, he5, hg5, hm5, hl5, hb5⟩; have HT5 : Hid (Tre w5 w.heap.size G1.1 A5 V5) := ht5; have HE5 : Hid (Ext A A5 G0.1.length) := he5; have HB5 : Hid (Below w.heap.size w w5) := HB.out.trans hb5; clear ht5 he5 hb5)
          go_roundw
          case rel => exact ⟨i + 1, A5 G1.2, A5, V5, by omega, rfl, by rw [HG1.out], by go_num, (HE5.out 0 (by omega)).trans HA0.out, by rw [HG1.out]; exact hg5, by rw [HG1.out]; omega, by rw [HG1.out]; exact HT5.out, HB5.out⟩
          case measure => simp [intOf]; omega
        · have hie : m.take i = m := List.take_of_length_le (by omega)
          have hil' : ¬ (i : Int) < (m.length : Int) := by omega
          rw [hie] at hG2 hGl HT HP HTT
          have hX := (HT.out.box _ t HTT.out).2
          rw [← HP.out] at hX
          have y1 := hX.cell 1
          have f1 := hX.free 1
          have hPl := hX.lt
          simp at y1
          obtain ⟨k1, k2⟩ := HT.out.kind (k := 32 + n) HTT.out (by omega)
          rw [← HP.out, ← HN.out] at k1 k2
          have HK1 : Hid (Tre (wr.setCell ⟨P, 1, none⟩ (.int .u8 (N : Int))) w.heap.size (mkT (n + 1)) A V) := by unfold Hid; rw [HMK.out, ← HN.out]; exact k1
          have HK2 : Hid (Below w.heap.size w (wr.setCell ⟨P, 1, none⟩ (.int .u8 (N : Int)))) := HB.out.trans k2
          have hlen : (mkT (n + 1)).length = (insT (mkT n) 0 m).1.length := by rw [HMK.out]; simp [setK]
          clear k1 k2 hX
          go_wp2
          go_roundw
          case rel => exact ⟨n + 1, N + 1, A, V, by omega, by go_num, by have := HN.out; omega, HA0.out, by omega, by omega, HK1.out, HK2.out⟩
          case measure => simp [intOf]; omega
    · have hn48 : n = 48 := by omega
      subst hn48
      have hgt : ¬ (N : Int) ≤ 79 := by omega
      go_wp2
      go_ret
      exact ⟨A, by simp [ptrT, HA0.out], HA0.out, ⟨V, HT.out⟩, HB.out⟩
end Go.Proofs.YtmnbakalcpanlaaGreatDoor
