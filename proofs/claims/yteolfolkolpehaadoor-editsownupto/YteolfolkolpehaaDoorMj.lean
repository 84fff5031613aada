import Derived.Test.YteolfolkolpehaaDoorMgP
namespace Go.Proofs.YteolfolkolpehaaDoor
open Go.ChangeShapes Go.WideShapes Go.ChangeAt Go.RowKit
set_option linter.unusedVariables false

/-- rows of two kinds lie in two blocks -/
theorem own_apart {w : World} {b b' e e' k k' n n' : Nat} {v v' : Value} {xs xs' : List Value} (h : w.ownsRow b e k v n xs) (h' : w.ownsRow b' e' k' v' n' xs') (hne : e ≠ e') : v.ownBlock = none ∨ v.ownBlock ≠ v'.ownBlock := by
  rcases h.2 with ⟨rfl, _⟩ | ⟨g, cap, cur, rfl, _, hg, _⟩
  · exact .inl rfl
  · right
    rcases h'.2 with ⟨rfl, _⟩ | ⟨g', cap', cur', rfl, _, hg', _⟩
    · intro h; cases h
    · intro h
      simp only [Value.ownBlock, Option.some.injEq] at h
      subst h
      rw [hg] at hg'
      simp only [Option.some.injEq, Obj.cells.injEq] at hg'
      exact hne hg'.2.1

theorem jn_drop {xs : List Ed} {k : Nat} {e : Ed} (he : xs[k]? = some e) : jn (xs.drop k) = jn1 e (xs.drop (k + 1)) := by rw [drop_get he]; rfl
theorem jn1_touch {c e : Ed} {xs : List Ed} {j : Nat} (he : xs[j]? = some e) (h : e.f = c.t) : jn1 c (xs.drop j) = jn1 ⟨c.f, e.t, c.s ++ e.s⟩ (xs.drop (j + 1)) := by rw [drop_get he, jn1, if_pos h]
theorem jn1_apart {c e : Ed} {xs : List Ed} {j : Nat} (he : xs[j]? = some e) (h : ¬ e.f = c.t) : jn1 c (xs.drop j) = c :: jn (xs.drop j) := by rw [drop_get he, jn1, if_neg h, jn]
theorem jn1_end {c : Ed} {xs : List Ed} {j : Nat} (h : xs.length ≤ j) : jn1 c (xs.drop j) = c :: jn (xs.drop j) := by rw [List.drop_eq_nil_iff.2 h]; rfl

theorem cat_arr (tx : List UInt8) (s : ByteArray) : (⟨tx.toArray⟩ : ByteArray) ++ s = ⟨(tx ++ s.data.toList).toArray⟩ := by
  have h : ((⟨tx.toArray⟩ : ByteArray) ++ s).data = (tx ++ s.data.toList).toArray := by simp
  exact congrArg ByteArray.mk h

set_option maxRecDepth 1000000 in
set_option maxHeartbeats 4000000 in
theorem joined_any (a : Option Addr) (cap : Nat) (xs : List Ed) (w : World) (h : EdsA w a xs) (hl : xs.length ≤ 131072) (hT : tots xs ≤ 1048576) :
    Calls Tryd.prog 52 #[.slice a xs.length cap] w fun e w' => ∃ v, e = .returned v ∧ w'.ownsRow w.heap.size 45 3 v (jn xs).length (flat (jn xs)) ∧ Below w.heap.size w w' := by
  obtain ⟨i0, hi0, hz0, hz1, hz2⟩ := info_parts infoEd
  obtain ⟨i1, hi1, hy0, hy1, hy2⟩ := info_parts infoU8
  have H : Hid (EdsA w a xs) := h
  clear h
  go_enter Tryd.func52, Tryd.ntmps52
  go_wp2
  go_loopg [3, 4] xs.length (fun gk sv si wr => ∃ (k : Nat) (p : List Ed), gk = xs.length - k ∧ k ≤ xs.length ∧ si = .int .i64 (k : Int) ∧ Below w.heap.size w wr ∧ wr.ownsRow w.heap.size 45 3 sv p.length (flat p) ∧ p.length ≤ k ∧ p ++ jn (xs.drop k) = jn xs)
  case atStart => exact ⟨0, [], by omega, Nat.zero_le _, rfl, Below.refl _ _, World.ownsRow_nil _ _ _ _, Nat.le_refl _, by simp⟩
  case round =>
    obtain ⟨wo, rfl⟩ : ∃ wo, wo = wr := ⟨_, rfl⟩
    obtain ⟨k, p, rfl, hk, rfl, hbel, hown, hpk, hjn⟩ := hrel
    have HB : Hid (Below w.heap.size w wo) := hbel
    have HO : Hid (wo.ownsRow w.heap.size 45 3 u3 p.length (flat p)) := hown
    have HJ : Hid (p ++ jn (xs.drop k) = jn xs) := hjn
    clear hbel hown hjn
    by_cases hkl : k < xs.length
    · obtain ⟨e, he⟩ : ∃ e, xs[k]? = some e := ⟨_, List.getElem?_eq_getElem hkl⟩
      rcases H.out with h0 | ⟨b, o, rfl, hE⟩
      · rw [h0] at hkl; simp at hkl
      have HE : Hid (Eds w b o xs) := hE
      have hk1 : (k : Int) < (xs.length : Int) := by omega
      have HKE : Hid (xs[k]? = some e) := he
      have HTK : Hid (tots (xs.drop k) ≤ 1048576) := Nat.le_trans (tots_drop xs k) hT
      clear he hE
      go_wp2
      go_loopg [4, 6] (xs.length - k) (fun gj sj st wr => ∃ (j : Nat) (tx : List UInt8), gj = xs.length - j ∧ k ≤ j ∧ j ≤ xs.length ∧ sj = .int .i64 (j : Int) ∧ Below w.heap.size w wr ∧ wr.ownsRow w.heap.size 45 3 u3 p.length (flat p) ∧ wr.ownsRow w.heap.size 5 1 st tx.length (bc tx) ∧ tx.length + tots (xs.drop j) ≤ 1048576 ∧
        (j = k → tx = []) ∧ (∀ d q, j = d + 1 → k ≤ d → xs[d]? = some q → jn (xs.drop k) = jn1 ⟨e.f, q.t, ⟨tx.toArray⟩⟩ (xs.drop j)))
      case atStart => exact ⟨k, [], rfl, Nat.le_refl _, hk, rfl, HB.out, HO.out, World.ownsRow_nil _ _ _ _, by simpa using HTK.out, fun _ => rfl, fun d q h1 h2 => by omega⟩
      case round =>
        obtain ⟨j, tx, rfl, hkj, hj, rfl, hbel, hown, hotx, htt, hj0, hjs⟩ := hrel
        have HBR : Hid (Below w.heap.size w wr) := hbel
        have HOR : Hid (wr.ownsRow w.heap.size 45 3 u3 p.length (flat p)) := hown
        have HOT : Hid (wr.ownsRow w.heap.size 5 1 u6 tx.length (bc tx)) := hotx
        have HJ0 : Hid (j = k → tx = []) := hj0
        have HJS : Hid (∀ d q, j = d + 1 → k ≤ d → xs[d]? = some q → jn (xs.drop k) = jn1 ⟨e.f, q.t, ⟨tx.toArray⟩⟩ (xs.drop j)) := hjs
        have hsz := hbel.size
        clear hbel hown hotx hj0 hjs
        have HLT : Hid (∀ g, u6.ownBlock = some g → w.heap.size ≤ g ∧ g < wr.heap.size) := HOT.out.lt
        by_cases hjk : j = k
        · have HTN : Hid (tx = []) := HJ0.out hjk
          subst hjk
          obtain ⟨c0, c1, c2⟩ := HE.out.cells HBR.out HKE.out
          have HTD : Hid (tots (xs.drop j) = e.s.size + tots (xs.drop (j + 1))) := by unfold Hid; rw [drop_get HKE.out]; rfl
          have hte : tx.length + e.s.size + tots (xs.drop (j + 1)) ≤ 1048576 := by have := HTD.out; omega
          clear c0 c1
          go_upto_region 6 with fail
          go_quiet (fail)
          obtain ⟨wq, ewq⟩ : ∃ wq, wr.drewN nq = wq := ⟨_, rfl⟩
          have hbq : Below wr.heap.size wr wq := by rw [← ewq]; exact below_drewN (Below.refl _ _) _
          have hsq : wr.heap.size ≤ wq.heap.size := hbq.size
          have HBQ : Hid (Below w.heap.size w wq) := HBR.out.trans (hbq.mono hsz)
          have HTQ : Hid (wq.ownsRow w.heap.size 5 1 u6 tx.length (bc tx)) := ownsRow_below HOT.out hbq (Nat.le_refl _)
          have HOQ : Hid (wq.ownsRow w.heap.size 45 3 u3 p.length (flat p)) := ownsRow_below HOR.out hbq (Nat.le_refl _)
          obtain ⟨r0, r1, r2⟩ := HE.out.cells HBQ.out HKE.out
          rw [ewq]
          clear ewq hbq c2 r0 r1
          go_wp2_with (at_builtin; (refine Lib.wpList_append_own_string _ rfl (.tmp 37) (.tmp 42) 59 9 rfl w.heap.size 5 i1 Tryd.underlying59 Tryd.underlying9 hi1 hy0 hy1 hy2 _ _ _ rfl HTQ.out e.s rfl ?_ ?_ ?_ ?_))
          case refine_1 => unfold maxLen; omega
          case refine_2 => omega
          case refine_3 => omega
          intro v9 w9 hown9 hgrow9 _
          rw [bc_str, ← bc_append] at hown9
          have HB9 : Hid (Below w.heap.size w w9) := HBQ.out.grown hgrow9 (by omega) (fun g h => (HLT.out g h).1)
          have HO9 : Hid (w9.ownsRow w.heap.size 45 3 u3 p.length (flat p)) := HOQ.out.kept hgrow9 (own_apart HOQ.out HTQ.out (by decide))
          have HT9 : Hid (w9.ownsRow w.heap.size 5 1 v9 (tx ++ e.s.data.toList).length (bc (tx ++ e.s.data.toList))) := by
            unfold Hid; rw [List.length_append, bytes_len]; exact hown9
          clear hown9 hgrow9
          go_wp2
          go_roundg (xs.length - (j + 1))
          case measure => omega
          case rel =>
            refine ⟨j + 1, _, rfl, by omega, by omega, by go_num, HB9.out, HO9.out, HT9.out, by rw [List.length_append, bytes_len]; omega, fun h => by omega, fun d q h1 h2 h3 => ?_⟩
            obtain rfl : d = j := by omega
            rw [HKE.out] at h3
            cases h3
            rw [jn_drop HKE.out, HTN.out]
            rfl
        · obtain ⟨d, rfl⟩ : ∃ d, j = d + 1 := ⟨j - 1, by omega⟩
          obtain ⟨q0, hq0⟩ : ∃ q, xs[d]? = some q := ⟨_, List.getElem?_eq_getElem (by omega)⟩
          have HQ0 : Hid (xs[d]? = some q0) := hq0
          have HJD : Hid (jn (xs.drop k) = jn1 ⟨e.f, q0.t, ⟨tx.toArray⟩⟩ (xs.drop (d + 1))) := HJS.out d q0 rfl (by omega) hq0
          clear hq0
          have m1 : IntKind.i64.wrap ((d : Int) + 1 - 1) = (d : Int) := by rw [show (d : Int) + 1 - 1 = d by omega]; exact IntWalk.i64_in _ ⟨by omega, by omega⟩
          have m2 : IntKind.i64.wrap (d : Int) = (d : Int) := IntWalk.i64_in _ ⟨by omega, by omega⟩
          have m3 : (0 : Int) ≤ (d : Int) := by omega
          have m4 : (d : Int) < (xs.length : Int) := by omega
          have m5 : ((d : Int) + 1 == (k : Int)) = false := beq_eq_false_iff_ne.2 (by omega)
          have m6 : (0 : Int) ≤ (d : Int) + 1 := by omega
          have m7 : ((d : Int) + 1).toNat = d + 1 := by omega
          obtain ⟨g0, g1, g2⟩ := HE.out.cells HBR.out HQ0.out
          obtain ⟨T, hTX⟩ : ∃ T : ByteArray, (⟨tx.toArray⟩ : ByteArray) = T := ⟨_, rfl⟩
          have HTX : Hid ((⟨tx.toArray⟩ : ByteArray) = T) := hTX
          clear hTX
          by_cases hjl : d + 1 < xs.length
          · obtain ⟨q, hq⟩ : ∃ q, xs[d + 1]? = some q := ⟨_, List.getElem?_eq_getElem hjl⟩
            obtain ⟨c0, c1, c2⟩ := HE.out.cells HBR.out hq
            have HQ : Hid (xs[d + 1]? = some q) := hq
            have m8 : (d : Int) + 1 < (xs.length : Int) := by omega
            clear hq
            by_cases hqt : q.f = q0.t
            · have hqt' : (q.f == q0.t) = true := by simp [hqt]
              have HTD : Hid (tots (xs.drop (d + 1)) = q.s.size + tots (xs.drop (d + 1 + 1))) := by unfold Hid; rw [drop_get HQ.out]; rfl
              have hte : tx.length + q.s.size + tots (xs.drop (d + 1 + 1)) ≤ 1048576 := by have := HTD.out; omega
              have HQT : Hid (q.f = q0.t) := hqt
              clear hqt
              go_upto_region 6 with fail
              go_quiet (fail)
              obtain ⟨wq, ewq⟩ : ∃ wq, wr.drewN nq = wq := ⟨_, rfl⟩
              have hbq : Below wr.heap.size wr wq := by rw [← ewq]; exact below_drewN (Below.refl _ _) _
              have hsq : wr.heap.size ≤ wq.heap.size := hbq.size
              have HBQ : Hid (Below w.heap.size w wq) := HBR.out.trans (hbq.mono hsz)
              have HTQ : Hid (wq.ownsRow w.heap.size 5 1 u6 tx.length (bc tx)) := ownsRow_below HOT.out hbq (Nat.le_refl _)
              have HOQ : Hid (wq.ownsRow w.heap.size 45 3 u3 p.length (flat p)) := ownsRow_below HOR.out hbq (Nat.le_refl _)
              obtain ⟨r0, r1, r2⟩ := HE.out.cells HBQ.out HQ.out
              rw [ewq]
              clear ewq hbq c2 r0 r1
              go_wp2_with (at_builtin; (refine Lib.wpList_append_own_string _ rfl (.tmp 37) (.tmp 42) 59 9 rfl w.heap.size 5 i1 Tryd.underlying59 Tryd.underlying9 hi1 hy0 hy1 hy2 _ _ _ rfl HTQ.out q.s rfl ?_ ?_ ?_ ?_))
              case refine_1 => unfold maxLen; omega
              case refine_2 => omega
              case refine_3 => omega
              intro v9 w9 hown9 hgrow9 _
              rw [bc_str, ← bc_append] at hown9
              have HB9 : Hid (Below w.heap.size w w9) := HBQ.out.grown hgrow9 (by omega) (fun g h => (HLT.out g h).1)
              have HO9 : Hid (w9.ownsRow w.heap.size 45 3 u3 p.length (flat p)) := HOQ.out.kept hgrow9 (own_apart HOQ.out HTQ.out (by decide))
              have HT9 : Hid (w9.ownsRow w.heap.size 5 1 v9 (tx ++ q.s.data.toList).length (bc (tx ++ q.s.data.toList))) := by
                unfold Hid; rw [List.length_append, bytes_len]; exact hown9
              clear hown9 hgrow9
              go_wp2
              go_roundg (xs.length - (d + 1 + 1))
              case measure => omega
              case rel =>
                refine ⟨d + 1 + 1, _, rfl, by omega, by omega, by go_num, HB9.out, HO9.out, HT9.out, by rw [List.length_append, bytes_len]; omega, fun h => by omega, fun d' q' h1 h2 h3 => ?_⟩
                obtain rfl : d' = d + 1 := by omega
                rw [HQ.out] at h3
                cases h3
                rw [HJD.out, jn1_touch (c := ⟨e.f, q0.t, ⟨tx.toArray⟩⟩) HQ.out HQT.out]
                rw [cat_arr]
            · have hqt' : (q.f == q0.t) = false := beq_eq_false_iff_ne.2 hqt
              have HJE : Hid ((p ++ [⟨e.f, q0.t, T⟩]) ++ jn (xs.drop (d + 1)) = jn xs) := by
                unfold Hid; rw [← HJ.out, HJD.out, jn1_apart (c := ⟨e.f, q0.t, ⟨tx.toArray⟩⟩) HQ.out hqt, ← HTX.out]; simp
              clear hqt
              go_upto_region 6 with fail
              go_quiet (fail)
              obtain ⟨wq, ewq⟩ : ∃ wq, wr.drewN nq = wq := ⟨_, rfl⟩
              have hbq : Below wr.heap.size wr wq := by rw [← ewq]; exact below_drewN (Below.refl _ _) _
              have hsq : wr.heap.size ≤ wq.heap.size := hbq.size
              have HBQ : Hid (Below w.heap.size w wq) := HBR.out.trans (hbq.mono hsz)
              have HTQ : Hid (wq.ownsRow w.heap.size 5 1 u6 tx.length (bc tx)) := ownsRow_below HOT.out hbq (Nat.le_refl _)
              have HOQ : Hid (wq.ownsRow w.heap.size 45 3 u3 p.length (flat p)) := ownsRow_below HOR.out hbq (Nat.le_refl _)
              have HLO : Hid (∀ g, u3.ownBlock = some g → w.heap.size ≤ g ∧ g < wq.heap.size) := HOQ.out.lt
              obtain ⟨r0, -, -⟩ := HE.out.cells HBQ.out HKE.out
              obtain ⟨-, r1, -⟩ := HE.out.cells HBQ.out HQ0.out
              have HCV : Hid (∀ y : World, y.ownsRow w.heap.size 5 1 u6 tx.length (bc tx) → (convert 59 9 u6).run Tryd.prog y = .ok (.string T) y) := fun y h => by rw [← HTX.out]; exact own_string_any h
              have hcv := HCV.out wq HTQ.out
              have hbw : b < w.heap.size := HE.out.1
              have hbq2 : b < wq.heap.size := by omega
              have hsw : w.heap.size ≤ wq.heap.size := by omega
              have hnb : Hid (some b ≠ u3.ownBlock) := fun h => by have := (HLO.out b h.symm).1; omega
              rw [ewq]
              clear ewq hbq g0 g1 g2 c0 c1 c2
              go_upto_region 9 with fail
              go_region_held3 (fun y => y.cell? ⟨b, o + k * 3, none⟩ = some (.int .i64 e.f) ∧ y.cell? ⟨b, o + d * 3 + 1, none⟩ = some (.int .i64 q0.t) ∧ (convert 59 9 u6).run Tryd.prog y = .ok (.string T) y)
                (refine ⟨?_, ?_, ?_⟩ <;> first | assumption | exact HCV.out _ HTQ.out.drew | exact HCV.out _ (HTQ.out.drew.alloc _) | exact HCV.out _ HT4.out | go_keep)
                ((refine step_append_lies _ (by rfl) _ _ _ (by rfl) w.heap.size 45 i0 (.agg #[.int .i64 0, .int .i64 0, .string ⟨#[]⟩]) 3 32 Tryd.underlying22 hi0 hz0 hz1 hz2 rfl (by omega) u3 p.length (flat p) (by rfl) (HOQ.out.drew.alloc _) ⟨wq.heap.size, 0, none⟩ 1 1 (flat [⟨e.f, q0.t, T⟩]) (by rfl) (by rfl) (cells_new wq.drew (flat [⟨e.f, q0.t, T⟩]) 45) (flat_oneCell _) (by omega) (by unfold maxLen; omega) (by omega) (by simp; omega) (wq.heap.size + 1) (by simp) ?_; intro gg cp w4 hown4 hgrow4 hat hlt4; have x0 : w4.cell? ⟨b, o + k * 3, none⟩ = some (.int .i64 e.f) := hgrow4.cell ((World.cell?_alloc_past _ _ _ hbq2).trans r0) hnb.out; have x1 : w4.cell? ⟨b, o + d * 3 + 1, none⟩ = some (.int .i64 q0.t) := hgrow4.cell ((World.cell?_alloc_past _ _ _ hbq2).trans r1) hnb.out; have HT4 : Hid (w4.ownsRow w.heap.size 5 1 u6 tx.length (bc tx)) := (HTQ.out.drew.alloc _).kept hgrow4 (own_apart HTQ.out HOQ.out (by decide)); have hcv4 := HCV.out w4 HT4.out))
              have HO4 : Hid (w4.ownsRow w.heap.size 45 3 (.slice (some ⟨gg, 0, none⟩) (p.length + 1) cp) (p ++ ([⟨e.f, q0.t, T⟩] : List Ed)).length (flat (p ++ [⟨e.f, q0.t, T⟩]))) := by
                unfold Hid; rw [flat_append, List.length_append]; exact hown4
              have HB4 : Hid (Below w.heap.size w w4) := (HBQ.out.drew.alloc (by simp; omega) _).grown hgrow4 (by simp; omega) (fun g h => (HLO.out g h).1)
              clear hown4 hgrow4 hat hlt4
              go_wp2
              go_roundg (xs.length - (d + 1))
              case measure => omega
              case rel => exact ⟨d + 1, p ++ [⟨e.f, q0.t, T⟩], rfl, by omega, by go_num, HB4.out, HO4.out, by rw [List.length_append, List.length_singleton]; omega, HJE.out⟩
          · have m8 : ¬ (d : Int) + 1 < (xs.length : Int) := by omega
            have HJE : Hid ((p ++ [⟨e.f, q0.t, T⟩]) ++ jn (xs.drop (d + 1)) = jn xs) := by
              unfold Hid; rw [← HJ.out, HJD.out, jn1_end (by omega), ← HTX.out]; simp
            go_upto_region 6 with fail
            go_quiet (fail)
            obtain ⟨wq, ewq⟩ : ∃ wq, wr.drewN nq = wq := ⟨_, rfl⟩
            have hbq : Below wr.heap.size wr wq := by rw [← ewq]; exact below_drewN (Below.refl _ _) _
            have hsq : wr.heap.size ≤ wq.heap.size := hbq.size
            have HBQ : Hid (Below w.heap.size w wq) := HBR.out.trans (hbq.mono hsz)
            have HTQ : Hid (wq.ownsRow w.heap.size 5 1 u6 tx.length (bc tx)) := ownsRow_below HOT.out hbq (Nat.le_refl _)
            have HOQ : Hid (wq.ownsRow w.heap.size 45 3 u3 p.length (flat p)) := ownsRow_below HOR.out hbq (Nat.le_refl _)
            have HLO : Hid (∀ g, u3.ownBlock = some g → w.heap.size ≤ g ∧ g < wq.heap.size) := HOQ.out.lt
            obtain ⟨r0, -, -⟩ := HE.out.cells HBQ.out HKE.out
            obtain ⟨-, r1, -⟩ := HE.out.cells HBQ.out HQ0.out
            have HCV : Hid (∀ y : World, y.ownsRow w.heap.size 5 1 u6 tx.length (bc tx) → (convert 59 9 u6).run Tryd.prog y = .ok (.string T) y) := fun y h => by rw [← HTX.out]; exact own_string_any h
            have hcv := HCV.out wq HTQ.out
            have hbw : b < w.heap.size := HE.out.1
            have hbq2 : b < wq.heap.size := by omega
            have hsw : w.heap.size ≤ wq.heap.size := by omega
            have hnb : Hid (some b ≠ u3.ownBlock) := fun h => by have := (HLO.out b h.symm).1; omega
            rw [ewq]
            clear ewq hbq g0 g1 g2
            go_upto_region 9 with fail
            go_region_held3 (fun y => y.cell? ⟨b, o + k * 3, none⟩ = some (.int .i64 e.f) ∧ y.cell? ⟨b, o + d * 3 + 1, none⟩ = some (.int .i64 q0.t) ∧ (convert 59 9 u6).run Tryd.prog y = .ok (.string T) y)
              (refine ⟨?_, ?_, ?_⟩ <;> first | assumption | exact HCV.out _ HTQ.out.drew | exact HCV.out _ (HTQ.out.drew.alloc _) | exact HCV.out _ HT4.out | go_keep)
              ((refine step_append_lies _ (by rfl) _ _ _ (by rfl) w.heap.size 45 i0 (.agg #[.int .i64 0, .int .i64 0, .string ⟨#[]⟩]) 3 32 Tryd.underlying22 hi0 hz0 hz1 hz2 rfl (by omega) u3 p.length (flat p) (by rfl) (HOQ.out.drew.alloc _) ⟨wq.heap.size, 0, none⟩ 1 1 (flat [⟨e.f, q0.t, T⟩]) (by rfl) (by rfl) (cells_new wq.drew (flat [⟨e.f, q0.t, T⟩]) 45) (flat_oneCell _) (by omega) (by unfold maxLen; omega) (by omega) (by simp; omega) (wq.heap.size + 1) (by simp) ?_; intro gg cp w4 hown4 hgrow4 hat hlt4; have x0 : w4.cell? ⟨b, o + k * 3, none⟩ = some (.int .i64 e.f) := hgrow4.cell ((World.cell?_alloc_past _ _ _ hbq2).trans r0) hnb.out; have x1 : w4.cell? ⟨b, o + d * 3 + 1, none⟩ = some (.int .i64 q0.t) := hgrow4.cell ((World.cell?_alloc_past _ _ _ hbq2).trans r1) hnb.out; have HT4 : Hid (w4.ownsRow w.heap.size 5 1 u6 tx.length (bc tx)) := (HTQ.out.drew.alloc _).kept hgrow4 (own_apart HTQ.out HOQ.out (by decide)); have hcv4 := HCV.out w4 HT4.out))
            have HO4 : Hid (w4.ownsRow w.heap.size 45 3 (.slice (some ⟨gg, 0, none⟩) (p.length + 1) cp) (p ++ ([⟨e.f, q0.t, T⟩] : List Ed)).length (flat (p ++ [⟨e.f, q0.t, T⟩]))) := by
              unfold Hid; rw [flat_append, List.length_append]; exact hown4
            have HB4 : Hid (Below w.heap.size w w4) := (HBQ.out.drew.alloc (by simp; omega) _).grown hgrow4 (by simp; omega) (fun g h => (HLO.out g h).1)
            clear hown4 hgrow4 hat hlt4
            go_wp2
            go_roundg (xs.length - (d + 1))
            case measure => omega
            case rel => exact ⟨d + 1, p ++ [⟨e.f, q0.t, T⟩], rfl, by omega, by go_num, HB4.out, HO4.out, by rw [List.length_append, List.length_singleton]; omega, HJE.out⟩
    · have HX : Hid (p = jn xs) := by unfold Hid; rw [← HJ.out, List.drop_eq_nil_iff.2 (by omega)]; simp [jn]
      have hk1 : ¬ (k : Int) < (xs.length : Int) := by omega
      go_wp2
      go_ret
      exact ⟨_, rfl, by rw [← HX.out]; exact HO.out, HB.out⟩
end Go.Proofs.YteolfolkolpehaaDoor
