import Derived.Test.YtgijcbipnjmhgabGreatHp2
import Derived.Test.YtgijcbipnjmhgabGreatKs0
import Derived.OwnWalk
import Derived.ChangeKeysEq
import Derived.Laws.StructEq
import Derived.Test.YtgijcbipnjmhgabGreatGr4
namespace Go.Proofs.YtgijcbipnjmhgabGreat
open Go.ChangeShapes Go.WideShapes Go.ChangeAt Go.RowKit
set_option linter.unusedVariables false
set_option linter.unusedSimpArgs false
set_option maxRecDepth 1000000

theorem m_len (b : Nat) (V : Value) (w : World) (h : w.cell? ⟨b, 0, none⟩ = some V) : (method 282 80 (.pointer (some ⟨b, 0, none⟩)) "Len").run Tryz.prog w = .ok (127, V) w := by
  obtain ⟨k, hk⟩ : ∃ k, k + 1 = 282 := ⟨282 - 1, rfl⟩
  rw [← hk]
  unfold method
  have hf : Array.find? (fun x => x.name == "Len") Tryz.t80.methods = some Tryz.t80.methods[0]! := by kernel_rfl
  have hp : Tryz.t80.methods[0]!.path = #[] := by kernel_rfl
  have hg : Tryz.t80.methods[0]!.func = some (127, false) := by kernel_rfl
  have hl : (loadVar 78 ⟨b, 0, none⟩).run Tryz.prog w = .ok V w := by
    simp [loadVar]
    go_simp
  have hw : ∀ nm, (Builtin.ssaWrapNilChk_ #[80] 80 #[.pointer (some ⟨b, 0, none⟩), strVal "", strVal nm]).run Tryz.prog w = .ok (.pointer (some ⟨b, 0, none⟩)) w := fun _ => rfl
  go_simp
  simp [follow, receiverAt, Place.get, asAddr]
  go_simp
  (try rw [hw])
  (try go_simp)
theorem m_less (b : Nat) (V : Value) (w : World) (h : w.cell? ⟨b, 0, none⟩ = some V) : (method 282 80 (.pointer (some ⟨b, 0, none⟩)) "Less").run Tryz.prog w = .ok (128, V) w := by
  obtain ⟨k, hk⟩ : ∃ k, k + 1 = 282 := ⟨282 - 1, rfl⟩
  rw [← hk]
  unfold method
  have hf : Array.find? (fun x => x.name == "Less") Tryz.t80.methods = some Tryz.t80.methods[1]! := by kernel_rfl
  have hp : Tryz.t80.methods[1]!.path = #[] := by kernel_rfl
  have hg : Tryz.t80.methods[1]!.func = some (128, false) := by kernel_rfl
  have hl : (loadVar 78 ⟨b, 0, none⟩).run Tryz.prog w = .ok V w := by
    simp [loadVar]
    go_simp
  have hw : ∀ nm, (Builtin.ssaWrapNilChk_ #[80] 80 #[.pointer (some ⟨b, 0, none⟩), strVal "", strVal nm]).run Tryz.prog w = .ok (.pointer (some ⟨b, 0, none⟩)) w := fun _ => rfl
  go_simp
  simp [follow, receiverAt, Place.get, asAddr]
  go_simp
  (try rw [hw])
  (try go_simp)
theorem m_swap (b : Nat) (V : Value) (w : World) (h : w.cell? ⟨b, 0, none⟩ = some V) : (method 282 80 (.pointer (some ⟨b, 0, none⟩)) "Swap").run Tryz.prog w = .ok (129, V) w := by
  obtain ⟨k, hk⟩ : ∃ k, k + 1 = 282 := ⟨282 - 1, rfl⟩
  rw [← hk]
  unfold method
  have hf : Array.find? (fun x => x.name == "Swap") Tryz.t80.methods = some Tryz.t80.methods[4]! := by kernel_rfl
  have hp : Tryz.t80.methods[4]!.path = #[] := by kernel_rfl
  have hg : Tryz.t80.methods[4]!.func = some (129, false) := by kernel_rfl
  have hl : (loadVar 78 ⟨b, 0, none⟩).run Tryz.prog w = .ok V w := by
    simp [loadVar]
    go_simp
  have hw : ∀ nm, (Builtin.ssaWrapNilChk_ #[80] 80 #[.pointer (some ⟨b, 0, none⟩), strVal "", strVal nm]).run Tryz.prog w = .ok (.pointer (some ⟨b, 0, none⟩)) w := fun _ => rfl
  go_simp
  simp [follow, receiverAt, Place.get, asAddr]
  go_simp
  (try rw [hw])
  (try go_simp)

end Go.Proofs.YtgijcbipnjmhgabGreat

namespace Go.Proofs.YtgijcbipnjmhgabGreat
open Go.ChangeShapes Go.WideShapes Go.ChangeAt Go.RowKit
set_option linter.unusedVariables false
set_option linter.unusedSimpArgs false

theorem hidH {p : Prop} (h : p) : Hid p := h
/-- the heap's value, as an interface's -/
abbrev hpI (b : Nat) : Value := .iface 80 (.pointer (some ⟨b, 0, none⟩))
theorem Hq.at0 {B b : Nat} {w : World} {V : Value} {xs : List Int} (h : Hq B b w V xs) : w.cell? ⟨b, 0, none⟩ = some V := by
  have := h.box.cell 0
  simpa using this

set_option maxRecDepth 1000000 in
set_option maxHeartbeats 4000000 in
theorem up_any {B b : Nat} {w : World} {V : Value} {xs : List Int} (n j : Nat) (hl : xs.length = n) (hjn : j < n) (hn : n ≤ 1099511627776) (h : Hq B b w V xs) (hu : HpU xs n j) :
    Calls Tryz.prog 72 #[hpI b, .int .i64 (j : Int)] w fun e w' => (∃ r, e = .returned r) ∧ ∃ ys, Hq B b w' V ys ∧ Hpp ys n ∧ ys.Perm xs ∧ Mv B b V.ownBlock w w' := by
  have HH : Hid (Hq B b w V xs) := h
  have HU : Hid (HpU xs n j) := hu
  have HL : Hid (xs.length = n) := hl
  clear h hu hl
  go_enter Tryz.func72, Tryz.ntmps72
  go_wp2
  go_loopg [1] j (fun gk sj wr => ∃ (j : Nat) (ys : List Int), gk = j ∧ sj = .int .i64 (j : Int) ∧ j < n ∧ ys.length = n ∧ Hq B b wr V ys ∧ HpU ys n j ∧ ys.Perm xs ∧ Mv B b V.ownBlock w wr)
  case atStart => exact ⟨j, xs, rfl, rfl, hjn, HL.out, HH.out, HU.out, List.Perm.refl _, Mv.refl _ _ _ _⟩
  case round =>
    clear HH HU HL
    obtain ⟨j, ys, hgk, rfl, hj, hyl, hQ, hU, hP, hM⟩ := hrel
    have HH := hidH hQ
    have HU := hidH hU
    have HP := hidH hP
    have HM := hidH hM
    have HL := hidH hyl
    have c0 := hQ.at0
    have z0 := hQ.box.lt
    have ml := m_less b V wr c0
    clear hQ hU hP hM hyl
    by_cases h0 : j = 0
    · subst h0
      have k1 : IntKind.i64.wrap ((0 : Int) - 1) = -1 := by decide
      have k2 : IntKind.i64.wrap ((-1 : Int).tdiv 2) = 0 := by decide
      go_wp2
      go_end0
      exact ⟨⟨_, rfl⟩, ys, HH.out, HU.out.done (.inl rfl), HP.out, HM.out⟩
    · obtain ⟨jm, hjm⟩ : ∃ jm : Nat, j - 1 = jm := ⟨_, rfl⟩
      obtain ⟨p, hp⟩ : ∃ p : Nat, jm / 2 = p := ⟨_, rfl⟩
      have k1 : IntKind.i64.wrap ((j : Int) - 1) = (jm : Int) := by rw [IntWalk.i64_in _ ⟨by omega, by omega⟩]; omega
      have k2 : IntKind.i64.wrap ((jm : Int).tdiv 2) = (p : Int) := by rw [Int.tdiv_eq_ediv_of_nonneg (by omega), IntWalk.i64_in _ ⟨by omega, by omega⟩]; omega
      have k3 : IntKind.i64.wrap ((jm : Int) / 2) = (p : Int) := by rw [IntWalk.i64_in _ ⟨by omega, by omega⟩]; omega
      have hpj : ((p : Int) == (j : Int)) = false := by rw [beq_eq_false_iff_ne]; omega
      have HP1 : Hid ((j - 1) / 2 = p ∧ p < j) := by unfold Hid; omega
      have HLS : Hid (∀ v, Below wr.heap.size wr v → Calls Tryz.prog 128 #[V, .int .i64 (j : Int), .int .i64 (p : Int)] v fun e w' => e = .returned (.bool (decide (ys[j]! < ys[p]!))) ∧ Below v.heap.size v w') := fun v hv => rless_any (HH.out.below hv) j p (by have := HL.out; omega) (by have := HL.out; omega)
      clear hjm hp
      by_cases hlt : ys[j]! < ys[p]!
      · rw [show decide (ys[j]! < ys[p]!) = true from decide_eq_true hlt] at HLS
        have HLT := hidH hlt
        clear hlt
        go_wp2_with (first
          | (go_at_call 128; (with_reducible refine (HLS.out _ (Below.refl _ _)).mono ?_); rintro e w1 ⟨rfl, hb1⟩; have H1 := hidH (HH.out.below hb1); have M1 := hidH (HM.out.trans (Mv.of (r := V.ownBlock) hb1 HH.out.box.lt HH.out.le) (.inl rfl)); have c1 := H1.out.at0; have z1 := H1.out.box.lt; have ms := m_swap b V w1 c1; clear hb1)
          | (go_at_call 129; (with_reducible refine (rswap_any H1.out p j (by have h1 := HL.out; have h2 := HP1.out; omega) (by have h1 := HL.out; omega)).mono ?_); rintro e w2 ⟨⟨x, rfl⟩, hq2, hm2⟩; have H2 := hidH hq2; have M2 := hidH (M1.out.trans hm2 (.inl rfl)); clear hq2 hm2))
        go_roundg p
        case measure => have := HP1.out; omega
        case rel => exact ⟨p, sw ys p j, rfl, rfl, by have := HP1.out; omega, by rw [sw_len]; exact HL.out, H2.out, by have h1 := HU.out.up (by rw [HL.out]; exact Nat.le_refl _) hj (by omega) (by rw [HP1.out.1]; have := HLT.out; omega); rw [HP1.out.1] at h1; exact h1, (sw_perm ys (by have h1 := HL.out; have h2 := HP1.out; omega) (by have := HL.out; omega)).trans HP.out, M2.out⟩
      · rw [show decide (ys[j]! < ys[p]!) = false from decide_eq_false hlt] at HLS
        have HLT := hidH hlt
        clear hlt
        go_wp2_with (go_at_call 128; (with_reducible refine (HLS.out _ (Below.refl _ _)).mono ?_); rintro e w1 ⟨rfl, hb1⟩; have H1 := hidH (HH.out.below hb1); have M1 := hidH (HM.out.trans (Mv.of (r := V.ownBlock) hb1 HH.out.box.lt HH.out.le) (.inl rfl)); clear hb1)
        go_end0
        exact ⟨⟨_, rfl⟩, ys, H1.out, HU.out.done (.inr (by rw [HP1.out.1]; have := HLT.out; omega)), HP.out, M1.out⟩
end Go.Proofs.YtgijcbipnjmhgabGreat

namespace Go.Proofs.YtgijcbipnjmhgabGreat
open Go.ChangeShapes Go.WideShapes Go.ChangeAt Go.RowKit
set_option linter.unusedVariables false
set_option linter.unusedSimpArgs false

theorem sw_far (xs : List Int) {i j n k : Nat} (hi : i < n) (hj : j < n) (hn : n ≤ xs.length) (hk : n ≤ k) : (sw xs i j)[k]! = xs[k]! := by
  rw [sw_get xs (by omega) (by omega), if_neg (by omega), if_neg (by omega)]
/-- the same from place n on -/
def TlEq (n : Nat) (ys xs : List Int) : Prop := ∀ k, n ≤ k → ys[k]! = xs[k]!
set_option maxRecDepth 1000000 in
set_option maxHeartbeats 8000000 in
theorem down_any {B b : Nat} {w : World} {V : Value} {xs : List Int} (n l : Nat) (hl : xs.length = l) (hnl : n ≤ l) (hn : l ≤ 1099511627776) (h : Hq B b w V xs) (hd : HpD xs n 0) :
    Calls Tryz.prog 71 #[hpI b, .int .i64 0, .int .i64 (n : Int)] w fun e w' => (∃ r, e = .returned r) ∧ ∃ ys, Hq B b w' V ys ∧ Hpp ys n ∧ ys.Perm xs ∧ TlEq n ys xs ∧ Mv B b V.ownBlock w w' := by
  have HH : Hid (Hq B b w V xs) := h
  have HU : Hid (HpD xs n 0) := hd
  have HL : Hid (xs.length = l) := hl
  clear h hd hl
  go_enter Tryz.func71, Tryz.ntmps71
  go_wp2
  go_loopg [7] n (fun gk si wr => ∃ (i : Nat) (ys : List Int), gk = n - i ∧ si = .int .i64 (i : Int) ∧ i ≤ n ∧ ys.length = l ∧ Hq B b wr V ys ∧ HpD ys n i ∧ ys.Perm xs ∧ TlEq n ys xs ∧ Mv B b V.ownBlock w wr)
  case atStart => exact ⟨0, xs, rfl, rfl, Nat.zero_le _, HL.out, HH.out, HU.out, List.Perm.refl _, fun _ _ => rfl, Mv.refl _ _ _ _⟩
  case round =>
    clear HH HU HL
    obtain ⟨i, ys, hgk, rfl, hi, hyl, hQ, hU, hP, hK, hM⟩ := hrel
    have HH := hidH hQ
    have HU := hidH hU
    have HP := hidH hP
    have HK := hidH hK
    have HM := hidH hM
    have HL := hidH hyl
    have c0 := hQ.at0
    have z0 := hQ.box.lt
    have ml := m_less b V wr c0
    clear hQ hU hP hM hyl hK
    obtain ⟨m2, hm2⟩ : ∃ m2 : Nat, 2 * i = m2 := ⟨_, rfl⟩
    obtain ⟨d1, hd1⟩ : ∃ d1 : Nat, m2 + 1 = d1 := ⟨_, rfl⟩
    obtain ⟨d2, hd2⟩ : ∃ d2 : Nat, d1 + 1 = d2 := ⟨_, rfl⟩
    have k1 : IntKind.i64.wrap (2 * (i : Int)) = (m2 : Int) := by rw [IntWalk.i64_in _ ⟨by omega, by omega⟩]; omega
    have k2 : IntKind.i64.wrap ((m2 : Int) + 1) = (d1 : Int) := by rw [IntWalk.i64_in _ ⟨by omega, by omega⟩]; omega
    have k3 : IntKind.i64.wrap ((d1 : Int) + 1) = (d2 : Int) := by rw [IntWalk.i64_in _ ⟨by omega, by omega⟩]; omega
    have HD : Hid (2 * i + 1 = d1 ∧ 2 * i + 2 = d2) := by unfold Hid; omega
    clear hm2 hd1 hd2
    by_cases h1 : d1 < n
    · have h1' : (d1 : Int) < (n : Int) := by omega
      have h1'' : ((n : Int) ≤ (d1 : Int)) = False := by simp; omega
      have h1n : ¬ (d1 : Int) < 0 := by omega
      have h1d : decide ((d1 : Int) < 0) = false := decide_eq_false h1n
      have HLS : Hid (∀ v, Below wr.heap.size wr v → ∀ p q : Nat, p < n → q < n → Calls Tryz.prog 128 #[V, .int .i64 (p : Int), .int .i64 (q : Int)] v fun e w' => e = .returned (.bool (decide (ys[p]! < ys[q]!))) ∧ Below v.heap.size v w') := fun v hv p q hp hq => rless_any (HH.out.below hv) p q (by have := HL.out; omega) (by have := HL.out; omega)
      by_cases h2 : d2 < n
      · have h2' : (d2 : Int) < (n : Int) := by omega
        by_cases hl2 : ys[d2]! < ys[d1]!
        · have Q1 : Hid (Calls Tryz.prog 128 #[V, .int .i64 (d2 : Int), .int .i64 (d1 : Int)] wr fun e w' => e = .returned (.bool true) ∧ Below wr.heap.size wr w') := by
            have := HLS.out wr (Below.refl _ _) d2 d1 h2 h1
            rw [show decide (ys[d2]! < ys[d1]!) = true from decide_eq_true hl2] at this
            exact this
          have HMN : Hid (∀ k, (k = 2 * i + 1 ∨ k = 2 * i + 2) → k < n → ys[d2]! ≤ ys[k]!) := by
            intro k hk hkn
            have hd := HD.out
            rcases hk with e | e
            · obtain rfl : k = d1 := by omega
              omega
            · obtain rfl : k = d2 := by omega
              omega
          by_cases hlt : ys[d2]! < ys[i]!
          · have Q2 : Hid (∀ v, Below wr.heap.size wr v → Calls Tryz.prog 128 #[V, .int .i64 (d2 : Int), .int .i64 (i : Int)] v fun e w' => e = .returned (.bool true) ∧ Below v.heap.size v w') := fun v hv => by
              have := HLS.out v hv d2 i (by omega) (by have := HD.out; omega)
              rw [show decide (ys[d2]! < ys[i]!) = true from decide_eq_true hlt] at this
              exact this
            have HLT := hidH hlt
            clear hlt
            go_wp2_with (first
              | (go_at_call 128; (with_reducible refine (Q1.out).mono ?_); rintro e w1 ⟨rfl, hb9⟩; have E1 := hidH hb9; have H1 := hidH (HH.out.below hb9); have c1 := H1.out.at0; have z1 := H1.out.box.lt; have ml1 := m_less b V w1 c1; clear hb9)
              | (go_at_call 128; (with_reducible refine (Q2.out _ E1.out).mono ?_); rintro e w2 ⟨rfl, hb9⟩; have H2 := hidH (H1.out.below hb9); have M2 := hidH ((HM.out.trans (Mv.of (r := V.ownBlock) E1.out HH.out.box.lt HH.out.le) (.inl rfl)).trans (Mv.of (r := V.ownBlock) hb9 H1.out.box.lt HH.out.le) (.inl rfl)); have c2 := H2.out.at0; have z2 := H2.out.box.lt; have ms2 := m_swap b V w2 c2; clear hb9)
              | (go_at_call 129; (with_reducible refine (rswap_any H2.out i d2 (by have h8 := HL.out; have h9 := HD.out; omega) (by have h8 := HL.out; omega)).mono ?_); rintro e w3 ⟨⟨x, rfl⟩, hq3, hm3⟩; have H3 := hidH hq3; have M3 := hidH (M2.out.trans hm3 (.inl rfl)); clear hq3 hm3))
            go_roundg (n - d2)
            case measure => have := HD.out; omega
            case rel => exact ⟨d2, sw ys i d2, rfl, rfl, by omega, by rw [sw_len]; exact HL.out, H3.out, HU.out.down (by rw [HL.out]; exact hnl) (by have := HD.out; omega) (by omega) HLT.out HMN.out, (sw_perm ys (by have h8 := HL.out; have h9 := HD.out; omega) (by have h8 := HL.out; omega)).trans HP.out, fun k hk => (sw_far ys (n := n) (by have := HD.out; omega) (by omega) (by rw [HL.out]; exact hnl) hk).trans (HK.out k hk), M3.out⟩
          · have Q2 : Hid (∀ v, Below wr.heap.size wr v → Calls Tryz.prog 128 #[V, .int .i64 (d2 : Int), .int .i64 (i : Int)] v fun e w' => e = .returned (.bool false) ∧ Below v.heap.size v w') := fun v hv => by
              have := HLS.out v hv d2 i (by omega) (by have := HD.out; omega)
              rw [show decide (ys[d2]! < ys[i]!) = false from decide_eq_false hlt] at this
              exact this
            have HLT := hidH hlt
            clear hlt
            go_wp2_with (first
              | (go_at_call 128; (with_reducible refine (Q1.out).mono ?_); rintro e w1 ⟨rfl, hb9⟩; have E1 := hidH hb9; have H1 := hidH (HH.out.below hb9); have c1 := H1.out.at0; have z1 := H1.out.box.lt; have ml1 := m_less b V w1 c1; clear hb9)
              | (go_at_call 128; (with_reducible refine (Q2.out _ E1.out).mono ?_); rintro e w2 ⟨rfl, hb9⟩; have H2 := hidH (H1.out.below hb9); have M2 := hidH ((HM.out.trans (Mv.of (r := V.ownBlock) E1.out HH.out.box.lt HH.out.le) (.inl rfl)).trans (Mv.of (r := V.ownBlock) hb9 H1.out.box.lt HH.out.le) (.inl rfl)); have c2 := H2.out.at0; have z2 := H2.out.box.lt; have ms2 := m_swap b V w2 c2; clear hb9))
            go_ret
            exact ⟨⟨_, rfl⟩, ys, H2.out, HU.out.done (fun hk => by have h8 := HMN.out (2 * i + 1) (.inl rfl) hk; have h9 := HLT.out; omega) (fun hk => by have h8 := HMN.out (2 * i + 2) (.inr rfl) hk; have h9 := HLT.out; omega), HP.out, HK.out, M2.out⟩
        · have Q1 : Hid (Calls Tryz.prog 128 #[V, .int .i64 (d2 : Int), .int .i64 (d1 : Int)] wr fun e w' => e = .returned (.bool false) ∧ Below wr.heap.size wr w') := by
            have := HLS.out wr (Below.refl _ _) d2 d1 h2 h1
            rw [show decide (ys[d2]! < ys[d1]!) = false from decide_eq_false hl2] at this
            exact this
          have HMN : Hid (∀ k, (k = 2 * i + 1 ∨ k = 2 * i + 2) → k < n → ys[d1]! ≤ ys[k]!) := by
            intro k hk hkn
            have hd := HD.out
            rcases hk with e | e
            · obtain rfl : k = d1 := by omega
              omega
            · obtain rfl : k = d2 := by omega
              omega
          by_cases hlt : ys[d1]! < ys[i]!
          · have Q2 : Hid (∀ v, Below wr.heap.size wr v → Calls Tryz.prog 128 #[V, .int .i64 (d1 : Int), .int .i64 (i : Int)] v fun e w' => e = .returned (.bool true) ∧ Below v.heap.size v w') := fun v hv => by
              have := HLS.out v hv d1 i (by omega) (by have := HD.out; omega)
              rw [show decide (ys[d1]! < ys[i]!) = true from decide_eq_true hlt] at this
              exact this
            have HLT := hidH hlt
            clear hlt
            go_wp2_with (first
              | (go_at_call 128; (with_reducible refine (Q1.out).mono ?_); rintro e w1 ⟨rfl, hb9⟩; have E1 := hidH hb9; have H1 := hidH (HH.out.below hb9); have c1 := H1.out.at0; have z1 := H1.out.box.lt; have ml1 := m_less b V w1 c1; clear hb9)
              | (go_at_call 128; (with_reducible refine (Q2.out _ E1.out).mono ?_); rintro e w2 ⟨rfl, hb9⟩; have H2 := hidH (H1.out.below hb9); have M2 := hidH ((HM.out.trans (Mv.of (r := V.ownBlock) E1.out HH.out.box.lt HH.out.le) (.inl rfl)).trans (Mv.of (r := V.ownBlock) hb9 H1.out.box.lt HH.out.le) (.inl rfl)); have c2 := H2.out.at0; have z2 := H2.out.box.lt; have ms2 := m_swap b V w2 c2; clear hb9)
              | (go_at_call 129; (with_reducible refine (rswap_any H2.out i d1 (by have h8 := HL.out; have h9 := HD.out; omega) (by have h8 := HL.out; omega)).mono ?_); rintro e w3 ⟨⟨x, rfl⟩, hq3, hm3⟩; have H3 := hidH hq3; have M3 := hidH (M2.out.trans hm3 (.inl rfl)); clear hq3 hm3))
            go_roundg (n - d1)
            case measure => have := HD.out; omega
            case rel => exact ⟨d1, sw ys i d1, rfl, rfl, by omega, by rw [sw_len]; exact HL.out, H3.out, HU.out.down (by rw [HL.out]; exact hnl) (by have := HD.out; omega) (by omega) HLT.out HMN.out, (sw_perm ys (by have h8 := HL.out; have h9 := HD.out; omega) (by have h8 := HL.out; omega)).trans HP.out, fun k hk => (sw_far ys (n := n) (by have := HD.out; omega) (by omega) (by rw [HL.out]; exact hnl) hk).trans (HK.out k hk), M3.out⟩
          · have Q2 : Hid (∀ v, Below wr.heap.size wr v → Calls Tryz.prog 128 #[V, .int .i64 (d1 : Int), .int .i64 (i : Int)] v fun e w' => e = .returned (.bool false) ∧ Below v.heap.size v w') := fun v hv => by
              have := HLS.out v hv d1 i (by omega) (by have := HD.out; omega)
              rw [show decide (ys[d1]! < ys[i]!) = false from decide_eq_false hlt] at this
              exact this
            have HLT := hidH hlt
            clear hlt
            go_wp2_with (first
              | (go_at_call 128; (with_reducible refine (Q1.out).mono ?_); rintro e w1 ⟨rfl, hb9⟩; have E1 := hidH hb9; have H1 := hidH (HH.out.below hb9); have c1 := H1.out.at0; have z1 := H1.out.box.lt; have ml1 := m_less b V w1 c1; clear hb9)
              | (go_at_call 128; (with_reducible refine (Q2.out _ E1.out).mono ?_); rintro e w2 ⟨rfl, hb9⟩; have H2 := hidH (H1.out.below hb9); have M2 := hidH ((HM.out.trans (Mv.of (r := V.ownBlock) E1.out HH.out.box.lt HH.out.le) (.inl rfl)).trans (Mv.of (r := V.ownBlock) hb9 H1.out.box.lt HH.out.le) (.inl rfl)); have c2 := H2.out.at0; have z2 := H2.out.box.lt; have ms2 := m_swap b V w2 c2; clear hb9))
            go_ret
            exact ⟨⟨_, rfl⟩, ys, H2.out, HU.out.done (fun hk => by have h8 := HMN.out (2 * i + 1) (.inl rfl) hk; have h9 := HLT.out; omega) (fun hk => by have h8 := HMN.out (2 * i + 2) (.inr rfl) hk; have h9 := HLT.out; omega), HP.out, HK.out, M2.out⟩
      · have h2' : ¬ (d2 : Int) < (n : Int) := by omega
        have HMN : Hid (∀ k, (k = 2 * i + 1 ∨ k = 2 * i + 2) → k < n → ys[d1]! ≤ ys[k]!) := by
          intro k hk hkn
          have hd := HD.out
          rcases hk with e | e
          · obtain rfl : k = d1 := by omega
            omega
          · obtain rfl : k = d2 := by omega
            omega
        by_cases hlt : ys[d1]! < ys[i]!
        · have Q2 : Hid (∀ v, Below wr.heap.size wr v → Calls Tryz.prog 128 #[V, .int .i64 (d1 : Int), .int .i64 (i : Int)] v fun e w' => e = .returned (.bool true) ∧ Below v.heap.size v w') := fun v hv => by
            have := HLS.out v hv d1 i (by omega) (by have := HD.out; omega)
            rw [show decide (ys[d1]! < ys[i]!) = true from decide_eq_true hlt] at this
            exact this
          have HLT := hidH hlt
          clear hlt
          go_wp2_with (first
            | (go_at_call 128; (with_reducible refine (Q2.out _ (Below.refl _ _)).mono ?_); rintro e w2 ⟨rfl, hb9⟩; have H2 := hidH (HH.out.below hb9); have M2 := hidH ((HM.out.trans (Mv.of (r := V.ownBlock) (Below.refl _ _) HH.out.box.lt HH.out.le) (.inl rfl)).trans (Mv.of (r := V.ownBlock) hb9 HH.out.box.lt HH.out.le) (.inl rfl)); have c2 := H2.out.at0; have z2 := H2.out.box.lt; have ms2 := m_swap b V w2 c2; clear hb9)
            | (go_at_call 129; (with_reducible refine (rswap_any H2.out i d1 (by have h8 := HL.out; have h9 := HD.out; omega) (by have h8 := HL.out; omega)).mono ?_); rintro e w3 ⟨⟨x, rfl⟩, hq3, hm3⟩; have H3 := hidH hq3; have M3 := hidH (M2.out.trans hm3 (.inl rfl)); clear hq3 hm3))
          go_roundg (n - d1)
          case measure => have := HD.out; omega
          case rel => exact ⟨d1, sw ys i d1, rfl, rfl, by omega, by rw [sw_len]; exact HL.out, H3.out, HU.out.down (by rw [HL.out]; exact hnl) (by have := HD.out; omega) (by omega) HLT.out HMN.out, (sw_perm ys (by have h8 := HL.out; have h9 := HD.out; omega) (by have h8 := HL.out; omega)).trans HP.out, fun k hk => (sw_far ys (n := n) (by have := HD.out; omega) (by omega) (by rw [HL.out]; exact hnl) hk).trans (HK.out k hk), M3.out⟩
        · have Q2 : Hid (∀ v, Below wr.heap.size wr v → Calls Tryz.prog 128 #[V, .int .i64 (d1 : Int), .int .i64 (i : Int)] v fun e w' => e = .returned (.bool false) ∧ Below v.heap.size v w') := fun v hv => by
            have := HLS.out v hv d1 i (by omega) (by have := HD.out; omega)
            rw [show decide (ys[d1]! < ys[i]!) = false from decide_eq_false hlt] at this
            exact this
          have HLT := hidH hlt
          clear hlt
          go_wp2_with (first
            | (go_at_call 128; (with_reducible refine (Q2.out _ (Below.refl _ _)).mono ?_); rintro e w2 ⟨rfl, hb9⟩; have H2 := hidH (HH.out.below hb9); have M2 := hidH ((HM.out.trans (Mv.of (r := V.ownBlock) (Below.refl _ _) HH.out.box.lt HH.out.le) (.inl rfl)).trans (Mv.of (r := V.ownBlock) hb9 HH.out.box.lt HH.out.le) (.inl rfl)); have c2 := H2.out.at0; have z2 := H2.out.box.lt; have ms2 := m_swap b V w2 c2; clear hb9))
          go_ret
          exact ⟨⟨_, rfl⟩, ys, H2.out, HU.out.done (fun hk => by have h8 := HMN.out (2 * i + 1) (.inl rfl) hk; have h9 := HLT.out; omega) (fun hk => by have h8 := HMN.out (2 * i + 2) (.inr rfl) hk; have h9 := HLT.out; omega), HP.out, HK.out, M2.out⟩
    · have h1' : ¬ (d1 : Int) < (n : Int) := by omega
      have h1'' : ((n : Int) ≤ (d1 : Int)) = True := by simp; omega
      go_wp2
      go_ret
      exact ⟨⟨_, rfl⟩, ys, HH.out, HU.out.done (fun hk => absurd hk (by have := HD.out; omega)) (fun hk => absurd hk (by have := HD.out; omega)), HP.out, HK.out, HM.out⟩
end Go.Proofs.YtgijcbipnjmhgabGreat

namespace Go.Proofs.YtgijcbipnjmhgabGreat
open Go.ChangeShapes Go.WideShapes Go.ChangeAt Go.RowKit
set_option linter.unusedVariables false
set_option linter.unusedSimpArgs false

theorem infoPr : (Tryz.prog.info? 51).map (fun i => (i.zero, i.size, i.bytes)) = some (some (.agg #[.int .i64 0, .int .i64 0]), 2, 16) := by kernel_rfl
def pmarks : List Pr := [⟨-7, 7⟩, ⟨7, -7⟩]

end Go.Proofs.YtgijcbipnjmhgabGreat

namespace Go.Proofs.YtgijcbipnjmhgabGreat
open Go.ChangeShapes Go.WideShapes Go.ChangeAt Go.RowKit
set_option linter.unusedVariables false
set_option linter.unusedSimpArgs false

set_option maxRecDepth 1000000 in
set_option maxHeartbeats 4000000 in
theorem walkC_any (B bm bn bk bt gm gV n bf bl : Nat) (w0 : World) (rs : List Rr) (ps : List Pr) (T : List Nat → World → Prop) (hn : n ≤ 131072) (hA : Ad .i32 ps rs) (hps : ∀ p ∈ ps, 0 ≤ p.b ∧ p.b < (n : Int)) (hpl : ps.length ≤ 17592186044416)
    (hT : ∀ m t z x, Wc B bm bn bk bt gm gV n (.func (.func 28) #[] #[.pointer (some ⟨bf, 0, none⟩), .pointer (some ⟨bl, 0, none⟩)]) w0 rs m z → T t z → T t (z.setCell ⟨gm, x, none⟩ (.bool true)))
    (htell : ∀ m t z (x : Nat), x < n → t.length < n → Wc B bm bn bk bt gm gV n (.func (.func 28) #[] #[.pointer (some ⟨bf, 0, none⟩), .pointer (some ⟨bl, 0, none⟩)]) w0 rs m z → T t z → Calls Tryz.prog 28 (#[.int .i64 (x : Int), .pointer (some ⟨bf, 0, none⟩), .pointer (some ⟨bl, 0, none⟩)]) z fun e z' => (∃ v, e = .returned v) ∧ Wc B bm bn bk bt gm gV n (.func (.func 28) #[] #[.pointer (some ⟨bf, 0, none⟩), .pointer (some ⟨bl, 0, none⟩)]) w0 rs m z' ∧ T (t ++ [x]) z') :
    ∀ (k x : Nat) (m : List Bool) (t : List Nat) (z : World), x < n → unm m ≤ k → t.length + unm m ≤ n → Wc B bm bn bk bt gm gV n (.func (.func 28) #[] #[.pointer (some ⟨bf, 0, none⟩), .pointer (some ⟨bl, 0, none⟩)]) w0 rs m z → T t z →
    Calls Tryz.prog 57 #[.int .i64 (x : Int), .pointer (some ⟨bm, 0, none⟩), .pointer (some ⟨bn, 0, none⟩), .pointer (some ⟨bk, 0, none⟩), .pointer (some ⟨bt, 0, none⟩)] z fun e z' => (∃ v, e = .returned v) ∧ ∃ m' t', Wc B bm bn bk bt gm gV n (.func (.func 28) #[] #[.pointer (some ⟨bf, 0, none⟩), .pointer (some ⟨bl, 0, none⟩)]) w0 rs m' z' ∧ T t' z' ∧ Dq ps (Rch ps x) m t m' t' ∧ m'[x]? = some true := by
  intro k
  induction k using Nat.strongRecOn with
  | ind k ih =>
  intro x m t z hx hk hcn hW hTt
  have IH : Hid (∀ (y : Nat) (m2 : List Bool) (t2 : List Nat) (z : World), y < n → unm m2 < unm m → t2.length + unm m2 ≤ n → Wc B bm bn bk bt gm gV n (.func (.func 28) #[] #[.pointer (some ⟨bf, 0, none⟩), .pointer (some ⟨bl, 0, none⟩)]) w0 rs m2 z → T t2 z → Calls Tryz.prog 57 #[.int .i64 (y : Int), .pointer (some ⟨bm, 0, none⟩), .pointer (some ⟨bn, 0, none⟩), .pointer (some ⟨bk, 0, none⟩), .pointer (some ⟨bt, 0, none⟩)] z fun e z' => (∃ v, e = .returned v) ∧ ∃ m' t', Wc B bm bn bk bt gm gV n (.func (.func 28) #[] #[.pointer (some ⟨bf, 0, none⟩), .pointer (some ⟨bl, 0, none⟩)]) w0 rs m' z' ∧ T t' z' ∧ Dq ps (Rch ps y) m2 t2 m' t' ∧ m'[y]? = some true) := fun y m2 t2 z h1 h2 h3 h4 h5 => ih (unm m2) (by omega) y m2 t2 z h1 (Nat.le_refl _) h3 h4 h5
  have HW : Hid (Wc B bm bn bk bt gm gV n (.func (.func 28) #[] #[.pointer (some ⟨bf, 0, none⟩), .pointer (some ⟨bl, 0, none⟩)]) w0 rs m z) := hW
  have HT : Hid (T t z) := hTt
  have HA : Hid (Ad .i32 ps rs) := hA
  have HPS : Hid (∀ p ∈ ps, 0 ≤ p.b ∧ p.b < (n : Int)) := hps
  have HT1 : Hid (∀ m t z x, Wc B bm bn bk bt gm gV n (.func (.func 28) #[] #[.pointer (some ⟨bf, 0, none⟩), .pointer (some ⟨bl, 0, none⟩)]) w0 rs m z → T t z → T t (z.setCell ⟨gm, x, none⟩ (.bool true))) := hT
  have HTL : Hid (∀ m t z (x : Nat), x < n → t.length < n → Wc B bm bn bk bt gm gV n (.func (.func 28) #[] #[.pointer (some ⟨bf, 0, none⟩), .pointer (some ⟨bl, 0, none⟩)]) w0 rs m z → T t z → Calls Tryz.prog 28 (#[.int .i64 (x : Int), .pointer (some ⟨bf, 0, none⟩), .pointer (some ⟨bl, 0, none⟩)]) z fun e z' => (∃ v, e = .returned v) ∧ Wc B bm bn bk bt gm gV n (.func (.func 28) #[] #[.pointer (some ⟨bf, 0, none⟩), .pointer (some ⟨bl, 0, none⟩)]) w0 rs m z' ∧ T (t ++ [x]) z') := htell
  clear ih hW hTt hA hps hT htell
  obtain ⟨b, hb⟩ : ∃ b, m[x]? = some b := ⟨_, List.getElem?_eq_getElem (by rw [HW.out.mlen]; exact hx)⟩
  have HBB : Hid (m[x]? = some b) := hb
  have c1 := HW.out.xm.one
  obtain ⟨cm, fm⟩ := HW.out.get hb
  have hx0 : (0 : Int) ≤ (x : Int) := by omega
  have hxn : (x : Int) < (n : Int) := by omega
  clear hb
  go_enter Tryz.func57, Tryz.ntmps57
  cases b with
  | true =>
    go_wp2
    refine bodyPost_ret (results_none rfl _ _ _) rfl ?_
    exact ⟨⟨_, rfl⟩, m, t, HW.out, HT.out, Dq.refl _ _ _ _, HBB.out⟩
  | false =>
    go_upto_region 2 with fail
    obtain ⟨z1, hz1⟩ : ∃ z1, z.setCell ⟨gm, x, none⟩ (.bool true) = z1 := ⟨_, rfl⟩
    have W1 : Hid (Wc B bm bn bk bt gm gV n (.func (.func 28) #[] #[.pointer (some ⟨bf, 0, none⟩), .pointer (some ⟨bl, 0, none⟩)]) w0 rs (m.set x true) z1) := by unfold Hid; rw [← hz1]; exact HW.out.set x
    have T1 : Hid (T t z1) := by unfold Hid; rw [← hz1]; exact HT1.out m t z x HW.out HT.out
    rw [hz1]
    clear hz1 c1 cm fm
    obtain ⟨r, hrx⟩ : ∃ r, rs[x]? = some r := ⟨_, List.getElem?_eq_getElem (by rw [W1.out.lv.len]; exact hx)⟩
    obtain ⟨ys, hy1, hy2, hy3, hy4⟩ := HA.out x r hrx
    obtain ⟨a1, ca, hv1, -, -⟩ := own_slice (W1.out.lv.she.get hrx)
    have HRX : Hid (rs[x]? = some r) := hrx
    have HY : Hid (r.xs = ys.map (Value.int .i32) ∧ ∀ y, y ∈ ys ↔ (⟨(x : Int), y⟩ : Pr) ∈ ps) := ⟨hy2, hy4⟩
    have HV : Hid (r.v = .slice a1 r.n ca) := hv1
    have cn := W1.out.xn.one
    have cr := (W1.out.lv.cell hrx).1
    rw [hv1, hy1] at cr
    have hyl : ys.length ≤ 17592186044416 := by omega
    have HN : Hid (r.n = ys.length) := hy1
    clear hrx hy1 hy2 hy3 hy4 hv1
    go_wp2
    clear cn cr
    go_loopg [20] ys.length (fun gk si wr => ∃ (j : Nat) (m1 : List Bool) (t1 : List Nat), gk = ys.length - j ∧ si = .int .i64 (j : Int) ∧ j ≤ ys.length ∧ Wc B bm bn bk bt gm gV n (.func (.func 28) #[] #[.pointer (some ⟨bf, 0, none⟩), .pointer (some ⟨bl, 0, none⟩)]) w0 rs m1 wr ∧ T t1 wr ∧ Dq ps (Rch ps x) (m.set x true) t m1 t1 ∧ ∀ (i : Nat) (y : Nat), i < j → ys[i]? = some (y : Int) → m1[y]? = some true)
    case atStart => exact ⟨0, _, _, rfl, rfl, Nat.zero_le _, W1.out, T1.out, Dq.refl _ _ _ _, fun i y h => absurd h (Nat.not_lt_zero _)⟩
    case round =>
      obtain ⟨j, m1, t1, hgk, rfl, hj, hW1, hT1, hD1, hd1⟩ := hrel
      clear W1 T1
      have W1 : Hid (Wc B bm bn bk bt gm gV n (.func (.func 28) #[] #[.pointer (some ⟨bf, 0, none⟩), .pointer (some ⟨bl, 0, none⟩)]) w0 rs m1 wr) := hW1
      have T1 : Hid (T t1 wr) := hT1
      have D1 : Hid (Dq ps (Rch ps x) (m.set x true) t m1 t1) := hD1
      have E1 : Hid (∀ (i : Nat) (y : Nat), i < j → ys[i]? = some (y : Int) → m1[y]? = some true) := hd1
      clear hW1 hT1 hD1 hd1
      by_cases hjy : j < ys.length
      · have hjy' : (j : Int) < (ys.length : Int) := by omega
        obtain ⟨y, hy⟩ : ∃ y, ys[j]? = some y := ⟨_, List.getElem?_eq_getElem hjy⟩
        have hmem := (HY.out.2 y).1 (List.mem_of_getElem? hy)
        obtain ⟨hy0, hyn⟩ := HPS.out _ hmem
        obtain ⟨yn, rfl⟩ : ∃ yn : Nat, y = (yn : Int) := ⟨y.toNat, by simp only at hy0; omega⟩
        simp only at hy0 hyn
        have HYJ : Hid (ys[j]? = some (yn : Int) ∧ (⟨(x : Int), (yn : Int)⟩ : Pr) ∈ ps) := ⟨hy, hmem⟩
        obtain ⟨g, ha⟩ : ∃ g, a1 = some ⟨g, 0, none⟩ := by
          obtain ⟨a9, c9, hv9, h9, -⟩ := own_slice (W1.out.lv.she.get HRX.out)
          rw [HV.out] at hv9
          simp only [Value.slice.injEq] at hv9
          obtain ⟨rfl, -, rfl⟩ := hv9
          exact h9 (by rw [HN.out]; omega)
        subst ha
        have cy : wr.cell? ⟨g, j, none⟩ = some (.int .i32 (yn : Int)) := by
          have h9 := W1.out.lv.she.get HRX.out
          rw [HV.out, HY.out.1] at h9
          have h8 := h9.cells rfl j (.int .i32 (yn : Int)) (by rw [List.getElem?_map, hy]; rfl)
          rwa [addr_add, Nat.zero_add] at h8
        have ck := W1.out.xk.one
        have kw : IntKind.i64.wrap (yn : Int) = (yn : Int) := IntWalk.i64_in _ ⟨by omega, by omega⟩
        have hlt : unm m1 < unm m := by
          have h8 := D1.out.unm_le
          have h9 := unm_set m x HBB.out
          omega
        have hc1 : t1.length + unm m1 ≤ n := by
          have h8 := D1.out.cnt
          have h9 := unm_set m x HBB.out
          omega
        clear hy hmem
        go_wp2_with (go_at_call 57; (with_reducible refine (IH.out yn m1 t1 wr (by omega) hlt hc1 W1.out T1.out).mono ?_); rintro e v1 ⟨⟨v, rfl⟩, m2, t2, hW2, hT2, hD2, hm2⟩; have W2 : Hid (Wc B bm bn bk bt gm gV n (.func (.func 28) #[] #[.pointer (some ⟨bf, 0, none⟩), .pointer (some ⟨bl, 0, none⟩)]) w0 rs m2 v1) := hW2; have T2 : Hid (T t2 v1) := hT2; have D2 : Hid (Dq ps (Rch ps yn) m1 t1 m2 t2) := hD2; have M2 : Hid (m2[yn]? = some true) := hm2; clear hW2 hT2 hD2 hm2)
        go_roundg (ys.length - (j + 1))
        case measure => omega
        case rel =>
          refine ⟨j + 1, m2, t2, rfl, by go_num, by omega, W2.out, T2.out, D1.out.trans D2.out (fun y h => .step HYJ.out.2 h), fun i y hi hyi => ?_⟩
          rcases Nat.lt_succ_iff_lt_or_eq.1 hi with h | h
          · exact D2.out.mono y (E1.out i y h hyi)
          · subst h
            have h9 := HYJ.out.1
            rw [hyi] at h9
            have h8 : y = yn := by have := Option.some.inj h9; omega
            rw [h8]
            exact M2.out
      · have hjy' : ¬ (j : Int) < (ys.length : Int) := by omega
        have ct := W1.out.xt.one
        have hc1 : t1.length < n := by
          have h8 := D1.out.cnt
          have h9 := unm_set m x HBB.out
          omega
        go_wp2_with (go_at_call 28; (with_reducible refine (HTL.out m1 t1 wr x hx hc1 W1.out T1.out).mono ?_); rintro e v1 ⟨⟨v, rfl⟩, hW2, hT2⟩; have W2 : Hid (Wc B bm bn bk bt gm gV n (.func (.func 28) #[] #[.pointer (some ⟨bf, 0, none⟩), .pointer (some ⟨bl, 0, none⟩)]) w0 rs m1 v1) := hW2; have T2 : Hid (T (t1 ++ [x]) v1) := hT2; clear hW2 hT2)
        go_end0
        refine ⟨⟨_, rfl⟩, m1, t1 ++ [x], W2.out, T2.out, Dq.node HBB.out D1.out (fun y' he => ?_), D1.out.mono x (by rw [List.getElem?_set, if_pos rfl, if_pos (by rw [HW.out.mlen]; exact hx)])⟩
        obtain ⟨i, hi⟩ := List.getElem?_of_mem ((HY.out.2 (y' : Int)).2 he)
        exact E1.out i y' (by have := (List.getElem?_eq_some_iff.1 hi).1; omega) hi
end Go.Proofs.YtgijcbipnjmhgabGreat
