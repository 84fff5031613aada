import Derived.Test.YtclpodmgpfdleaaKep
import Derived.Test.YtclpodmgpfdleaaSh3
import Derived.Test.YtclpodmgpfdleaaAp2
import Derived.Deep.DeepCutAuto
namespace Go.Proofs.Ytclpodmgpfdleaa
open Go.ChangeShapes Go.WideShapes Go.ChangeAt Go.RowKit
set_option linter.unusedVariables false

theorem chk_size {size size' L : Int} {xs : List Ed} (h : chk size L xs = 0) (hs : size ≤ size') : chk size' L xs = 0 := by
  induction xs generalizing L with
  | nil => rfl
  | cons e r ih =>
    obtain ⟨h1, h2, h3, h4, h5⟩ := chk_cons h
    rw [chk, if_pos ⟨h1, h2, by omega⟩, if_neg (by omega)]
    exact ih h5

theorem vld_size {size size' : Int} {xs : List Ed} (h : vld size xs = 0) (hs : size ≤ size') : vld size' xs = 0 := by
  obtain ⟨h1, h2⟩ := vld_chk h
  unfold vld; rw [if_neg (by omega)]; exact chk_size h1 hs

theorem bytes_at {l : List UInt8} {n : Nat} {tx : ByteArray} {p : Nat} (hp : p < tx.size) (h : l[n]? = tx.data.toList[p]?) : ∃ hn : n < (⟨l.toArray⟩ : ByteArray).size, (⟨l.toArray⟩ : ByteArray)[n] = tx[p] := by
  rw [bytes_get hp] at h
  obtain ⟨hn, he⟩ := List.getElem?_eq_some_iff.1 h
  exact ⟨by simpa [ByteArray.size] using hn, he⟩

set_option maxRecDepth 1000000 in
set_option maxHeartbeats 4000000 in
theorem kept_some (tx : ByteArray) (b o cap : Nat) (xs : List Ed) (w : World) (hx : tx.size ≤ 140737488351232) (h : Eds w b o xs) (hF : ∀ e ∈ xs, EdFit e) (hl : xs.length * 32 ≤ 140737488351232) (hB : tx.size + tots xs ≤ 1048576) (hv : vld tx.size xs = 0) :
    Calls Try.prog 3 #[.string tx, .slice (some ⟨b, o, none⟩) xs.length cap] w fun e w' => e = .returned (.bool true) ∧ Below w.heap.size w w' := by
  have hck := (vld_chk hv).1
  have hlen := (vld_chk hv).2
  have hv62 : vld 4611686018427387904 xs = 0 := vld_size hv (by omega)
  obtain ⟨hb1, hb2⟩ := app_bound hck
  obtain ⟨S, hS⟩ : ∃ S, appB tx xs = S := ⟨_, rfl⟩
  have hSl : S.data.toList = appF tx.data.toList 0 xs := by rw [← hS]; unfold appB; rw [if_pos hv]
  have hSz : S.size = (appF tx.data.toList 0 xs).length := by rw [← bytes_len, hSl]
  have hSb : S.size ≤ 1048576 := by omega
  have HS : Hid (appB tx xs = S) := hS
  have HSL : Hid (S.data.toList = appF tx.data.toList 0 xs) := hSl
  have HSZ : Hid (S.size = (appF tx.data.toList 0 xs).length) := hSz
  have HX : Hid (Eds w b o xs) := h
  have hbw : b < w.heap.size := h.1
  have HF : Hid (∀ e ∈ xs, EdFit e) := hF
  have HV : Hid (vld tx.size xs = 0) := hv
  have HV62 : Hid (vld 4611686018427387904 xs = 0) := hv62
  have HCK : Hid (chk tx.size 0 xs = 0) := hck
  have HL : Hid (xs.length ≤ maxLen) := by unfold Hid maxLen; omega
  have HB : Hid (tx.size + tots xs ≤ 1048576) := hB
  clear h hF hv hck hv62 hb1 hb2 hS hSl hSz
  go_enter Try.func3, Try.ntmps3
  go_wp2_with fail
  refine (apply_all tx _ cap xs _ hx (.inr ⟨b, o, rfl, HX.out⟩) HL.out HF.out (by omega)).mono ?_
  rintro e w1 ⟨rfl, hb1⟩
  rw [HS.out, HV.out]
  go_wp2
  go_loopg [7, 8, 9] (tx.size + 1) (fun gk sl si sa wr => ∃ p i last : Nat, gk = tx.size + 1 - p ∧ p ≤ tx.size + 1 ∧ sa = .int .i64 p ∧ si = .int .i64 i ∧ sl = .int .i64 last ∧ i ≤ xs.length ∧ last ≤ S.size ∧ KI tx xs p i last ∧ Below w.heap.size w wr)
  case atStart => exact ⟨0, 0, 0, rfl, Nat.zero_le _, rfl, rfl, rfl, Nat.zero_le _, Nat.zero_le _, KI_start HCK.out, hb1⟩
  case round =>
    clear hb1
    obtain ⟨p, i, last, rfl, hp, rfl, rfl, rfl, hi, hlast, hK, hbel⟩ := hrel
    have HKI : Hid (KI tx xs p i last) := hK
    have hsz := hbel.size
    rename World => wo
    clear hK
    by_cases hlt : p ≤ tx.size
    · have hlt' : (p : Int) ≤ (tx.size : Int) := by omega
      go_wp2
      go_loopg [8] (xs.length - i) (fun gk si wr => ∃ j : Nat, gk = xs.length - j ∧ j ≤ xs.length ∧ si = .int .i64 j ∧ KI tx xs p j last ∧ wr = wo)
      case atStart => exact ⟨i, rfl, hi, rfl, HKI.out, rfl⟩
      case round =>
        obtain ⟨j, rfl, hj, rfl, hKj, rfl⟩ := hrel
        clear HKI hi
        have HKJ : Hid (KI tx xs p j last) := hKj
        clear hKj
        by_cases hjl : j < xs.length
        · obtain ⟨e, he⟩ : ∃ e, xs[j]? = some e := ⟨_, List.getElem?_eq_getElem hjl⟩
          obtain ⟨c0, c1, c2⟩ := HX.out.cells hbel he
          have hjl' : (j : Int) < (xs.length : Int) := by omega
          by_cases hte : e.t ≤ (p : Int)
          · have HK2 : Hid (KI tx xs p (j + 1) last) := KI_adv hlt HKJ.out he hte
            clear he
            go_wp2
            go_roundg (xs.length - (j + 1))
            case measure => omega
            case rel => exact ⟨j + 1, rfl, by omega, by go_num, HK2.out, rfl⟩
          · have hte' : (p : Int) < e.t := by omega
            have HE : Hid (xs[j]? = some e) := he
            have hjne : ((j : Int) == (xs.length : Int)) = false := by simp; omega
            clear he hte
            by_cases hfe : (p : Int) ≤ e.f
            · obtain ⟨n, hn1, hn2, hn3, hn4, hn5, hn6⟩ := KI_ok hlt HV62.out HCK.out HB.out HKJ.out (fun x hx => by rw [HE.out] at hx; cases hx; exact hte') (fun x hx => by rw [HE.out] at hx; cases hx; exact hfe)
              have HN1 : Hid (shN xs p = n) := hn1
              have HN2 : Hid (shB xs p = true) := hn2
              have HN5 : Hid (KI tx xs (p + 1) j n) := hn5
              have HN6 : Hid (p < tx.size → (p : Int) < e.f → (appF tx.data.toList 0 xs)[n]? = tx.data.toList[p]?) := fun g1 g2 => hn6 g1 (fun x hx => by rw [HE.out] at hx; cases hx; exact g2)
              rw [← HSZ.out] at hn4
              clear hn1 hn2 hn5 hn6
              go_wp2_with fail
              refine (shift_all _ cap xs p _ (by omega) (by omega) (.inr ⟨b, o, rfl, HX.out.below hbel hbw⟩) HL.out HF.out).mono ?_
              rintro e' w2 ⟨rfl, hb2⟩
              rw [HN1.out, HN2.out]
              have hbel2 : Below w.heap.size w w2 := hbel.trans (hb2.mono hsz)
              have HBL : Hid (Below w.heap.size w w2) := hbel2
              clear c0 c1 c2
              obtain ⟨c0, c1, c2⟩ := HX.out.cells hbel2 HE.out
              clear hb2 hbel2
              have hcase : (((p : Int) == (tx.size : Int)) = true) ∨ (((p : Int) == (tx.size : Int)) = false ∧ e.f ≤ (p : Int)) ∨ (((p : Int) == (tx.size : Int)) = false ∧ (p : Int) < e.f ∧ ∃ (g1 : n < S.size) (g2 : p < tx.size), S[n] = tx[p]) := by
                by_cases g1 : p = tx.size
                · exact .inl (by simp; omega)
                · by_cases g2 : e.f ≤ (p : Int)
                  · exact .inr (.inl ⟨by simp; omega, g2⟩)
                  · refine .inr (.inr ⟨by simp; omega, by omega, ?_⟩)
                    have hg := HN6.out (by omega) (by omega)
                    rw [← HSL.out, bytes_get (show p < tx.size by omega)] at hg
                    obtain ⟨hn, he⟩ := List.getElem?_eq_some_iff.1 hg
                    exact ⟨by rw [← bytes_len]; exact hn, by omega, he⟩
              rcases hcase with g1 | ⟨g1, g2⟩ | ⟨g1, g2, g3, g4, g5⟩
              all_goals
                go_wp2
                go_quiet (fail)
                go_wp2
                go_roundg (tx.size + 1 - (p + 1))
                case measure => omega
                case rel => exact ⟨p + 1, j, n, rfl, by omega, by go_num, rfl, rfl, by omega, hn4, HN5.out, below_drewN HBL.out _⟩
            · obtain ⟨⟨hn1, hn2⟩, hn3⟩ := KI_no hlt HV62.out hx HKJ.out HE.out hte' (by omega)
              have HN1 : Hid (shN xs p = 0) := hn1
              have HN2 : Hid (shB xs p = false) := hn2
              have HN3 : Hid (KI tx xs (p + 1) j last) := hn3
              have hfe' : e.f < (p : Int) := by omega
              clear hn1 hn2 hn3 hfe
              go_wp2_with fail
              refine (shift_all _ cap xs p _ (by omega) (by omega) (.inr ⟨b, o, rfl, HX.out.below hbel hbw⟩) HL.out HF.out).mono ?_
              rintro e' w2 ⟨rfl, hb2⟩
              rw [HN1.out, HN2.out]
              have hbel2 : Below w.heap.size w w2 := hbel.trans (hb2.mono hsz)
              have HBL : Hid (Below w.heap.size w w2) := hbel2
              clear c0 c1 c2
              obtain ⟨c0, c1, c2⟩ := HX.out.cells hbel2 HE.out
              clear hb2 hbel2
              go_wp2
              go_roundg (tx.size + 1 - (p + 1))
              case measure => omega
              case rel => exact ⟨p + 1, j, last, rfl, by omega, by go_num, rfl, rfl, by omega, hlast, HN3.out, HBL.out⟩
        · have hjx : xs[j]? = none := by simp; omega
          have hjeq : ((j : Int) == (xs.length : Int)) = true := by simp; omega
          have hjge : (xs.length : Int) ≤ (j : Int) := by omega
          obtain ⟨n, hn1, hn2, hn3, hn4, hn5, hn6⟩ := KI_ok hlt HV62.out HCK.out HB.out HKJ.out (fun x hx => by rw [hjx] at hx; cases hx) (fun x hx => by rw [hjx] at hx; cases hx)
          have HN1 : Hid (shN xs p = n) := hn1
          have HN2 : Hid (shB xs p = true) := hn2
          have HN5 : Hid (KI tx xs (p + 1) j n) := hn5
          have HN6 : Hid (p < tx.size → (appF tx.data.toList 0 xs)[n]? = tx.data.toList[p]?) := fun g1 => hn6 g1 (fun x hx => by rw [hjx] at hx; cases hx)
          rw [← HSZ.out] at hn4
          clear hn1 hn2 hn5 hn6 hjx
          go_wp2_with fail
          refine (shift_all _ cap xs p _ (by omega) (by omega) (.inr ⟨b, o, rfl, HX.out.below hbel hbw⟩) HL.out HF.out).mono ?_
          rintro e' w2 ⟨rfl, hb2⟩
          rw [HN1.out, HN2.out]
          have hbel2 : Below w.heap.size w w2 := hbel.trans (hb2.mono hsz)
          have HBL : Hid (Below w.heap.size w w2) := hbel2
          clear hb2 hbel2
          have hcase : (((p : Int) == (tx.size : Int)) = true) ∨ (((p : Int) == (tx.size : Int)) = false ∧ ∃ (g1 : n < S.size) (g2 : p < tx.size), S[n] = tx[p]) := by
            by_cases g1 : p = tx.size
            · exact .inl (by simp; omega)
            · refine .inr ⟨by simp; omega, ?_⟩
              have hg := HN6.out (by omega)
              rw [← HSL.out, bytes_get (show p < tx.size by omega)] at hg
              obtain ⟨hn, he⟩ := List.getElem?_eq_some_iff.1 hg
              exact ⟨by rw [← bytes_len]; exact hn, by omega, he⟩
          rcases hcase with g1 | ⟨g1, g3, g4, g5⟩
          all_goals
            go_wp2
            go_quiet (fail)
            go_wp2
            go_roundg (tx.size + 1 - (p + 1))
            case measure => omega
            case rel => exact ⟨p + 1, j, n, rfl, by omega, by go_num, rfl, rfl, by omega, hn4, HN5.out, below_drewN HBL.out _⟩
    · have hend : last = S.size := by rw [HSZ.out]; exact KI_end HKI.out (by omega)
      have heq : ((last : Int) == (S.size : Int)) = true := by simp; omega
      have hgt : (tx.size : Int) < (p : Int) := by omega
      clear hend
      go_wp2
      go_ret
      exact ⟨rfl, hbel⟩
end Go.Proofs.Ytclpodmgpfdleaa
