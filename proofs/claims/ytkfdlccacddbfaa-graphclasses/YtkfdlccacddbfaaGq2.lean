import Derived.Test.YtkfdlccacddbfaaGr6
namespace Go.Proofs.Ytkfdlccacddbfaa
open Go.ChangeShapes Go.WideShapes Go.ChangeAt Go.RowKit
set_option linter.unusedVariables false
set_option linter.unusedSimpArgs false

set_option maxRecDepth 1000000 in
set_option maxHeartbeats 4000000 in
theorem rbad_any (n : Int) (a : Option Addr) (cap : Nat) (ps : List Pr) (w : World) (hL : LiesA w a ps) (hm : ps.length ≤ 17592186044416) : Calls Try.prog 18 #[.int .i64 n, .slice a ps.length cap] w fun e w' => e = .returned (.bool (!things n ps)) ∧ w' = w := by
  have HL : Hid (LiesA w a ps) := hL
  clear hL
  by_cases h0 : n < 0
  · go_enter Try.func18, Try.ntmps18
    go_wp2
    go_ret
    exact ⟨by rw [things, decide_eq_false (show ¬ 0 ≤ n by omega)]; rfl, rfl⟩
  · by_cases h1 : 131072 < n
    · go_enter Try.func18, Try.ntmps18
      go_wp2
      go_ret
      exact ⟨by rw [things, decide_eq_false (show ¬ n ≤ 131072 by omega)]; simp, rfl⟩
    · have HT : Hid (things n ps = ps.all (thp n)) := by unfold Hid things; rw [decide_eq_true (show 0 ≤ n by omega), decide_eq_true (show n ≤ 131072 by omega)]; rfl
      go_enter Try.func18, Try.ntmps18
      go_wp2
      go_loopg [5] ps.length (fun gk si wr => ∃ (k : Nat), gk = ps.length - k ∧ si = .int .i64 (k : Int) ∧ k ≤ ps.length ∧ (ps.take k).all (thp n) = true ∧ wr = w)
      case atStart => exact ⟨0, rfl, rfl, Nat.zero_le _, rfl, rfl⟩
      case round =>
        obtain ⟨k, hgk, rfl, hk, hall, hw⟩ := hrel
        have hw2 := hw.symm
        clear hw
        subst hw2
        have HALL : Hid ((ps.take k).all (thp n) = true) := hall
        clear hall
        by_cases hkp : k < ps.length
        · have hkp' : (k : Int) < (ps.length : Int) := by omega
          obtain ⟨p, hp⟩ : ∃ p, ps[k]? = some p := ⟨_, List.getElem?_eq_getElem hkp⟩
          obtain ⟨b, o, ha, hLi⟩ : ∃ b o, a = some ⟨b, o, none⟩ ∧ Lies w b o ps := by
            rcases HL.out with h | h
            · rw [h] at hkp; exact absurd hkp (Nat.not_lt_zero _)
            · exact h
          subst ha
          obtain ⟨pa, pb⟩ := p
          obtain ⟨d0, d1⟩ := hLi.pr hp
          simp only at d0 d1
          have HP : Hid (ps[k]? = some ⟨pa, pb⟩) := hp
          have HBAD : Hid (thp n ⟨pa, pb⟩ = false → things n ps = false) := fun hbad => by
            rw [HT.out, List.all_eq_false]
            exact ⟨_, List.mem_of_getElem? HP.out, by simp [hbad]⟩
          clear hLi hp
          by_cases ha0 : pa < 0
          · go_wp2
            go_ret
            exact ⟨by rw [HBAD.out (by unfold thp thg; rw [decide_eq_false (show ¬ 0 ≤ pa by omega)]; rfl)]; rfl, rfl⟩
          · by_cases ha1 : n ≤ pa
            · go_wp2
              go_ret
              exact ⟨by rw [HBAD.out (by unfold thp thg; rw [decide_eq_false (show ¬ pa < n by omega)]; simp)]; rfl, rfl⟩
            · by_cases hb0 : pb < 0
              · go_wp2
                go_ret
                exact ⟨by rw [HBAD.out (by unfold thp thg; rw [decide_eq_false (show ¬ 0 ≤ pb by omega)]; simp)]; rfl, rfl⟩
              · by_cases hb1 : n ≤ pb
                · go_wp2
                  go_ret
                  exact ⟨by rw [HBAD.out (by unfold thp thg; rw [decide_eq_false (show ¬ pb < n by omega)]; simp)]; rfl, rfl⟩
                · have HG : Hid (thp n ⟨pa, pb⟩ = true) := by unfold Hid thp thg; simp; omega
                  go_wp2
                  go_roundg (ps.length - (k + 1))
                  case measure => omega
                  case rel =>
                    refine ⟨k + 1, rfl, by go_num, by omega, ?_, rfl⟩
                    rw [List.take_add_one, HP.out, List.all_append, HALL.out]
                    simp [HG.out]
        · have hkp' : ¬ (k : Int) < (ps.length : Int) := by omega
          go_wp2
          go_ret
          have h9 := HALL.out
          rw [List.take_of_length_le (by omega)] at h9
          exact ⟨by rw [HT.out, h9]; rfl, rfl⟩
end Go.Proofs.Ytkfdlccacddbfaa
