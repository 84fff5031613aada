import Derived.Test.YteolfolkolpehaaDoorRa
import Derived.Laws.Cover1
namespace Go.Proofs.YteolfolkolpehaaDoor
open Go.ChangeShapes Go.WideShapes Go.ChangeAt Go.RowKit
set_option linter.unusedVariables false

theorem rstr_eq (l : List UInt8) {a : ByteArray} (h : a.data.toList = l) : a = ⟨l.toArray⟩ := ByteArray.ext (Array.toList_inj.1 h)
theorem lit_ne {a : ByteArray} {l : List UInt8} (h : ¬ a.data.toList = l) : (a.toList == l) = false := by
  rw [beq_eq_false_iff_ne, ByteArray.toList_eq]
  exact h
theorem lit_eq {a : ByteArray} {l : List UInt8} (h : a.data.toList = l) : (a.toList == l) = true := by
  rw [beq_iff_eq, ByteArray.toList_eq]
  exact h
theorem empty_ne {a : ByteArray} (h : ¬ a.data.toList = []) : a.toList.isEmpty = false := by
  rw [ByteArray.toList_eq]
  cases ha : a.data.toList with
  | nil => exact absurd ha h
  | cons c r => rfl
theorem all_bad {l : List UInt8} {k : Nat} {x : UInt8} (h : l[k]? = some x) (hx : isD x = false) : l.all isD = false := by
  rw [List.all_eq_false]
  exact ⟨x, List.mem_of_getElem? h, by rw [hx]; exact Bool.false_ne_true⟩

set_option maxRecDepth 1000000 in
set_option maxHeartbeats 2000000 in
theorem rnumber_any (s : ByteArray) (v : World) (hs : s.size ≤ 140737488351232) (a b : Bool) (ha : nwh s.data.toList = a) (hb : nwb s.data.toList = b) :
    Calls Tryd.prog 81 #[.string s] v fun e w' => e = .returned (.tuple #[.bool a, .bool b]) ∧ Below v.heap.size v w' := by
  have hl := bytes_len s
  by_cases h1 : s.data.toList = []
  · have e1 := rstr_eq [] h1
    have HA : Hid (a = false ∧ b = true) := ⟨by rw [← ha, h1]; rfl, by rw [← hb, h1]; rfl⟩
    clear ha hb
    subst e1
    go_enter Tryd.func81, Tryd.ntmps81
    go_wp2
    go_ret2
    exact ⟨by rw [HA.out.1, HA.out.2]; rfl, Below.refl _ _⟩
  · have t1 := empty_ne h1
    by_cases h2 : s.data.toList = [45]
    · have e2 := rstr_eq [45] h2
      have HA : Hid (a = false ∧ b = true) := ⟨by rw [← ha, h2]; rfl, by rw [← hb, h2]; rfl⟩
      clear ha hb
      subst e2
      go_enter Tryd.func81, Tryd.ntmps81
      go_wp2
      go_ret2
      exact ⟨by rw [HA.out.1, HA.out.2]; rfl, Below.refl _ _⟩
    · have t2 := lit_ne h2
      have hsz : 0 < s.size := by
        cases hc : s.data.toList with
        | nil => exact absurd hc h1
        | cons c r => rw [hc] at hl; simp at hl; omega
      obtain ⟨c, hc⟩ : ∃ c, s[0]'hsz = c := ⟨_, rfl⟩
      have hlc : s.data.toList = c :: s.data.toList.drop 1 := by
        have := List.drop_eq_getElem_cons (l := s.data.toList) (i := 0) (by omega)
        rw [List.drop_zero] at this
        rw [this]
        congr 1
      have hba : b = a := by
        rw [← ha, ← hb]
        unfold nwb
        rw [beq_eq_false_iff_ne.2 h1, beq_eq_false_iff_ne.2 h2, Bool.false_or, Bool.false_or]
      by_cases h3 : c = 45
      · have t3 : ((c.toNat : Int) == 45) = true := by rw [h3]; rfl
        obtain ⟨D, hD⟩ : ∃ D, s.extract 1 s.size = D := ⟨_, rfl⟩
        have hDD : D.data.toList = s.data.toList.drop 1 := by rw [← hD]; exact Lib.extract_to_end s 1
        have hDl : D.data.toList.length = D.size := bytes_len D
        have hDz : D.size = s.size - 1 := by rw [← hDl, hDD, List.length_drop, hl]
        have hD0 : 0 < D.size := by
          rw [hDz]
          have : s.size ≠ 1 := fun e => h2 (by
            rw [hlc, h3]
            rw [List.drop_eq_nil_of_le (by omega)])
          omega
        have hDs : D.size ≤ 140737488351232 := by omega
        by_cases h4 : D.data.toList = [48]
        · have t4 : ((s.extract 1 s.size).toList == [48]) = true := by rw [hD]; exact lit_eq h4
          have HA : Hid (a = false ∧ b = a) := ⟨by rw [← ha, hlc, ← hDD, h4, h3]; rfl, hba⟩
          clear ha hb h1 h2 hlc hba hD hDD hDl hDz hD0 hDs h4
          go_enter Tryd.func81, Tryd.ntmps81
          go_wp2
          go_ret2
          exact ⟨by rw [HA.out.2, HA.out.1]; rfl, Below.refl _ _⟩
        · have t4 : (D.toList == [48]) = false := lit_ne h4
          have HZ : Hid (nw1 D.data.toList top8 = a ∧ b = a) := ⟨by
            rw [← ha, hlc, ← hDD, h3, nwh, if_pos rfl, bne_iff_ne.2 (fun e => by rw [e] at hDl; simp at hDl; omega), bne_iff_ne.2 h4]; rfl, hba⟩
          clear ha hb h1 h2 hlc hba hDD hDz h4
          go_enter Tryd.func81, Tryd.ntmps81
          go_wp2
          clear t1 t2 t3 t4 hD hc h3 hsz hl hs
          go_loopg [6] D.size (fun gk sk wr => ∃ (k : Nat), gk = D.size - k ∧ k ≤ D.size ∧ sk = .int .i64 (k : Int) ∧ (D.data.toList.take k).all isD = true ∧ Below v.heap.size v wr)
          case atStart => exact ⟨0, by omega, Nat.zero_le _, rfl, by simp, Below.refl _ _⟩
          case round =>
            obtain ⟨k, rfl, hk, rfl, hall, hbel⟩ := hrel
            have HB : Hid (Below v.heap.size v wr) := hbel
            have HL : Hid ((D.data.toList.take k).all isD = true) := hall
            clear hbel hall
            by_cases hlt : k < D.size
            · have hlt' : (k : Int) < (D.size : Int) := by omega
              obtain ⟨x, hx⟩ : ∃ x, D[k]'hlt = x := ⟨_, rfl⟩
              have hck : D.data.toList[k]? = some x := by
                rw [List.getElem?_eq_getElem (by omega), ← hx]; rfl
              have hx8 : x.toNat < 256 := x.toNat_lt
              by_cases hlo : x.toNat < 48
              · have HF : Hid (a = false) := by
                  unfold Hid
                  rw [← HZ.out.1]
                  exact nw1_bad (all_bad hck (by unfold isD; exact decide_eq_false (by omega)))
                have t5 : (x.toNat : Int) < 48 := by omega
                clear hck
                go_wp2
                go_ret2
                exact ⟨by rw [HZ.out.2, HF.out]; rfl, HB.out⟩
              · have t5 : ¬ (x.toNat : Int) < 48 := by omega
                by_cases hhi : 57 < x.toNat
                · have HF : Hid (a = false) := by
                    unfold Hid
                    rw [← HZ.out.1]
                    exact nw1_bad (all_bad hck (by unfold isD; exact decide_eq_false (by omega)))
                  have t6 : 57 < (x.toNat : Int) := by omega
                  clear hck
                  go_wp2
                  go_ret2
                  exact ⟨by rw [HZ.out.2, HF.out]; rfl, HB.out⟩
                · have t6 : ¬ 57 < (x.toNat : Int) := by omega
                  have HN : Hid ((D.data.toList.take (k + 1)).all isD = true) := by
                    unfold Hid
                    rw [List.take_add_one, hck, List.all_append, HL.out]
                    simp
                    exact (isD_iff x).2 (by omega)
                  clear hck
                  go_wp2
                  go_roundg (D.size - (k + 1))
                  case measure => omega
                  case rel => exact ⟨k + 1, rfl, by omega, by go_num, HN.out, HB.out⟩
            · have hlt' : ¬ (k : Int) < (D.size : Int) := by omega
              have HD : Hid (D.data.toList.all isD = true) := by
                have := HL.out
                rw [List.take_of_length_le (by omega)] at this
                exact this
              obtain ⟨y, hy⟩ : ∃ y, D[0]'hD0 = y := ⟨_, rfl⟩
              have hy0 : D.data.toList.head? = some y := by
                rw [List.head?_eq_getElem?, List.getElem?_eq_getElem (by omega), ← hy]; rfl
              have HT : Hid (a = !((decide (1 < D.data.toList.length) && D.data.toList.head? == some 48) || decide (19 < D.data.toList.length) || (decide (D.data.toList.length = 19) && gtB D.data.toList top8))) := by
                unfold Hid
                rw [← HZ.out.1]
                unfold nw1
                rw [HD.out, Bool.true_and]
              rw [hy0, hDl] at HT
              clear HL HD hy0
              by_cases c1 : 1 < D.size
              · have c1' : (1 : Int) < (D.size : Int) := by omega
                by_cases c2 : y = 48
                · have t7 : ((y.toNat : Int) == 48) = true := by rw [c2]; rfl
                  have HF : Hid (a = false) := by unfold Hid; rw [HT.out, decide_eq_true c1, c2]; simp
                  clear c2
                  go_wp2
                  go_ret2
                  exact ⟨by rw [HZ.out.2, HF.out]; rfl, HB.out⟩
                · have t7 : ((y.toNat : Int) == 48) = false := by rw [beq_eq_false_iff_ne]; intro h; exact c2 (UInt8.toNat_inj.1 (by have : (48 : UInt8).toNat = 48 := rfl; omega))
                  have q2 : (some y == some (48 : UInt8)) = false := by rw [beq_eq_false_iff_ne]; intro h; exact c2 (Option.some.inj h)
                  rw [q2, Bool.and_false, Bool.false_or] at HT
                  clear c2 q2
                  by_cases c3 : 19 < D.size
                  · have c3' : (19 : Int) < (D.size : Int) := by omega
                    have HF : Hid (a = false) := by unfold Hid; rw [HT.out, decide_eq_true c3]; simp
                    go_wp2
                    go_ret2
                    exact ⟨by rw [HZ.out.2, HF.out]; rfl, HB.out⟩
                  · have c3' : ¬ (19 : Int) < (D.size : Int) := by omega
                    by_cases c4 : D.size = 19
                    · have c4' : ((D.size : Int) == 19) = true := by rw [c4]; rfl
                      have HG : Hid (a = !(gtB D.data.toList top8)) := by unfold Hid; rw [HT.out, decide_eq_false c3, decide_eq_true c4]; simp
                      clear HT
                      cases b1 : Op.bytesLess D.toList [57, 50, 50, 51, 51, 55, 50, 48, 51, 54, 56, 53, 52, 55, 55, 53, 56, 48, 56]
                      · cases b2 : (D.toList == [57, 50, 50, 51, 51, 55, 50, 48, 51, 54, 56, 53, 52, 55, 55, 53, 56, 48, 56])
                        · have HF : Hid (a = false) := by
                            unfold Hid; rw [HG.out]; unfold gtB; rw [← ByteArray.toList_eq]; show (!(!(Op.bytesLess D.toList [57, 50, 50, 51, 51, 55, 50, 48, 51, 54, 56, 53, 52, 55, 55, 53, 56, 48, 56] || D.toList == [57, 50, 50, 51, 51, 55, 50, 48, 51, 54, 56, 53, 52, 55, 55, 53, 56, 48, 56]))) = false; rw [b1, b2]; rfl
                          go_wp2
                          go_ret2
                          exact ⟨by rw [HZ.out.2, HF.out]; rfl, HB.out⟩
                        · have HF : Hid (a = true) := by
                            unfold Hid; rw [HG.out]; unfold gtB; rw [← ByteArray.toList_eq]; show (!(!(Op.bytesLess D.toList [57, 50, 50, 51, 51, 55, 50, 48, 51, 54, 56, 53, 52, 55, 55, 53, 56, 48, 56] || D.toList == [57, 50, 50, 51, 51, 55, 50, 48, 51, 54, 56, 53, 52, 55, 55, 53, 56, 48, 56]))) = true; rw [b1, b2]; rfl
                          go_wp2
                          go_ret2
                          exact ⟨by rw [HZ.out.2, HF.out]; rfl, HB.out⟩
                      · have HF : Hid (a = true) := by
                          unfold Hid; rw [HG.out]; unfold gtB; rw [← ByteArray.toList_eq]; show (!(!(Op.bytesLess D.toList [57, 50, 50, 51, 51, 55, 50, 48, 51, 54, 56, 53, 52, 55, 55, 53, 56, 48, 56] || D.toList == [57, 50, 50, 51, 51, 55, 50, 48, 51, 54, 56, 53, 52, 55, 55, 53, 56, 48, 56]))) = true; rw [b1]; rfl
                        go_wp2
                        go_ret2
                        exact ⟨by rw [HZ.out.2, HF.out]; rfl, HB.out⟩
                    · have c4' : ((D.size : Int) == 19) = false := by rw [beq_eq_false_iff_ne]; omega
                      have HF : Hid (a = true) := by unfold Hid; rw [HT.out, decide_eq_false c3, decide_eq_false c4]; simp
                      clear HT
                      go_wp2
                      go_ret2
                      exact ⟨by rw [HZ.out.2, HF.out]; rfl, HB.out⟩
              · have c1' : ¬ (1 : Int) < (D.size : Int) := by omega
                have c3' : ¬ (19 : Int) < (D.size : Int) := by omega
                have c4' : ((D.size : Int) == 19) = false := by rw [beq_eq_false_iff_ne]; omega
                have HF : Hid (a = true) := by unfold Hid; rw [HT.out, decide_eq_false c1, decide_eq_false (show ¬ 19 < D.size by omega), decide_eq_false (show ¬ D.size = 19 by omega)]; simp
                clear HT
                go_wp2
                go_ret2
                exact ⟨by rw [HZ.out.2, HF.out]; rfl, HB.out⟩

      · have t3 : ((c.toNat : Int) == 45) = false := by rw [beq_eq_false_iff_ne]; intro h; exact h3 (UInt8.toNat_inj.1 (by have : (45 : UInt8).toNat = 45 := rfl; omega))
        have HZ : Hid (nw1 s.data.toList top7 = a ∧ b = a) := ⟨by rw [← ha, hlc, nwh, if_neg h3], hba⟩
        clear ha hb h1 h2 hlc hba
        go_enter Tryd.func81, Tryd.ntmps81
        go_wp2
        clear t1 t2 t3 hc h3
        obtain ⟨D, hD⟩ : ∃ D, s = D := ⟨_, rfl⟩
        rw [hD] at HZ hl hs hsz
        rw [hD]
        have hDl : D.data.toList.length = D.size := hl
        have hD0 : 0 < D.size := hsz
        have hDs : D.size ≤ 140737488351232 := hs
        clear hD hl hsz hs
        go_loopg [6] D.size (fun gk sk wr => ∃ (k : Nat), gk = D.size - k ∧ k ≤ D.size ∧ sk = .int .i64 (k : Int) ∧ (D.data.toList.take k).all isD = true ∧ Below v.heap.size v wr)
        case atStart => exact ⟨0, by omega, Nat.zero_le _, rfl, by simp, Below.refl _ _⟩
        case round =>
          obtain ⟨k, rfl, hk, rfl, hall, hbel⟩ := hrel
          have HB : Hid (Below v.heap.size v wr) := hbel
          have HL : Hid ((D.data.toList.take k).all isD = true) := hall
          clear hbel hall
          by_cases hlt : k < D.size
          · have hlt' : (k : Int) < (D.size : Int) := by omega
            obtain ⟨x, hx⟩ : ∃ x, D[k]'hlt = x := ⟨_, rfl⟩
            have hck : D.data.toList[k]? = some x := by
              rw [List.getElem?_eq_getElem (by omega), ← hx]; rfl
            have hx8 : x.toNat < 256 := x.toNat_lt
            by_cases hlo : x.toNat < 48
            · have HF : Hid (a = false) := by
                unfold Hid
                rw [← HZ.out.1]
                exact nw1_bad (all_bad hck (by unfold isD; exact decide_eq_false (by omega)))
              have t5 : (x.toNat : Int) < 48 := by omega
              clear hck
              go_wp2
              go_ret2
              exact ⟨by rw [HZ.out.2, HF.out]; rfl, HB.out⟩
            · have t5 : ¬ (x.toNat : Int) < 48 := by omega
              by_cases hhi : 57 < x.toNat
              · have HF : Hid (a = false) := by
                  unfold Hid
                  rw [← HZ.out.1]
                  exact nw1_bad (all_bad hck (by unfold isD; exact decide_eq_false (by omega)))
                have t6 : 57 < (x.toNat : Int) := by omega
                clear hck
                go_wp2
                go_ret2
                exact ⟨by rw [HZ.out.2, HF.out]; rfl, HB.out⟩
              · have t6 : ¬ 57 < (x.toNat : Int) := by omega
                have HN : Hid ((D.data.toList.take (k + 1)).all isD = true) := by
                  unfold Hid
                  rw [List.take_add_one, hck, List.all_append, HL.out]
                  simp
                  exact (isD_iff x).2 (by omega)
                clear hck
                go_wp2
                go_roundg (D.size - (k + 1))
                case measure => omega
                case rel => exact ⟨k + 1, rfl, by omega, by go_num, HN.out, HB.out⟩
          · have hlt' : ¬ (k : Int) < (D.size : Int) := by omega
            have HD : Hid (D.data.toList.all isD = true) := by
              have := HL.out
              rw [List.take_of_length_le (by omega)] at this
              exact this
            obtain ⟨y, hy⟩ : ∃ y, D[0]'hD0 = y := ⟨_, rfl⟩
            have hy0 : D.data.toList.head? = some y := by
              rw [List.head?_eq_getElem?, List.getElem?_eq_getElem (by omega), ← hy]; rfl
            have HT : Hid (a = !((decide (1 < D.data.toList.length) && D.data.toList.head? == some 48) || decide (19 < D.data.toList.length) || (decide (D.data.toList.length = 19) && gtB D.data.toList top7))) := by
              unfold Hid
              rw [← HZ.out.1]
              unfold nw1
              rw [HD.out, Bool.true_and]
            rw [hy0, hDl] at HT
            clear HL HD hy0
            by_cases c1 : 1 < D.size
            · have c1' : (1 : Int) < (D.size : Int) := by omega
              by_cases c2 : y = 48
              · have t7 : ((y.toNat : Int) == 48) = true := by rw [c2]; rfl
                have HF : Hid (a = false) := by unfold Hid; rw [HT.out, decide_eq_true c1, c2]; simp
                clear c2
                go_wp2
                go_ret2
                exact ⟨by rw [HZ.out.2, HF.out]; rfl, HB.out⟩
              · have t7 : ((y.toNat : Int) == 48) = false := by rw [beq_eq_false_iff_ne]; intro h; exact c2 (UInt8.toNat_inj.1 (by have : (48 : UInt8).toNat = 48 := rfl; omega))
                have q2 : (some y == some (48 : UInt8)) = false := by rw [beq_eq_false_iff_ne]; intro h; exact c2 (Option.some.inj h)
                rw [q2, Bool.and_false, Bool.false_or] at HT
                clear c2 q2
                by_cases c3 : 19 < D.size
                · have c3' : (19 : Int) < (D.size : Int) := by omega
                  have HF : Hid (a = false) := by unfold Hid; rw [HT.out, decide_eq_true c3]; simp
                  go_wp2
                  go_ret2
                  exact ⟨by rw [HZ.out.2, HF.out]; rfl, HB.out⟩
                · have c3' : ¬ (19 : Int) < (D.size : Int) := by omega
                  by_cases c4 : D.size = 19
                  · have c4' : ((D.size : Int) == 19) = true := by rw [c4]; rfl
                    have HG : Hid (a = !(gtB D.data.toList top7)) := by unfold Hid; rw [HT.out, decide_eq_false c3, decide_eq_true c4]; simp
                    clear HT
                    cases b1 : Op.bytesLess D.toList [57, 50, 50, 51, 51, 55, 50, 48, 51, 54, 56, 53, 52, 55, 55, 53, 56, 48, 55]
                    · cases b2 : (D.toList == [57, 50, 50, 51, 51, 55, 50, 48, 51, 54, 56, 53, 52, 55, 55, 53, 56, 48, 55])
                      · have HF : Hid (a = false) := by
                          unfold Hid; rw [HG.out]; unfold gtB; rw [← ByteArray.toList_eq]; show (!(!(Op.bytesLess D.toList [57, 50, 50, 51, 51, 55, 50, 48, 51, 54, 56, 53, 52, 55, 55, 53, 56, 48, 55] || D.toList == [57, 50, 50, 51, 51, 55, 50, 48, 51, 54, 56, 53, 52, 55, 55, 53, 56, 48, 55]))) = false; rw [b1, b2]; rfl
                        go_wp2
                        go_ret2
                        exact ⟨by rw [HZ.out.2, HF.out]; rfl, HB.out⟩
                      · have HF : Hid (a = true) := by
                          unfold Hid; rw [HG.out]; unfold gtB; rw [← ByteArray.toList_eq]; show (!(!(Op.bytesLess D.toList [57, 50, 50, 51, 51, 55, 50, 48, 51, 54, 56, 53, 52, 55, 55, 53, 56, 48, 55] || D.toList == [57, 50, 50, 51, 51, 55, 50, 48, 51, 54, 56, 53, 52, 55, 55, 53, 56, 48, 55]))) = true; rw [b1, b2]; rfl
                        go_wp2
                        go_ret2
                        exact ⟨by rw [HZ.out.2, HF.out]; rfl, HB.out⟩
                    · have HF : Hid (a = true) := by
                        unfold Hid; rw [HG.out]; unfold gtB; rw [← ByteArray.toList_eq]; show (!(!(Op.bytesLess D.toList [57, 50, 50, 51, 51, 55, 50, 48, 51, 54, 56, 53, 52, 55, 55, 53, 56, 48, 55] || D.toList == [57, 50, 50, 51, 51, 55, 50, 48, 51, 54, 56, 53, 52, 55, 55, 53, 56, 48, 55]))) = true; rw [b1]; rfl
                      go_wp2
                      go_ret2
                      exact ⟨by rw [HZ.out.2, HF.out]; rfl, HB.out⟩
                  · have c4' : ((D.size : Int) == 19) = false := by rw [beq_eq_false_iff_ne]; omega
                    have HF : Hid (a = true) := by unfold Hid; rw [HT.out, decide_eq_false c3, decide_eq_false c4]; simp
                    clear HT
                    go_wp2
                    go_ret2
                    exact ⟨by rw [HZ.out.2, HF.out]; rfl, HB.out⟩
            · have c1' : ¬ (1 : Int) < (D.size : Int) := by omega
              have c3' : ¬ (19 : Int) < (D.size : Int) := by omega
              have c4' : ((D.size : Int) == 19) = false := by rw [beq_eq_false_iff_ne]; omega
              have HF : Hid (a = true) := by unfold Hid; rw [HT.out, decide_eq_false c1, decide_eq_false (show ¬ 19 < D.size by omega), decide_eq_false (show ¬ D.size = 19 by omega)]; simp
              clear HT
              go_wp2
              go_ret2
              exact ⟨by rw [HZ.out.2, HF.out]; rfl, HB.out⟩

end Go.Proofs.YteolfolkolpehaaDoor
