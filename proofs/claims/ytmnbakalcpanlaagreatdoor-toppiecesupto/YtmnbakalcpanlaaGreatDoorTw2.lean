import Derived.Test.YtmnbakalcpanlaaGreatDoorTw1
import Derived.Test.YtmnbakalcpanlaaGreatDoorRs7
namespace Go.Proofs.YtmnbakalcpanlaaGreatDoor
open Go.ChangeShapes Go.WideShapes Go.ChangeAt Go.RowKit Go.Maps Go.WideMaps
set_option linter.unusedVariables false
set_option linter.unusedSimpArgs false

/-- what a call that takes nothing of this world's answers -/
abbrev Tru (f : FuncId) (args : Array Value) (v : World) : Prop := Calls Tryz.prog f args v fun e w' => e = .returned (.bool true) ∧ Below v.heap.size v w'

set_option maxRecDepth 1000000 in
set_option maxHeartbeats 16000000 in
theorem top_ok_valid (s n : ByteArray) (a : Option Addr) (c : Nat) (xs : List Q.Ed) (hxl : xs.length ≤ 281474976710656) (L : List Tk) (B : List Q.Ed) (T : Nat → ByteArray) (W : Nat → List Tk) (G : Nat → Prop) (hT : T xs.length = s) (hWL : W xs.length = L) (hG : G xs.length) (w : World) (hl : Q.EdsA w a xs)
    (H1 : ∀ v, Below w.heap.size w v → Calls Tryz.prog 4 #[.string s] v fun e w' => ∃ a' c', e = .returned (.tuple #[.slice a' L.length c', .agg #[.int .i64 0, .int .i64 0, .int .i64 0]]) ∧ LiesA w' a' L ∧ Below v.heap.size v w')
    (H2 : ∀ v a' c', Below w.heap.size w v → LiesA v a' L → Tru 5 #[.string s, .slice a' L.length c'] v)
    (H3 : ∀ v, Below w.heap.size w v → Calls Tryz.prog 6 #[.int .i64 (s.size : Int), .slice a xs.length c] v fun e w' => e = .returned (.int .i64 0) ∧ Below v.heap.size v w')
    (H4 : ∀ v, Below w.heap.size w v → Calls Tryz.prog 7 #[.string s, .slice a xs.length c] v fun e w' => e = .returned (.tuple #[.string (T 0), .int .i64 0]) ∧ Below v.heap.size v w')
    (H5 : ∀ v, Below w.heap.size w v → Calls Tryz.prog 8 #[.string s, .slice a xs.length c] v fun e w' => ∃ a' c', e = .returned (.tuple #[.slice a' B.length c', .int .i64 0]) ∧ Q.EdsA w' a' B ∧ Below v.heap.size v w')
    (H6 : ∀ v a' c', Below w.heap.size w v → Q.EdsA v a' B → Calls Tryz.prog 7 #[.string (T 0), .slice a' B.length c'] v fun e w' => e = .returned (.tuple #[.string s, .int .i64 0]) ∧ Below v.heap.size v w')
    (H7 : ∀ v a' c' (i : Nat) (e : Q.Ed), Below w.heap.size w v → xs[i]? = some e → G (i + 1) → LiesA v a' (W (i + 1)) → Calls Tryz.prog 9 #[.string (T (i + 1)), .slice a' (W (i + 1)).length c', .agg #[.int .i64 e.f, .int .i64 e.t, .string e.s]] v fun r w' => ∃ (a1 : Option Addr) (l1 c1 : Nat) (y z : Int), r = .returned (.tuple #[.string (T i), .slice a1 l1 c1, .agg #[.int .i64 y, .int .i64 0, .int .i64 z]]) ∧ ((y = 0 ∧ G i ∧ l1 = (W i).length ∧ LiesA w' a1 (W i)) ∨ y ≠ 0) ∧ Below v.heap.size v w')
    (H8 : G 0 → ∀ v, Below w.heap.size w v → Calls Tryz.prog 4 #[.string (T 0)] v fun e w' => ∃ a' c', e = .returned (.tuple #[.slice a' (W 0).length c', .agg #[.int .i64 0, .int .i64 0, .int .i64 0]]) ∧ LiesA w' a' (W 0) ∧ Below v.heap.size v w')
    (H9 : ∀ v a1 c1 a2 c2, Below w.heap.size w v → LiesA v a1 (W 0) → LiesA v a2 (W 0) → Tru 10 #[.slice a1 (W 0).length c1, .slice a2 (W 0).length c2] v)
    (HA : ∀ v a' c', Below w.heap.size w v → LiesA v a' L → Tru 11 #[.string s, .slice a' L.length c', .string n] v) :
    Calls Tryz.prog 3 #[.string s, .slice a xs.length c, .string n] w fun e w' => e = .returned (.bool true) ∧ Below w.heap.size w w' := by
  have K1 := hidI H1
  have K2 := hidI H2
  have K3 := hidI H3
  have K4 := hidI H4
  have K5 := hidI H5
  have K6 := hidI H6
  have K7 := hidI H7
  have K8 := hidI H8
  have K9 := hidI H9
  have KA := hidI HA
  have HE : Hid (Q.EdsA w a xs) := hl
  have HT : Hid (T xs.length = s) := hT
  have HWL : Hid (W xs.length = L) := hWL
  have HG : Hid (G xs.length) := hG
  clear H1 H2 H3 H4 H5 H6 H7 H8 H9 HA hl hT hWL hG
  have qs : (s.toList != s.toList) = false := by simp
  have qs' : (s.toList == s.toList) = true := by simp
  have qn : ((T 0).toList != (T 0).toList) = false := by simp
  have qn' : ((T 0).toList == (T 0).toList) = true := by simp
  go_enter Tryz.func3, Tryz.ntmps3
  go_wp2_with (first
    | (go_at_call 4; (with_reducible refine (K1.out _ (Below.refl _ _)).mono ?_); rintro e w1 ⟨a1, c1, rfl, hl1, hb1⟩; have HB2 : Hid (Below w.heap.size w (w1.alloc (.cells #[.int .i64 0, .int .i64 0, .int .i64 0] 26))) := hb1.alloc hb1.size _; have HL2 : Hid (LiesA (w1.alloc (.cells #[.int .i64 0, .int .i64 0, .int .i64 0] 26)) a1 L) := hl1.below ((Below.refl _ _).alloc (Nat.le_refl _) _); have HX2 : Hid (Bx (w1.alloc (.cells #[.int .i64 0, .int .i64 0, .int .i64 0] 26)) w1.heap.size #[.int .i64 0, .int .i64 0, .int .i64 0] 26) := Bx.new _ _ _; clear hb1 hl1)
    | (go_at_call 5; (with_reducible refine (K2.out _ a1 c1 HB2.out HL2.out).mono ?_); rintro e w3 ⟨rfl, hb3⟩; have HB3 : Hid (Below w.heap.size w w3) := HB2.out.trans (hb3.mono HB2.out.size); have HL3 : Hid (LiesA w3 a1 L) := HL2.out.below hb3; have HX3 : Hid (Bx w3 w1.heap.size #[.int .i64 0, .int .i64 0, .int .i64 0] 26) := HX2.out.below hb3 HX2.out.lt; clear hb3 HB2 HL2 HX2)
    | (go_at_call 6; (with_reducible refine (K3.out _ HB3.out).mono ?_); rintro e w4 ⟨rfl, hb4⟩; have HB4 : Hid (Below w.heap.size w w4) := HB3.out.trans (hb4.mono HB3.out.size); have HL4 : Hid (LiesA w4 a1 L) := HL3.out.below hb4; have HX4 : Hid (Bx w4 w1.heap.size #[.int .i64 0, .int .i64 0, .int .i64 0] 26) := HX3.out.below hb4 HX3.out.lt; clear hb4 HB3 HL3 HX3)
    | (go_at_call 7; (with_reducible refine (K4.out _ HB4.out).mono ?_); rintro e w5 ⟨rfl, hb5⟩; have HB5 : Hid (Below w.heap.size w w5) := HB4.out.trans (hb5.mono HB4.out.size); have HL5 : Hid (LiesA w5 a1 L) := HL4.out.below hb5; have HX5 : Hid (Bx w5 w1.heap.size #[.int .i64 0, .int .i64 0, .int .i64 0] 26) := HX4.out.below hb5 HX4.out.lt; clear hb5 HB4 HL4 HX4)
    | (go_at_call 8; (with_reducible refine (K5.out _ HB5.out).mono ?_); rintro e w6 ⟨a6, c6, rfl, hE6, hb6⟩; have HB6 : Hid (Below w.heap.size w w6) := HB5.out.trans (hb6.mono HB5.out.size); have HL6 : Hid (LiesA w6 a1 L) := HL5.out.below hb6; have HX6 : Hid (Bx w6 w1.heap.size #[.int .i64 0, .int .i64 0, .int .i64 0] 26) := HX5.out.below hb6 HX5.out.lt; have HE6 : Hid (Q.EdsA w6 a6 B) := hE6; clear hb6 hE6 HB5 HL5 HX5)
    | (go_at_call 7; (with_reducible refine (K6.out _ a6 c6 HB6.out HE6.out).mono ?_); rintro e w7 ⟨rfl, hb7⟩; have HB7 : Hid (Below w.heap.size w w7) := HB6.out.trans (hb7.mono HB6.out.size); have HL7 : Hid (LiesA w7 a1 L) := HL6.out.below hb7; have X7 := HX6.out.below hb7 HX6.out.lt; have HX7 : Hid (Bx w7 w1.heap.size #[.int .i64 0, .int .i64 0, .int .i64 0] 26) := X7; have x70 := X7.cell 0; have x7z := X7.lt; simp at x70; clear hb7 HB6 HL6 HX6 HE6 X7))
  go_loopg [15, 16, 17, 18] xs.length (fun gk t q st i wr => ∃ k : Nat, gk = k ∧ k ≤ xs.length ∧ i = .int .i64 ((k : Int) - 1) ∧ Below w7.heap.size w7 wr ∧ t = .string (T k) ∧ ((st = .bool true ∧ G k ∧ ∃ a' c', q = .slice a' (W k).length c' ∧ LiesA wr a' (W k)) ∨ st = .bool false))
  case atStart => exact ⟨xs.length, rfl, Nat.le_refl _, by go_num, Below.refl _ _, by rw [HT.out], .inl ⟨rfl, HG.out, a1, c1, by rw [HWL.out], by rw [HWL.out]; exact HL7.out⟩⟩
  case round =>
    obtain ⟨_, rfl, hk, rfl, hbx, rfl, hst⟩ := hrel
    have HBX : Hid (Below w.heap.size w wr) := HB7.out.trans (hbx.mono HB7.out.size)
    have HXX : Hid (Bx wr w1.heap.size #[.int .i64 0, .int .i64 0, .int .i64 0] 26) := HX7.out.below hbx HX7.out.lt
    have HLX : Hid (LiesA wr a1 L) := HL7.out.below hbx
    have hxz : w1.heap.size < wr.heap.size := HXX.out.lt
    have x80 := HXX.out.cell 0
    simp at x80
    clear x70 x7z
    rcases hst with ⟨rfl, hGk, aq, cq, rfl, hLq⟩ | rfl
    · have HLQ : Hid (LiesA wr aq (W gk)) := hLq
      have HGK : Hid (G gk) := hGk
      clear hLq hGk
      cases gk with
      | zero =>
        have h0 : ¬ ((0 : Nat) : Int) - 1 ≥ 0 := by omega
        have h0' : decide (0 ≤ ((0 : Nat) : Int) - 1) = false := by decide
        go_wp2_with (first
          | (go_at_call 4; (with_reducible refine (K8.out HGK.out _ HBX.out).mono ?_); rintro e w8 ⟨a8, c8, rfl, hl8, hb8⟩; have HB8 : Hid (Below w.heap.size w (w8.alloc (.cells #[.int .i64 0, .int .i64 0, .int .i64 0] 26))) := (HBX.out.trans (hb8.mono HBX.out.size)).alloc (HBX.out.trans (hb8.mono HBX.out.size)).size _; have HLA : Hid (LiesA (w8.alloc (.cells #[.int .i64 0, .int .i64 0, .int .i64 0] 26)) a8 (W 0)) := hl8.below ((Below.refl _ _).alloc (Nat.le_refl _) _); have HLB : Hid (LiesA (w8.alloc (.cells #[.int .i64 0, .int .i64 0, .int .i64 0] 26)) aq (W 0)) := (HLQ.out.below hb8).below ((Below.refl _ _).alloc (Nat.le_refl _) _); have HLC : Hid (LiesA (w8.alloc (.cells #[.int .i64 0, .int .i64 0, .int .i64 0] 26)) a1 L) := (HLX.out.below hb8).below ((Below.refl _ _).alloc (Nat.le_refl _) _); have HX8 : Hid (Bx (w8.alloc (.cells #[.int .i64 0, .int .i64 0, .int .i64 0] 26)) w1.heap.size #[.int .i64 0, .int .i64 0, .int .i64 0] 26) := (HXX.out.below hb8 HXX.out.lt).alloc _; clear hb8 hl8)
          | (go_at_call 10; (with_reducible refine (K9.out _ aq cq a8 c8 HB8.out HLB.out HLA.out).mono ?_); rintro e w9 ⟨rfl, hb9⟩; have HB9 : Hid (Below w.heap.size w w9) := HB8.out.trans (hb9.mono HB8.out.size); have HL9 : Hid (LiesA w9 a1 L) := HLC.out.below hb9; have X9 := HX8.out.below hb9 HX8.out.lt; have x90 := X9.cell 0; have x9z := X9.lt; simp at x90; clear hb9 X9)
          | (go_at_call 11; (with_reducible refine (KA.out _ a1 c1 HB9.out HL9.out).mono ?_); rintro e w10 ⟨rfl, hb10⟩; have HB10 : Hid (Below w.heap.size w w10) := HB9.out.trans (hb10.mono HB9.out.size); clear hb10))
        go_ret
        exact ⟨rfl, HB10.out⟩
      | succ m =>
        rw [show (((m + 1 : Nat) : Int) - 1) = (m : Int) by omega]
        have hm0 : (m : Int) ≥ 0 := by omega
        have hm1 : (m : Int) < (xs.length : Int) := by omega
        obtain ⟨e, he⟩ : ∃ e, xs[m]? = some e := ⟨_, List.getElem?_eq_getElem (by omega)⟩
        obtain ⟨b, o, rfl, hEd⟩ : ∃ b o, a = some ⟨b, o, none⟩ ∧ Q.Eds w b o xs := by
          rcases HE.out with rfl | h
          · simp at he
          · exact h
        obtain ⟨c0, c1', c2⟩ := hEd.cells HBX.out he
        have hbw : b < w.heap.size := hEd.1
        have HM := hidI he
        clear he hEd
        go_wp2_with (go_at_call 9; (with_reducible refine (K7.out _ aq cq m e HBX.out HM.out HGK.out HLQ.out).mono ?_); rintro r w8 ⟨a8, l8, c8, y, z, rfl, hy, hb8⟩; obtain ⟨w9, e9, hb9, hs9, B9⟩ := bx1 w8 #[.int .i64 y, .int .i64 0, .int .i64 z] 26; have HB9 : Hid (Below w7.heap.size w7 w9) := (hbx.trans (hb8.mono hbx.size)).trans (hb9.mono (hbx.trans (hb8.mono hbx.size)).size); have HY : Hid ((y = 0 ∧ G m ∧ l8 = (W m).length ∧ LiesA w9 a8 (W m)) ∨ y ≠ 0) := hy.elim (fun h => .inl ⟨h.1, h.2.1, h.2.2.1, h.2.2.2.below hb9⟩) .inr; obtain ⟨bq, hbq⟩ : ∃ b, (y == 0) = b := ⟨_, rfl⟩; have HQ := hidI hbq; have y0 := B9.cell 0; have yz := B9.lt; simp at y0; clear hb8 hb9 B9 hs9 hy)
        go_roundg m
        case measure => omega
        case rel =>
          refine ⟨m, rfl, by omega, by go_num, HB9.out, rfl, ?_⟩
          rcases HY.out with ⟨h1, h2, h3, h4⟩ | h1
          · refine .inl ⟨?_, h2, a8, c8, by rw [h3], h4⟩
            rw [← HQ.out, h1]; rfl
          · refine .inr ?_
            rw [← HQ.out, beq_eq_false_iff_ne.2 h1]
    · by_cases hg0 : gk = 0
      · subst hg0
        have h0 : ¬ ((0 : Nat) : Int) - 1 ≥ 0 := by omega
        have h0' : decide (0 ≤ ((0 : Nat) : Int) - 1) = false := by decide
        go_wp2_with (go_at_call 11; (with_reducible refine (KA.out _ a1 c1 HBX.out HLX.out).mono ?_); rintro e w10 ⟨rfl, hb10⟩; have HB10 : Hid (Below w.heap.size w w10) := HBX.out.trans (hb10.mono HBX.out.size); clear hb10)
        go_ret
        exact ⟨rfl, HB10.out⟩
      · have h0 : (gk : Int) - 1 ≥ 0 := by omega
        go_wp2_with (go_at_call 11; (with_reducible refine (KA.out _ a1 c1 HBX.out HLX.out).mono ?_); rintro e w10 ⟨rfl, hb10⟩; have HB10 : Hid (Below w.heap.size w w10) := HBX.out.trans (hb10.mono HBX.out.size); clear hb10)
        go_ret
        exact ⟨rfl, HB10.out⟩

set_option maxRecDepth 1000000 in
set_option maxHeartbeats 16000000 in
theorem top_ok_not (s n : ByteArray) (a : Option Addr) (c : Nat) (xs : List Q.Ed) (L : List Tk) (vv : Int) (hv : vv ≠ 0) (w : World)
    (H1 : ∀ v, Below w.heap.size w v → Calls Tryz.prog 4 #[.string s] v fun e w' => ∃ a' c', e = .returned (.tuple #[.slice a' L.length c', .agg #[.int .i64 0, .int .i64 0, .int .i64 0]]) ∧ LiesA w' a' L ∧ Below v.heap.size v w')
    (H2 : ∀ v a' c', Below w.heap.size w v → LiesA v a' L → Tru 5 #[.string s, .slice a' L.length c'] v)
    (H3 : ∀ v, Below w.heap.size w v → Calls Tryz.prog 6 #[.int .i64 (s.size : Int), .slice a xs.length c] v fun e w' => e = .returned (.int .i64 vv) ∧ Below v.heap.size v w')
    (HA : ∀ v a' c', Below w.heap.size w v → LiesA v a' L → Tru 11 #[.string s, .slice a' L.length c', .string n] v) :
    Calls Tryz.prog 3 #[.string s, .slice a xs.length c, .string n] w fun e w' => e = .returned (.bool true) ∧ Below w.heap.size w w' := by
  have K1 := hidI H1
  have K2 := hidI H2
  have K3 := hidI H3
  have KA := hidI HA
  clear H1 H2 H3 HA
  have hvv : (vv == 0) = false := beq_eq_false_iff_ne.2 hv
  clear hv
  go_enter Tryz.func3, Tryz.ntmps3
  go_wp2_with (first
    | (go_at_call 4; (with_reducible refine (K1.out _ (Below.refl _ _)).mono ?_); rintro e w1 ⟨a1, c1, rfl, hl1, hb1⟩; have HB2 : Hid (Below w.heap.size w (w1.alloc (.cells #[.int .i64 0, .int .i64 0, .int .i64 0] 26))) := hb1.alloc hb1.size _; have HL2 : Hid (LiesA (w1.alloc (.cells #[.int .i64 0, .int .i64 0, .int .i64 0] 26)) a1 L) := hl1.below ((Below.refl _ _).alloc (Nat.le_refl _) _); have HX2 : Hid (Bx (w1.alloc (.cells #[.int .i64 0, .int .i64 0, .int .i64 0] 26)) w1.heap.size #[.int .i64 0, .int .i64 0, .int .i64 0] 26) := Bx.new _ _ _; clear hb1 hl1)
    | (go_at_call 5; (with_reducible refine (K2.out _ a1 c1 HB2.out HL2.out).mono ?_); rintro e w3 ⟨rfl, hb3⟩; have HB3 : Hid (Below w.heap.size w w3) := HB2.out.trans (hb3.mono HB2.out.size); have HL3 : Hid (LiesA w3 a1 L) := HL2.out.below hb3; have HX3 : Hid (Bx w3 w1.heap.size #[.int .i64 0, .int .i64 0, .int .i64 0] 26) := HX2.out.below hb3 HX2.out.lt; clear hb3 HB2 HL2 HX2)
    | (go_at_call 6; (with_reducible refine (K3.out _ HB3.out).mono ?_); rintro e w4 ⟨rfl, hb4⟩; have HB4 : Hid (Below w.heap.size w w4) := HB3.out.trans (hb4.mono HB3.out.size); have HL4 : Hid (LiesA w4 a1 L) := HL3.out.below hb4; have X4 := HX3.out.below hb4 HX3.out.lt; have x40 := X4.cell 0; have x4z := X4.lt; simp at x40; clear hb4 HB3 HL3 HX3 X4)
    | (go_at_call 11; (with_reducible refine (KA.out _ a1 c1 HB4.out HL4.out).mono ?_); rintro e w10 ⟨rfl, hb10⟩; have HB10 : Hid (Below w.heap.size w w10) := HB4.out.trans (hb10.mono HB4.out.size); clear hb10))
  go_ret
  exact ⟨rfl, HB10.out⟩

set_option maxRecDepth 1000000 in
set_option maxHeartbeats 16000000 in
theorem top_no_not (s n : ByteArray) (a : Option Addr) (c : Nat) (xs : List Q.Ed) (vv y z : Int) (hv : vv ≠ 0) (hy : y ≠ 0) (w : World)
    (H1 : ∀ v, Below w.heap.size w v → Calls Tryz.prog 4 #[.string s] v fun e w' => e = .returned (.tuple #[.slice none 0 0, .agg #[.int .i64 y, .int .i64 0, .int .i64 z]]) ∧ Below v.heap.size v w')
    (H3 : ∀ v, Below w.heap.size w v → Calls Tryz.prog 6 #[.int .i64 (s.size : Int), .slice a xs.length c] v fun e w' => e = .returned (.int .i64 vv) ∧ Below v.heap.size v w') :
    Calls Tryz.prog 3 #[.string s, .slice a xs.length c, .string n] w fun e w' => e = .returned (.bool true) ∧ Below w.heap.size w w' := by
  have K1 := hidI H1
  have K3 := hidI H3
  clear H1 H3
  have hvv : (vv == 0) = false := beq_eq_false_iff_ne.2 hv
  have hyy : (y == 0) = false := beq_eq_false_iff_ne.2 hy
  have hyn : (y != 0) = true := by rw [bne_iff_ne]; exact hy
  clear hv hy
  go_enter Tryz.func3, Tryz.ntmps3
  go_wp2_with (first
    | (go_at_call 4; (with_reducible refine (K1.out _ (Below.refl _ _)).mono ?_); rintro e w1 ⟨rfl, hb1⟩; obtain ⟨w2, e2, hb2, hs2, B2⟩ := bx1 w1 #[.int .i64 y, .int .i64 0, .int .i64 z] 26; have HB2 : Hid (Below w.heap.size w w2) := hb1.trans (hb2.mono hb1.size); have HX2 : Hid (Bx w2 w1.heap.size #[.int .i64 y, .int .i64 0, .int .i64 z] 26) := B2; have x20 := B2.cell 0; have x2z := B2.lt; simp at x20; clear hb1 hb2 B2 hs2)
    | (go_at_call 6; (with_reducible refine (K3.out _ HB2.out).mono ?_); rintro e w4 ⟨rfl, hb4⟩; have HB4 : Hid (Below w.heap.size w w4) := HB2.out.trans (hb4.mono HB2.out.size); have X4 := HX2.out.below hb4 HX2.out.lt; have x40 := X4.cell 0; have x4z := X4.lt; simp at x40; clear hb4 X4))
  go_ret
  exact ⟨rfl, HB4.out⟩

set_option maxRecDepth 1000000 in
set_option maxHeartbeats 16000000 in
theorem top_no_valid (s n now : ByteArray) (a : Option Addr) (c : Nat) (xs B : List Q.Ed) (hxl : xs.length ≤ 281474976710656) (y z : Int) (hy : y ≠ 0) (w : World)
    (H1 : ∀ v, Below w.heap.size w v → Calls Tryz.prog 4 #[.string s] v fun e w' => e = .returned (.tuple #[.slice none 0 0, .agg #[.int .i64 y, .int .i64 0, .int .i64 z]]) ∧ Below v.heap.size v w')
    (H3 : ∀ v, Below w.heap.size w v → Calls Tryz.prog 6 #[.int .i64 (s.size : Int), .slice a xs.length c] v fun e w' => e = .returned (.int .i64 0) ∧ Below v.heap.size v w')
    (H4 : ∀ v, Below w.heap.size w v → Calls Tryz.prog 7 #[.string s, .slice a xs.length c] v fun e w' => e = .returned (.tuple #[.string now, .int .i64 0]) ∧ Below v.heap.size v w')
    (H5 : ∀ v, Below w.heap.size w v → Calls Tryz.prog 8 #[.string s, .slice a xs.length c] v fun e w' => ∃ a' c', e = .returned (.tuple #[.slice a' B.length c', .int .i64 0]) ∧ Q.EdsA w' a' B ∧ Below v.heap.size v w')
    (H6 : ∀ v a' c', Below w.heap.size w v → Q.EdsA v a' B → Calls Tryz.prog 7 #[.string now, .slice a' B.length c'] v fun e w' => e = .returned (.tuple #[.string s, .int .i64 0]) ∧ Below v.heap.size v w') :
    Calls Tryz.prog 3 #[.string s, .slice a xs.length c, .string n] w fun e w' => e = .returned (.bool true) ∧ Below w.heap.size w w' := by
  have K1 := hidI H1
  have K3 := hidI H3
  have K4 := hidI H4
  have K5 := hidI H5
  have K6 := hidI H6
  clear H1 H3 H4 H5 H6
  have qs : (s.toList != s.toList) = false := by simp
  have qs' : (s.toList == s.toList) = true := by simp
  have hyy : (y == 0) = false := beq_eq_false_iff_ne.2 hy
  have hyn : (y != 0) = true := by rw [bne_iff_ne]; exact hy
  clear hy
  go_enter Tryz.func3, Tryz.ntmps3
  go_wp2_with (first
    | (go_at_call 4; (with_reducible refine (K1.out _ (Below.refl _ _)).mono ?_); rintro e w1 ⟨rfl, hb1⟩; obtain ⟨w2, e2, hb2, hs2, B2⟩ := bx1 w1 #[.int .i64 y, .int .i64 0, .int .i64 z] 26; have HB2 : Hid (Below w.heap.size w w2) := hb1.trans (hb2.mono hb1.size); have HX2 : Hid (Bx w2 w1.heap.size #[.int .i64 y, .int .i64 0, .int .i64 z] 26) := B2; have x20 := B2.cell 0; have x2z := B2.lt; simp at x20; clear hb1 hb2 B2 hs2)
    | (go_at_call 6; (with_reducible refine (K3.out _ HB2.out).mono ?_); rintro e w4 ⟨rfl, hb4⟩; have HB4 : Hid (Below w.heap.size w w4) := HB2.out.trans (hb4.mono HB2.out.size); have HX4 : Hid (Bx w4 w1.heap.size #[.int .i64 y, .int .i64 0, .int .i64 z] 26) := HX2.out.below hb4 HX2.out.lt; clear hb4 HB2 HX2)
    | (go_at_call 7; (with_reducible refine (K4.out _ HB4.out).mono ?_); rintro e w5 ⟨rfl, hb5⟩; have HB5 : Hid (Below w.heap.size w w5) := HB4.out.trans (hb5.mono HB4.out.size); have HX5 : Hid (Bx w5 w1.heap.size #[.int .i64 y, .int .i64 0, .int .i64 z] 26) := HX4.out.below hb5 HX4.out.lt; clear hb5 HB4 HX4)
    | (go_at_call 8; (with_reducible refine (K5.out _ HB5.out).mono ?_); rintro e w6 ⟨a6, c6, rfl, hE6, hb6⟩; have HB6 : Hid (Below w.heap.size w w6) := HB5.out.trans (hb6.mono HB5.out.size); have HX6 : Hid (Bx w6 w1.heap.size #[.int .i64 y, .int .i64 0, .int .i64 z] 26) := HX5.out.below hb6 HX5.out.lt; have HE6 : Hid (Q.EdsA w6 a6 B) := hE6; clear hb6 hE6 HB5 HX5)
    | (go_at_call 7; (with_reducible refine (K6.out _ a6 c6 HB6.out HE6.out).mono ?_); rintro e w7 ⟨rfl, hb7⟩; have HB7 : Hid (Below w.heap.size w w7) := HB6.out.trans (hb7.mono HB6.out.size); have X7 := HX6.out.below hb7 HX6.out.lt; have x70 := X7.cell 0; have x7z := X7.lt; simp at x70; clear hb7 HB6 HX6 HE6 X7))
  refine wp_loop_rounds 1 ?_
  rw [rounds_succ]
  by_cases h0 : xs.length = 0
  · have h1 : ¬ ((xs.length : Int) - 1 ≥ 0) := by omega
    go_wp2
    go_ret
    exact ⟨rfl, HB7.out⟩
  · have h1 : ((xs.length : Int) - 1 ≥ 0) := by omega
    go_wp2
    go_ret
    exact ⟨rfl, HB7.out⟩
end Go.Proofs.YtmnbakalcpanlaaGreatDoor
