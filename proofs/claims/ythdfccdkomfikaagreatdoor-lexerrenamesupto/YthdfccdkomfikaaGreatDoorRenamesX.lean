import Derived.Test.YthdfccdkomfikaaGreatDoorRenamesW
namespace Go.Proofs.YthdfccdkomfikaaGreatDoor
open Go.ChangeShapes Go.WideShapes Go.ChangeAt Go.RowKit Go.Maps Go.WideMaps
set_option linter.unusedVariables false
set_option linter.unusedSimpArgs false

theorem infoInt8 : (Tryz.prog.info? 3).map (fun i => (i.zero, i.size, i.bytes)) = some (some (.int .i64 0), 1, 8) := by kernel_rfl
/-- places of names -/
def Nms (L : List Tk) (acc : List Int) : Prop := ∀ x ∈ acc, ∃ j : Nat, x = (j : Int) ∧ j < L.length ∧ ∃ f t : Nat, L[j]? = some (⟨2, f, t⟩ : Tk) ∧ f ≤ 4294967296 ∧ t ≤ 4294967296 ∧ f ≤ t
theorem Nms.add {L : List Tk} {acc : List Int} {i f t : Nat} (h : Nms L acc) (hi : L[i]? = some (⟨2, f, t⟩ : Tk)) (h1 : f ≤ 4294967296) (h2 : t ≤ 4294967296) (h3 : f ≤ t) : Nms L (acc ++ [(i : Int)]) := by
  intro x hx
  rcases List.mem_append.1 hx with hx | hx
  · exact h x hx
  · have : x = (i : Int) := by simpa using hx
    exact ⟨i, this, (List.getElem?_eq_some_iff.1 hi).1, f, t, hi, h1, h2, h3⟩
theorem ren_get {L : List Tk} {p : Nat} {q : Tk} {g : Tk → Tk} (hp : p < L.length) (i : Nat) : (L.take p ++ q :: (L.drop (p + 1)).map g)[i]? = if i < p then L[i]? else if i = p then some q else (L[i]?).map g := by
  have hl : (L.take p).length = p := by simp; omega
  by_cases h1 : i < p
  · rw [if_pos h1, List.getElem?_append_left (by omega), List.getElem?_take_of_lt h1]
  · rw [if_neg h1, List.getElem?_append_right (by omega), hl]
    by_cases h2 : i = p
    · rw [if_pos h2, h2, Nat.sub_self]; rfl
    · rw [if_neg h2]
      obtain ⟨d, rfl⟩ : ∃ d, i = p + 1 + d := ⟨i - (p + 1), by omega⟩
      rw [show p + 1 + d - p = d + 1 by omega, List.getElem?_cons_succ, List.getElem?_map, List.getElem?_drop]
theorem pick_in (x : Int) (m : Nat) (hm : 0 < m) (hb : m ≤ 4294967296000) : ∃ j : Nat, j < m ∧ wrap64 ((IntKind.u64.wrap x).tmod (m : Int)) = (j : Int) := by
  have h0 : 0 ≤ IntKind.u64.wrap x := by rw [IntKind.wrap_u64]; omega
  have h1 : 0 ≤ IntKind.u64.wrap x % (m : Int) := Int.emod_nonneg _ (by omega)
  have h2 : IntKind.u64.wrap x % (m : Int) < (m : Int) := Int.emod_lt_of_pos _ (by omega)
  refine ⟨(IntKind.u64.wrap x % (m : Int)).toNat, by omega, ?_⟩
  rw [Int.tmod_eq_emod_of_nonneg h0]
  generalize IntKind.u64.wrap x % (m : Int) = y at *
  simp only [wrap64]
  omega
theorem wau_inn {s : ByteArray} : ∀ l, Inn s l → Inn s (wau s l)
  | [], _ => fun q hq => by cases hq
  | x :: r, h => by
    obtain ⟨k, f, t, rfl, h1, h2, h3⟩ := h x (List.mem_cons_self ..)
    have ih := wau_inn r (fun q hq => h q (List.mem_cons_of_mem _ hq))
    intro q hq
    rw [wau] at hq
    rcases List.mem_append.1 hq with hq | hq
    · rcases List.mem_cons.1 hq with rfl | hq
      · exact ⟨k, f, t, rfl, h1, h2, h3⟩
      · split at hq
        · have : q = ⟨6, t, t⟩ := by simpa using hq
          exact ⟨6, t, t, this, by omega, Nat.le_refl _, h3⟩
        · cases hq
    · exact ih q hq

set_option maxRecDepth 1000000 in
set_option maxHeartbeats 16000000 in
theorem renames_in (s : ByteArray) (at_ : Int) (n : ByteArray) (hB : s.size + n.size ≤ 1048576) (hA1 : -9223372036854775808 ≤ at_) (hA2 : at_ ≤ 9223372036854775807) (hcut : (cut s 0).2 = none) (hkn : kOf n = some 2) (w : World) (hS : Spl w) (hT : Lt w) (hM : MaxL w) :
    Calls Tryz.prog 3 #[.string s, .int .i64 at_, .string n] w fun e w' => e = .returned (.bool true) ∧ Below w.heap.size w w' := by
  obtain ⟨j0, hj, hj0, hj1, hj2⟩ := info_parts infoInt8
  have hmx := wau_max (s := s) (by omega)
  have hin := wau_inn (s := s) _ (cut_all s s.size 0 (by omega)).1
  obtain ⟨hn0, hnp, -, -, -, -⟩ := kOf_some hkn
  obtain ⟨L, hL⟩ : ∃ L, wau s (cut s 0).1 = L := ⟨_, rfl⟩
  have HSA : Hid (Calls Tryz.prog 6 #[.string s] w fun e w' => ∃ a c, e = .returned (.tuple #[.slice a L.length c, .agg #[.int .i64 0, .int .i64 0, .int .i64 0]]) ∧ LiesA w' a L ∧ L.length ≤ c ∧ (a = none → c = 0) ∧ Below w.heap.size w w') := by rw [← hL]; exact scan_ok (by omega) hcut w hS hT hM
  have HK0 : ∀ v, Below w.heap.size w v → _ := fun v hv => Kind_any n (by omega) v (hS.below hv) (hT.below hv) (hM.below hv)
  have HR0 : ∀ v, Below w.heap.size w v → _ := fun v hv => rKind_any n (by omega) v (hT.below hv)
  have HI0 : ∀ v, Below w.heap.size w v → _ := fun v hv => Identifier_any n (by omega) v (hS.below hv) (hT.below hv) (hM.below hv)
  have hI : kIs n 2 = true := by unfold kIs; rw [hkn]; rfl
  rw [hkn] at HK0 HR0
  rw [hI] at HI0
  have HK : Hid (∀ v, Below w.heap.size w v → Calls Tryz.prog 7 #[.string n] v fun e w' => e = .returned (.tuple #[.int .u8 2, .bool true]) ∧ Below v.heap.size v w') := HK0
  have HR : Hid (∀ v, Below w.heap.size w v → Calls Tryz.prog 8 #[.string n] v fun e w' => e = .returned (.tuple #[.int .i64 2, .bool true]) ∧ Below v.heap.size v w') := HR0
  have HI : Hid (∀ v, Below w.heap.size w v → Calls Tryz.prog 9 #[.string n] v fun e w' => e = .returned (.bool true) ∧ Below v.heap.size v w') := HI0
  have HSC : Hid (∀ (X : ByteArray) v, X.size ≤ 4294967280 → (cut X 0).2 = none → Below w.heap.size w v → Calls Tryz.prog 6 #[.string X] v fun e w' => ∃ u, e = .returned (.tuple #[u, .agg #[.int .i64 0, .int .i64 0, .int .i64 0]]) ∧ w'.ownsRow v.heap.size 36 3 u (wau X (cut X 0).1).length (flat (wau X (cut X 0).1)) ∧ Below v.heap.size v w') := fun X v h1 h2 hv => by
    refine (Scan_any X h1 v (hS.below hv) (hT.below hv) (hM.below hv)).mono fun e w' h => ?_
    unfold SnE at h
    rw [h2] at h
    obtain ⟨hb, u, he, ho⟩ := h
    exact ⟨u, he, ho, hb⟩
  have HCN : Hid ((cut s 0).2 = none ∧ wau s (cut s 0).1 = L) := ⟨hcut, hL⟩
  have HNP : Hid (pce n 0 = .ok 2 n.size) := hnp
  rw [hL] at hmx hin
  have HIN : Hid (Inn s L) := hin
  clear HK0 HR0 HI0 hkn hI hS hT hM hcut hL hnp hin
  go_enter Tryz.func3, Tryz.ntmps3
  go_wp2_with (first
    | (go_at_call 6; (with_reducible refine HSA.out.mono ?_); rintro e w3 ⟨a3, c3, rfl, hl3, hc3, hn3, hb3⟩; have HB3 : Hid (Below w.heap.size w w3) := hb3; have HL3 : Hid (LiesA w3 a3 L) := hl3; clear hb3 hl3 hn3)
    | (go_at_call 7; (with_reducible refine (HK.out _ (HB3.out.alloc HB3.out.size _)).mono ?_); rintro e w4 ⟨rfl, hb4⟩; have HB4 : Hid (Below w.heap.size w w4) := (HB3.out.alloc HB3.out.size _).trans (hb4.mono (by have := HB3.out.size; simp; omega)); have X4 := (Bx.new w3 _ _).below hb4 (Bx.new w3 _ _).lt; have HX4 := hid_of X4; have HL4 : Hid (LiesA w4 a3 L) := (HL3.out.below ((Below.refl _ _).alloc (Nat.le_refl _) _)).below hb4; clear hb4 X4)
    | (go_at_call 8; (with_reducible refine (HR.out _ HB4.out).mono ?_); rintro e w5 ⟨rfl, hb5⟩; have HB5 : Hid (Below w.heap.size w w5) := HB4.out.trans (hb5.mono HB4.out.size); have X5 := HX4.out.below hb5 HX4.out.lt; have HX5 := hid_of X5; have HL5 : Hid (LiesA w5 a3 L) := HL4.out.below hb5; clear hb5 X5)
    | (go_at_call 9; (with_reducible refine (HI.out _ HB5.out).mono ?_); rintro e w6 ⟨rfl, hb6⟩; have HB6 : Hid (Below w.heap.size w w6) := HB5.out.trans (hb6.mono HB5.out.size); have X6 := HX5.out.below hb6 HX5.out.lt; have k0 := X6.cell 0; have kz := X6.lt; simp at k0; have HL6 : Hid (LiesA w6 a3 L) := HL5.out.below hb6; clear hb6 X6))
  go_loopw [13, 65] (fun sn si wr => ∃ (i : Nat) (acc : List Int), i ≤ L.length ∧ si = .int .i64 (i : Int) ∧ acc.length ≤ i ∧ Nms L acc ∧ wr.ownsRow w6.heap.size 3 1 sn acc.length (flat acc) ∧ Below w6.heap.size w6 wr) (fun _ si _ => L.length - (intOf si).toNat)
  case atStart => exact ⟨0, [], Nat.zero_le _, rfl, by simp, (fun x hx => by cases hx), World.ownsRow_nil _ _ _ _, Below.refl _ _⟩
  case round =>
    obtain ⟨i, acc, hil, rfl, hal, hN, hown, hbel⟩ := hrel
    have HN : Hid (Nms L acc) := hN
    have HO : Hid (wr.ownsRow w6.heap.size 3 1 u13 acc.length (flat acc)) := hown
    have HB : Hid (Below w6.heap.size w6 wr) := hbel
    clear hN hown hbel
    by_cases hlt : i < L.length
    · have hlt' : (i : Int) < (L.length : Int) := by omega
      obtain ⟨q, hq⟩ : ∃ q, L[i]? = some q := ⟨_, List.getElem?_eq_getElem hlt⟩
      obtain ⟨k, f, t, rfl, hk80, hft, hta⟩ := HIN.out q (List.mem_of_getElem? hq)
      obtain ⟨g, o, rfl, hlg⟩ : ∃ g o, a3 = some ⟨g, o, none⟩ ∧ Lies w6 g o L := by
        rcases HL6.out with h | ⟨g, o, h1, h2⟩
        · rw [h] at hlt; simp at hlt
        · exact ⟨g, o, h1, h2⟩
      obtain ⟨c0, c1, c2⟩ := hlg.tk HB.out hq
      simp only at c0 c1 c2
      have hgr : g < wr.heap.size := by have := hlg.1; have := HB.out.size; omega
      by_cases hk2 : k = 2
      · subst hk2
        have HN2 : Hid (Nms L (acc ++ [(i : Int)])) := HN.out.add hq (by omega) (by omega) hft
        clear hq hlg
        go_wp2_with (at_builtin; (refine wpList_append_at _ rfl (.tmp 73) (.tmp 75) 34 rfl w6.heap.size 3 j0 (.int .i64 0) 1 8 Tryz.underlying34 hj hj0 hj1 hj2 rfl (by decide) _ acc.length (flat acc) rfl ((HO.out.alloc _).alloc _) (some ⟨_, 0, none⟩) 1 1 [.int .i64 (i : Int)] rfl rfl (fun h => by cases h) (fun ad had => by cases had; exact cells_new2 _ _ _ _) (fun u hu => by simp at hu; subst hu; rfl) (by unfold maxLen; omega) (by omega) (by have := HB.out.size; simp; omega) ?_); intro v9 w9 ho9 hg9 _; have HO9 : Hid (w9.ownsRow w6.heap.size 3 1 v9 (acc ++ [(i : Int)]).length (flat (acc ++ [(i : Int)]))) := (by unfold Hid; rw [flat_append, List.length_append]; exact ho9); have HB9 : Hid (Below w6.heap.size w6 w9) := ((HB.out.alloc HB.out.size _).alloc (by have := HB.out.size; simp; omega) _).grown hg9 (by have := HB.out.size; simp; omega) (fun j hj => (HO.out.lt j hj).1); clear ho9 hg9)
        go_roundw
        case rel => exact ⟨i + 1, acc ++ [(i : Int)], by omega, by go_num, by simp; omega, HN2.out, HO9.out, HB9.out⟩
        case measure => simp [intOf]; omega
      · have hk2' : ((k : Int) == 2) = false := by rw [beq_eq_false_iff_ne]; omega
        clear hq hlg
        go_wp2
        go_roundw
        case rel => exact ⟨i + 1, acc, by omega, by go_num, by omega, HN.out, HO.out.alloc _, HB.out.alloc HB.out.size _⟩
        case measure => simp [intOf]; omega
    · have hge : ¬ (i : Int) < (L.length : Int) := by omega
      obtain ⟨a7, c7, rfl, hl7, -, hn7⟩ := own_form HO.out
      by_cases h0 : acc.length = 0
      · have h0' : ((acc.length : Int) == 0) = true := by rw [beq_iff_eq]; omega
        go_wp2
        go_ret
        exact ⟨rfl, HB6.out.trans (HB.out.mono HB6.out.size)⟩
      · have h0' : ((acc.length : Int) == 0) = false := by rw [beq_eq_false_iff_ne]; omega
        have h0n : ¬ (acc.length : Int) = 0 := by omega
        have h0p : (0 : Int) < (acc.length : Int) := by omega
        obtain ⟨j, hjl, hjx⟩ := pick_in at_ acc.length (by omega) (by omega)
        obtain ⟨x, hx⟩ : ∃ x, acc[j]? = some x := ⟨_, List.getElem?_eq_getElem hjl⟩
        obtain ⟨p, rfl, hpL, f, t, hpq, hf9, ht9, hft9⟩ := HN.out x (List.mem_of_getElem? hx)
        obtain ⟨g7, o7, rfl, hlg7⟩ : ∃ g o, a7 = some ⟨g, o, none⟩ ∧ Lies wr g o acc := by
          rcases hl7 with h | h
          · rw [h] at h0; simp at h0
          · exact h
        have cn := hlg7.int (Below.refl _ _) hx
        have hg7 := hlg7.1
        have hjl' : (j : Int) < (acc.length : Int) := by omega
        obtain ⟨g, o, rfl, hlg⟩ : ∃ g o, a3 = some ⟨g, o, none⟩ ∧ Lies w6 g o L := by
          rcases HL6.out with h | ⟨g, o, h1, h2⟩
          · rw [h] at hpL; simp at hpL
          · exact ⟨g, o, h1, h2⟩
        have HLG : Hid (∀ v, Below w6.heap.size w6 v → ∀ (j : Nat) (q : Tk), L[j]? = some q → v.cell? ⟨g, o + j * 3, none⟩ = some (.int .u8 q.k) ∧ v.cell? ⟨g, o + j * 3 + 1, none⟩ = some (.int .i64 q.f) ∧ v.cell? ⟨g, o + j * 3 + 2, none⟩ = some (.int .i64 q.t)) := fun v hv j q hq => hlg.tk hv hq
        obtain ⟨c0, c1, c2⟩ := HLG.out wr HB.out p _ hpq
        simp only at c0 c1 c2
        have hgr : g < wr.heap.size := by have := hlg.1; have := HB.out.size; omega
        have hgw : g < w6.heap.size := hlg.1
        have hpL' : (p : Int) < (L.length : Int) := by omega
        obtain ⟨hfs, hft, hts, hJ1, hJ2⟩ := Rn.list (n := n) (J := s.extract 0 f ++ n ++ s.extract t s.size) hn0 HNP.out HCN.out.1 HCN.out.2 hpq (fun h1 h2 => rn_of s n f t h1 h2)
        have hJz := (rn_of s n f t (by omega) hts).size
        have HSJ0 : ∀ v, Below w.heap.size w v → _ := fun v hv => HSC.out (s.extract 0 f ++ n ++ s.extract t s.size) v (by omega) hJ1 hv
        rw [hJ2] at HSJ0
        obtain ⟨M, hM⟩ : ∃ M, L.take p ++ (⟨2, f, ((f + n.size : Nat) : Int)⟩ : Tk) :: (L.drop (p + 1)).map (mvZ (((f + n.size : Nat) : Int) - (t : Int))) = M := ⟨_, rfl⟩
        rw [hM] at HSJ0
        have hML : M.length = L.length := by
          rw [← hM]
          simp
          omega
        rw [hML] at HSJ0
        have HSJ : Hid (∀ v, Below w.heap.size w v → Calls Tryz.prog 6 #[.string (s.extract 0 f ++ n ++ s.extract t s.size)] v fun e w' => ∃ u, e = .returned (.tuple #[u, .agg #[.int .i64 0, .int .i64 0, .int .i64 0]]) ∧ w'.ownsRow v.heap.size 36 3 u L.length (flat M) ∧ Below v.heap.size v w') := HSJ0
        have HMD : Hid (L.take p ++ (⟨2, f, ((f + n.size : Nat) : Int)⟩ : Tk) :: (L.drop (p + 1)).map (mvZ (((f + n.size : Nat) : Int) - (t : Int))) = M) := hM
        have HPQ : Hid (L[p]? = some (⟨2, f, t⟩ : Tk)) := hpq
        have hfI : (f : Int) ≤ (s.size : Int) := by omega
        have htI : (t : Int) ≤ (s.size : Int) := by omega
        clear hlg hlg7 hx hl7 hn7 hM hJ1 hJ2 HSJ0 hpq hML
        obtain ⟨w10, e10⟩ : ∃ w10, wr.alloc (.cells #[.int .u8 2, .int .i64 (f : Int), .int .i64 (t : Int)] 36) = w10 := ⟨_, rfl⟩
        have HE10 : Hid (wr.alloc (.cells #[.int .u8 2, .int .i64 (f : Int), .int .i64 (t : Int)] 36) = w10) := e10
        have hX10 : Bx w10 wr.heap.size #[.int .u8 2, .int .i64 (f : Int), .int .i64 (t : Int)] 36 := by rw [← e10]; exact Bx.new _ _ _
        have hb10 : Below w6.heap.size w6 w10 := by rw [← e10]; exact HB.out.alloc HB.out.size _
        have HB10 : Hid (Below w6.heap.size w6 w10) := hb10
        have HX10 : Hid (Bx w10 wr.heap.size #[.int .u8 2, .int .i64 (f : Int), .int .i64 (t : Int)] 36) := hX10
        have x1 : w10.cell? ⟨wr.heap.size, 1, none⟩ = some (.int .i64 (f : Int)) := hX10.cell 1
        have x2 : w10.cell? ⟨wr.heap.size, 2, none⟩ = some (.int .i64 (t : Int)) := hX10.cell 2
        have xz := hX10.lt
        clear e10 hX10 hb10
        have HVA : Hid (Below w6.heap.size w6 (w10.alloc (.cells #[.int .i64 0, .int .i64 0, .int .i64 0] 25)).drew) := (HB10.out.alloc HB10.out.size _).drew
        have HVB : Hid (Below w6.heap.size w6 w10.drew) := HB10.out.drew
        have XVA : Hid (Bx (w10.alloc (.cells #[.int .i64 0, .int .i64 0, .int .i64 0] 25)).drew wr.heap.size #[.int .u8 2, .int .i64 (f : Int), .int .i64 (t : Int)] 36) := (HX10.out.alloc _).drew
        have XVB : Hid (Bx w10.drew wr.heap.size #[.int .u8 2, .int .i64 (f : Int), .int .i64 (t : Int)] 36) := HX10.out.drew
        have YVA : Hid (Bx (w10.alloc (.cells #[.int .i64 0, .int .i64 0, .int .i64 0] 25)).drew w10.heap.size #[.int .i64 0, .int .i64 0, .int .i64 0] 25) := (Bx.new _ _ _).drew
        go_wp2
        rw [HE10.out]
        have new1 := World.new_ne w10 ⟨wr.heap.size, 1, none⟩ x1
        have zm1 : ¬ (9223372036854775807 < min f s.size + n.size) := by omega
        have zm2 : ¬ (9223372036854775807 < min f s.size + n.size + (s.size - t)) := by omega
        have zc1 : ¬ (9223372036854775807 < (s.extract 0 f).size + n.size) := by rw [off_size (by omega)]; omega
        have zc2 : ¬ (9223372036854775807 < (s.extract 0 f ++ n).size + (s.extract t s.size).size) := by rw [ByteArray.size_append, off_size (by omega), ByteArray.size_extract]; omega
        go_region_held3 (fun y => y.cell? ⟨wr.heap.size, 1, none⟩ = some (.int .i64 (f : Int)) ∧ y.cell? ⟨wr.heap.size, 2, none⟩ = some (.int .i64 (t : Int)))
          (first
            | go_keep
            | (refine ⟨?_, ?_⟩ <;> assumption))
          (first
          | (go_at_call 6; (with_reducible refine (HSJ.out _ (HB6.out.trans (HVA.out.mono HB6.out.size))).mono ?_); rintro e w11 ⟨u11, rfl, ho11, hb11⟩; obtain ⟨a11, c11, rfl, -, -, -⟩ := own_form ho11; have HB11 : Hid (Below w6.heap.size w6 w11) := HVA.out.trans (hb11.mono HVA.out.size); have X17 := XVA.out.below hb11 XVA.out.lt; have HX17 : Hid (Bx w11 wr.heap.size #[.int .u8 2, .int .i64 (f : Int), .int .i64 (t : Int)] 36) := X17; have HO11 : Hid (w11.ownsRow w6.heap.size 36 3 (.slice a11 L.length c11) L.length (flat M)) := own_lower ho11 HVA.out.size; have p1 := X17.cell 1; have p2 := X17.cell 2; have pz := X17.lt; simp at p1 p2; have new2 := World.new_ne w11 ⟨wr.heap.size, 1, none⟩ p1; have Y20 := YVA.out.below hb11 YVA.out.lt; have HY20 : Hid (Bx w11 w10.heap.size #[.int .i64 0, .int .i64 0, .int .i64 0] 25) := Y20; have r0 := Y20.cell 0; have r1 := Y20.cell 1; have r2 := Y20.cell 2; have e0 := Y20.free 0; have e1 := Y20.free 1; have e2 := Y20.free 2; have rz := Y20.lt; simp at r0 r1 r2; clear hb11 ho11 X17 Y20)
          | (go_at_call 6; (with_reducible refine (HSJ.out _ (HB6.out.trans (HVB.out.mono HB6.out.size))).mono ?_); rintro e w11 ⟨u11, rfl, ho11, hb11⟩; obtain ⟨a11, c11, rfl, -, -, -⟩ := own_form ho11; have HB11 : Hid (Below w6.heap.size w6 w11) := HVB.out.trans (hb11.mono HVB.out.size); have X17 := XVB.out.below hb11 XVB.out.lt; have HX17 : Hid (Bx w11 wr.heap.size #[.int .u8 2, .int .i64 (f : Int), .int .i64 (t : Int)] 36) := X17; have HO11 : Hid (w11.ownsRow w6.heap.size 36 3 (.slice a11 L.length c11) L.length (flat M)) := own_lower ho11 HVB.out.size; have p1 := X17.cell 1; have p2 := X17.cell 2; have pz := X17.lt; simp at p1 p2; have new2 := World.new_ne w11 ⟨wr.heap.size, 1, none⟩ p1; clear hb11 ho11 X17))
        · obtain ⟨W, hW⟩ : ∃ W, w11.alloc (.cells #[.int .i64 0, .int .i64 0, .int .i64 0] 25) = W := ⟨_, rfl⟩
          have HYW : Hid (Bx W w11.heap.size #[.int .i64 0, .int .i64 0, .int .i64 0] 25) := by unfold Hid; rw [← hW]; exact Bx.new _ _ _
          have HOW : Hid (W.ownsRow w6.heap.size 36 3 (.slice a11 L.length c11) L.length (flat M)) := by unfold Hid; rw [← hW]; exact HO11.out.alloc _
          have HBW : Hid (Below w6.heap.size w6 W) := by unfold Hid; rw [← hW]; exact HB11.out.alloc HB11.out.size _
          rw [hW]
          generalize w11.heap.size = P20 at *
          clear hW
          have y0 := HYW.out.cell 0
          have yz := HYW.out.lt
          simp at y0
          obtain ⟨g11, c12, hv11, hc12, hg11⟩ := own_cap HOW.out (by omega)
          cases hv11
          have hl11 : Lies W g11 0 M := Lies.own HOW.out
          have HMG : Hid (∀ v, Below W.heap.size W v → ∀ (j : Nat) (q : Tk), M[j]? = some q → v.cell? ⟨g11, j * 3, none⟩ = some (.int .u8 q.k) ∧ v.cell? ⟨g11, j * 3 + 1, none⟩ = some (.int .i64 q.f) ∧ v.cell? ⟨g11, j * 3 + 2, none⟩ = some (.int .i64 q.t)) := fun v hv j q hq => by
            have := hl11.tk hv hq
            simp only [Nat.zero_add] at this
            exact this
          have hgW : g < W.heap.size := by have := HBW.out.size; omega
          clear hl11 HO11
          go_wp2
          go_loopw [130] (fun si wx => ∃ i : Nat, i ≤ L.length ∧ si = .int .i64 (i : Int) ∧ Below W.heap.size W wx) (fun si _ => L.length - (intOf si).toNat)
          case atStart => exact ⟨0, Nat.zero_le _, rfl, Below.refl _ _⟩
          case round =>
            obtain ⟨i, hil, rfl, hbel⟩ := hrel
            obtain ⟨wx, rfl⟩ : ∃ wx, wx = wr := ⟨_, rfl⟩
            have HB2 : Hid (Below W.heap.size W wx) := hbel
            have HB3 : Hid (Below w6.heap.size w6 wx) := HBW.out.trans (HB2.out.mono HBW.out.size)
            clear hbel
            by_cases hlt2 : i < L.length
            · have hlt' : (i : Int) < (L.length : Int) := by omega
              obtain ⟨q, hq⟩ : ∃ q, L[i]? = some q := ⟨_, List.getElem?_eq_getElem hlt2⟩
              obtain ⟨k, f2, t2, rfl, hk80, hft2, hta2⟩ := HIN.out q (List.mem_of_getElem? hq)
              obtain ⟨c0, c1, c2⟩ := HLG.out wx HB3.out i _ hq
              simp only at c0 c1 c2
              have hgx : g < wx.heap.size := by have := HB2.out.size; omega
              have hg1x : g11 < wx.heap.size := by have := HB2.out.size; omega
              have hMg := ren_get (L := L) (q := (⟨2, f, ((f + n.size : Nat) : Int)⟩ : Tk)) (g := mvZ (((f + n.size : Nat) : Int) - (t : Int))) hpL i
              rw [HMD.out] at hMg
              obtain ⟨v23, e23, hb23, hs23, B22, B23⟩ := bx2 wx #[.int .u8 (k : Int), .int .i64 (f2 : Int), .int .i64 (t2 : Int)] #[.int .u8 (k : Int), .int .i64 (f2 : Int), .int .i64 (t2 : Int)] 36 36
              have HB23 : Hid (Below wx.heap.size wx v23) := hb23
              have HS23 : Hid (v23.heap.size = wx.heap.size + 2) := hs23
              have HX23 : Hid (Bx v23 (wx.heap.size + 1) #[.int .u8 (k : Int), .int .i64 (f2 : Int), .int .i64 (t2 : Int)] 36) := B23
              have HC23 : Hid (∀ (j : Nat) (q : Tk), M[j]? = some q → v23.cell? ⟨g11, j * 3, none⟩ = some (.int .u8 q.k) ∧ v23.cell? ⟨g11, j * 3 + 1, none⟩ = some (.int .i64 q.f) ∧ v23.cell? ⟨g11, j * 3 + 2, none⟩ = some (.int .i64 q.t)) := fun j q hq => HMG.out v23 (HB2.out.trans (hb23.mono HB2.out.size)) j q hq
              have b0 := B22.cell 0
              have b1 := B22.cell 1
              have b2 := B22.cell 2
              have d0 := B23.cell 0
              have d1 := B23.cell 1
              have d2 := B23.cell 2
              have fr0 := B23.free 0
              have fr1 := B23.free 1
              have fr2 := B23.free 2
              have l22 := B22.lt
              have l23 := B23.lt
              simp at b0 b1 b2 d0 d1 d2
              have hgv : g11 < v23.heap.size := by omega
              have hne1 : g11 ≠ wx.heap.size + 1 := by omega
              have hne2 : wx.heap.size + 1 ≠ g11 := by omega
              clear hb23 hs23 B22 B23
              by_cases hip : i < p
              · rw [if_pos hip, hq] at hMg
                obtain ⟨m0, m1, m2⟩ := HC23.out i _ hMg
                simp only at m0 m1 m2
                have q1 : ((i : Int) == (p : Int)) = false := by rw [beq_eq_false_iff_ne]; omega
                have q2 : ¬ (i : Int) > (p : Int) := by omega
                clear hMg hq
                go_wp2
                go_quiet (fail)
                go_wp2
                go_roundw
                case rel => exact ⟨i + 1, by omega, by go_num, bel_drewN (HB2.out.trans (HB23.out.mono HB2.out.size))⟩
                case measure => simp [intOf]; omega
              · rw [if_neg hip] at hMg
                by_cases hie : i = p
                · rw [if_pos hie] at hMg
                  have hqe := hq
                  rw [hie, HPQ.out] at hqe
                  have e1 : k = 2 := by have := congrArg Tk.k (Option.some.inj hqe); simp only at this; omega
                  have e2 : f2 = f := by have := congrArg Tk.f (Option.some.inj hqe); simp only at this; omega
                  have e3 : t2 = t := by have := congrArg Tk.t (Option.some.inj hqe); simp only at this; omega
                  rw [show ((f + n.size : Nat) : Int) = (t : Int) + ((n.size : Int) - ((t : Int) - (f : Int))) by omega] at hMg
                  obtain ⟨v24, e24, hb24, hs24, X22, X24⟩ := bx2 wx #[.int .u8 2, .int .i64 (f : Int), .int .i64 (t : Int)] #[.int .u8 2, .int .i64 (f : Int), .int .i64 ((t : Int) + ((n.size : Int) - ((t : Int) - (f : Int))))] 36 36
                  have HB24 : Hid (Below wx.heap.size wx v24) := hb24
                  obtain ⟨m0, m1, m2⟩ := HMG.out v24 (HB2.out.trans (hb24.mono HB2.out.size)) i _ hMg
                  simp only at m0 m1 m2
                  have z0 := X24.cell 0
                  have z1 := X24.cell 1
                  have z2 := X24.cell 2
                  have zl := X24.lt
                  simp at z0 z1 z2
                  have hg24 : g11 < v24.heap.size := by omega
                  have q1 : ((i : Int) == (p : Int)) = true := by rw [beq_iff_eq]; omega
                  have q2 : ¬ (i : Int) > (p : Int) := by omega
                  rw [e1] at c0
                  rw [e2] at c1
                  rw [e3] at c2
                  have c0' : wx.cell? ⟨g, o + i * 3, none⟩ = some (.int .u8 2) := c0
                  clear hMg hq hqe hie e1 e2 e3 e23 c0 b0 b1 b2 d0 d1 d2 fr0 fr1 fr2 l22 l23 hgv HX23 HC23 HB23 HS23 hb24 hs24 X22 X24
                  go_wp2
                  go_quiet (fail)
                  go_wp2
                  go_roundw
                  case rel => exact ⟨i + 1, by omega, by go_num, bel_drewN (HB2.out.trans (HB24.out.mono HB2.out.size))⟩
                  case measure => simp [intOf]; omega
                · rw [if_neg hie, hq, Option.map_some] at hMg
                  unfold mvZ at hMg
                  rw [show ((f + n.size : Nat) : Int) - (t : Int) = ((n.size : Int) - ((t : Int) - (f : Int))) by omega] at hMg
                  obtain ⟨m0, m1, m2⟩ := HC23.out i _ hMg
                  simp only at m0 m1 m2
                  have HMV : Hid (∀ v, Calls Tryz.prog 10 #[.agg #[.int .u8 (k : Int), .int .i64 (f2 : Int), .int .i64 (t2 : Int)], .int .i64 ((n.size : Int) - ((t : Int) - (f : Int)))] v fun e w' => e = .returned (.agg #[.int .u8 (k : Int), .int .i64 ((f2 : Int) + ((n.size : Int) - ((t : Int) - (f : Int)))), .int .i64 ((t2 : Int) + ((n.size : Int) - ((t : Int) - (f : Int))))]) ∧ Below v.heap.size v w') := fun v => moved_any _ _ _ _ (by omega) (by omega) (by omega) v
                  have q1 : ((i : Int) == (p : Int)) = false := by rw [beq_eq_false_iff_ne]; omega
                  have q2 : (i : Int) > (p : Int) := by omega
                  clear hMg hq hie
                  go_wp2_with (go_at_call 10; (with_reducible refine (HMV.out _).mono ?_); rintro e w7 ⟨rfl, hb7⟩; have HB7 : Hid (Below wx.heap.size wx w7) := HB23.out.trans (hb7.mono (by have := HB23.out.size; omega)); have X7 := HX23.out.below hb7 HX23.out.lt; have HX7 : Hid (Bx w7 (wx.heap.size + 1) #[.int .u8 (k : Int), .int .i64 (f2 : Int), .int .i64 (t2 : Int)] 36) := X7; have n0 : w7.cell? ⟨g11, i * 3, none⟩ = some (.int .u8 (k : Int)) := (hb7.cell (p := ⟨g11, i * 3, none⟩) hgv).trans m0; have n1 : w7.cell? ⟨g11, i * 3 + 1, none⟩ = some (.int .i64 ((f2 : Int) + ((n.size : Int) - ((t : Int) - (f : Int))))) := (hb7.cell (p := ⟨g11, i * 3 + 1, none⟩) hgv).trans m1; have n2 : w7.cell? ⟨g11, i * 3 + 2, none⟩ = some (.int .i64 ((t2 : Int) + ((n.size : Int) - ((t : Int) - (f : Int))))) := (hb7.cell (p := ⟨g11, i * 3 + 2, none⟩) hgv).trans m2; have o0 := X7.cell 0; have o1 := X7.cell 1; have o2 := X7.cell 2; have u0 := X7.free 0; have u1 := X7.free 1; have u2 := X7.free 2; have oz := X7.lt; have hg7' : g11 < w7.heap.size := Nat.lt_of_lt_of_le hgv hb7.size; simp at o0 o1 o2; clear hb7 X7)
                  go_quiet (fail)
                  go_wp2
                  go_roundw
                  case rel => exact ⟨i + 1, by omega, by go_num, bel_drewN (bel_put3 (HB2.out.trans (HB7.out.mono HB2.out.size)) (by have := HB2.out.size; omega))⟩
                  case measure => simp [intOf]; omega
            · have hge2 : ¬ (i : Int) < (L.length : Int) := by omega
              go_wp2
              go_ret
              exact ⟨rfl, HB6.out.trans (HB3.out.mono HB6.out.size)⟩
        · obtain ⟨W, hW⟩ : ∃ W, (((w11.setCell ⟨w10.heap.size, 0, none⟩ (.int .i64 0)).setCell ⟨w10.heap.size, 1, none⟩ (.int .i64 0)).setCell ⟨w10.heap.size, 2, none⟩ (.int .i64 0)) = W := ⟨_, rfl⟩
          have HYW : Hid (Bx W w10.heap.size #[.int .i64 0, .int .i64 0, .int .i64 0] 25) := by unfold Hid; rw [← hW]; exact ((HY20.out.set 0 _).set 1 _).set 2 _
          have HOW : Hid (W.ownsRow w6.heap.size 36 3 (.slice a11 L.length c11) L.length (flat M)) := by unfold Hid; rw [← hW]; exact own_put3 HO11.out HY20.out (by decide)
          have HBW : Hid (Below w6.heap.size w6 W) := by unfold Hid; rw [← hW]; exact bel_put3 HB11.out (by have := HB10.out.size; omega)
          rw [hW]
          generalize w10.heap.size = P20 at *
          clear hW
          have y0 := HYW.out.cell 0
          have yz := HYW.out.lt
          simp at y0
          obtain ⟨g11, c12, hv11, hc12, hg11⟩ := own_cap HOW.out (by omega)
          cases hv11
          have hl11 : Lies W g11 0 M := Lies.own HOW.out
          have HMG : Hid (∀ v, Below W.heap.size W v → ∀ (j : Nat) (q : Tk), M[j]? = some q → v.cell? ⟨g11, j * 3, none⟩ = some (.int .u8 q.k) ∧ v.cell? ⟨g11, j * 3 + 1, none⟩ = some (.int .i64 q.f) ∧ v.cell? ⟨g11, j * 3 + 2, none⟩ = some (.int .i64 q.t)) := fun v hv j q hq => by
            have := hl11.tk hv hq
            simp only [Nat.zero_add] at this
            exact this
          have hgW : g < W.heap.size := by have := HBW.out.size; omega
          clear hl11 HO11
          go_wp2
          go_loopw [130] (fun si wx => ∃ i : Nat, i ≤ L.length ∧ si = .int .i64 (i : Int) ∧ Below W.heap.size W wx) (fun si _ => L.length - (intOf si).toNat)
          case atStart => exact ⟨0, Nat.zero_le _, rfl, Below.refl _ _⟩
          case round =>
            obtain ⟨i, hil, rfl, hbel⟩ := hrel
            obtain ⟨wx, rfl⟩ : ∃ wx, wx = wr := ⟨_, rfl⟩
            have HB2 : Hid (Below W.heap.size W wx) := hbel
            have HB3 : Hid (Below w6.heap.size w6 wx) := HBW.out.trans (HB2.out.mono HBW.out.size)
            clear hbel
            by_cases hlt2 : i < L.length
            · have hlt' : (i : Int) < (L.length : Int) := by omega
              obtain ⟨q, hq⟩ : ∃ q, L[i]? = some q := ⟨_, List.getElem?_eq_getElem hlt2⟩
              obtain ⟨k, f2, t2, rfl, hk80, hft2, hta2⟩ := HIN.out q (List.mem_of_getElem? hq)
              obtain ⟨c0, c1, c2⟩ := HLG.out wx HB3.out i _ hq
              simp only at c0 c1 c2
              have hgx : g < wx.heap.size := by have := HB2.out.size; omega
              have hg1x : g11 < wx.heap.size := by have := HB2.out.size; omega
              have hMg := ren_get (L := L) (q := (⟨2, f, ((f + n.size : Nat) : Int)⟩ : Tk)) (g := mvZ (((f + n.size : Nat) : Int) - (t : Int))) hpL i
              rw [HMD.out] at hMg
              obtain ⟨v23, e23, hb23, hs23, B22, B23⟩ := bx2 wx #[.int .u8 (k : Int), .int .i64 (f2 : Int), .int .i64 (t2 : Int)] #[.int .u8 (k : Int), .int .i64 (f2 : Int), .int .i64 (t2 : Int)] 36 36
              have HB23 : Hid (Below wx.heap.size wx v23) := hb23
              have HS23 : Hid (v23.heap.size = wx.heap.size + 2) := hs23
              have HX23 : Hid (Bx v23 (wx.heap.size + 1) #[.int .u8 (k : Int), .int .i64 (f2 : Int), .int .i64 (t2 : Int)] 36) := B23
              have HC23 : Hid (∀ (j : Nat) (q : Tk), M[j]? = some q → v23.cell? ⟨g11, j * 3, none⟩ = some (.int .u8 q.k) ∧ v23.cell? ⟨g11, j * 3 + 1, none⟩ = some (.int .i64 q.f) ∧ v23.cell? ⟨g11, j * 3 + 2, none⟩ = some (.int .i64 q.t)) := fun j q hq => HMG.out v23 (HB2.out.trans (hb23.mono HB2.out.size)) j q hq
              have b0 := B22.cell 0
              have b1 := B22.cell 1
              have b2 := B22.cell 2
              have d0 := B23.cell 0
              have d1 := B23.cell 1
              have d2 := B23.cell 2
              have fr0 := B23.free 0
              have fr1 := B23.free 1
              have fr2 := B23.free 2
              have l22 := B22.lt
              have l23 := B23.lt
              simp at b0 b1 b2 d0 d1 d2
              have hgv : g11 < v23.heap.size := by omega
              have hne1 : g11 ≠ wx.heap.size + 1 := by omega
              have hne2 : wx.heap.size + 1 ≠ g11 := by omega
              clear hb23 hs23 B22 B23
              by_cases hip : i < p
              · rw [if_pos hip, hq] at hMg
                obtain ⟨m0, m1, m2⟩ := HC23.out i _ hMg
                simp only at m0 m1 m2
                have q1 : ((i : Int) == (p : Int)) = false := by rw [beq_eq_false_iff_ne]; omega
                have q2 : ¬ (i : Int) > (p : Int) := by omega
                clear hMg hq
                go_wp2
                go_quiet (fail)
                go_wp2
                go_roundw
                case rel => exact ⟨i + 1, by omega, by go_num, bel_drewN (HB2.out.trans (HB23.out.mono HB2.out.size))⟩
                case measure => simp [intOf]; omega
              · rw [if_neg hip] at hMg
                by_cases hie : i = p
                · rw [if_pos hie] at hMg
                  have hqe := hq
                  rw [hie, HPQ.out] at hqe
                  have e1 : k = 2 := by have := congrArg Tk.k (Option.some.inj hqe); simp only at this; omega
                  have e2 : f2 = f := by have := congrArg Tk.f (Option.some.inj hqe); simp only at this; omega
                  have e3 : t2 = t := by have := congrArg Tk.t (Option.some.inj hqe); simp only at this; omega
                  rw [show ((f + n.size : Nat) : Int) = (t : Int) + ((n.size : Int) - ((t : Int) - (f : Int))) by omega] at hMg
                  obtain ⟨v24, e24, hb24, hs24, X22, X24⟩ := bx2 wx #[.int .u8 2, .int .i64 (f : Int), .int .i64 (t : Int)] #[.int .u8 2, .int .i64 (f : Int), .int .i64 ((t : Int) + ((n.size : Int) - ((t : Int) - (f : Int))))] 36 36
                  have HB24 : Hid (Below wx.heap.size wx v24) := hb24
                  obtain ⟨m0, m1, m2⟩ := HMG.out v24 (HB2.out.trans (hb24.mono HB2.out.size)) i _ hMg
                  simp only at m0 m1 m2
                  have z0 := X24.cell 0
                  have z1 := X24.cell 1
                  have z2 := X24.cell 2
                  have zl := X24.lt
                  simp at z0 z1 z2
                  have hg24 : g11 < v24.heap.size := by omega
                  have q1 : ((i : Int) == (p : Int)) = true := by rw [beq_iff_eq]; omega
                  have q2 : ¬ (i : Int) > (p : Int) := by omega
                  rw [e1] at c0
                  rw [e2] at c1
                  rw [e3] at c2
                  have c0' : wx.cell? ⟨g, o + i * 3, none⟩ = some (.int .u8 2) := c0
                  clear hMg hq hqe hie e1 e2 e3 e23 c0 b0 b1 b2 d0 d1 d2 fr0 fr1 fr2 l22 l23 hgv HX23 HC23 HB23 HS23 hb24 hs24 X22 X24
                  go_wp2
                  go_quiet (fail)
                  go_wp2
                  go_roundw
                  case rel => exact ⟨i + 1, by omega, by go_num, bel_drewN (HB2.out.trans (HB24.out.mono HB2.out.size))⟩
                  case measure => simp [intOf]; omega
                · rw [if_neg hie, hq, Option.map_some] at hMg
                  unfold mvZ at hMg
                  rw [show ((f + n.size : Nat) : Int) - (t : Int) = ((n.size : Int) - ((t : Int) - (f : Int))) by omega] at hMg
                  obtain ⟨m0, m1, m2⟩ := HC23.out i _ hMg
                  simp only at m0 m1 m2
                  have HMV : Hid (∀ v, Calls Tryz.prog 10 #[.agg #[.int .u8 (k : Int), .int .i64 (f2 : Int), .int .i64 (t2 : Int)], .int .i64 ((n.size : Int) - ((t : Int) - (f : Int)))] v fun e w' => e = .returned (.agg #[.int .u8 (k : Int), .int .i64 ((f2 : Int) + ((n.size : Int) - ((t : Int) - (f : Int)))), .int .i64 ((t2 : Int) + ((n.size : Int) - ((t : Int) - (f : Int))))]) ∧ Below v.heap.size v w') := fun v => moved_any _ _ _ _ (by omega) (by omega) (by omega) v
                  have q1 : ((i : Int) == (p : Int)) = false := by rw [beq_eq_false_iff_ne]; omega
                  have q2 : (i : Int) > (p : Int) := by omega
                  clear hMg hq hie
                  go_wp2_with (go_at_call 10; (with_reducible refine (HMV.out _).mono ?_); rintro e w7 ⟨rfl, hb7⟩; have HB7 : Hid (Below wx.heap.size wx w7) := HB23.out.trans (hb7.mono (by have := HB23.out.size; omega)); have X7 := HX23.out.below hb7 HX23.out.lt; have HX7 : Hid (Bx w7 (wx.heap.size + 1) #[.int .u8 (k : Int), .int .i64 (f2 : Int), .int .i64 (t2 : Int)] 36) := X7; have n0 : w7.cell? ⟨g11, i * 3, none⟩ = some (.int .u8 (k : Int)) := (hb7.cell (p := ⟨g11, i * 3, none⟩) hgv).trans m0; have n1 : w7.cell? ⟨g11, i * 3 + 1, none⟩ = some (.int .i64 ((f2 : Int) + ((n.size : Int) - ((t : Int) - (f : Int))))) := (hb7.cell (p := ⟨g11, i * 3 + 1, none⟩) hgv).trans m1; have n2 : w7.cell? ⟨g11, i * 3 + 2, none⟩ = some (.int .i64 ((t2 : Int) + ((n.size : Int) - ((t : Int) - (f : Int))))) := (hb7.cell (p := ⟨g11, i * 3 + 2, none⟩) hgv).trans m2; have o0 := X7.cell 0; have o1 := X7.cell 1; have o2 := X7.cell 2; have u0 := X7.free 0; have u1 := X7.free 1; have u2 := X7.free 2; have oz := X7.lt; have hg7' : g11 < w7.heap.size := Nat.lt_of_lt_of_le hgv hb7.size; simp at o0 o1 o2; clear hb7 X7)
                  go_quiet (fail)
                  go_wp2
                  go_roundw
                  case rel => exact ⟨i + 1, by omega, by go_num, bel_drewN (bel_put3 (HB2.out.trans (HB7.out.mono HB2.out.size)) (by have := HB2.out.size; omega))⟩
                  case measure => simp [intOf]; omega
            · have hge2 : ¬ (i : Int) < (L.length : Int) := by omega
              go_wp2
              go_ret
              exact ⟨rfl, HB6.out.trans (HB3.out.mono HB6.out.size)⟩
theorem lexerRenames_walk (s : ByteArray) (at_ : Int) (hA1 : -9223372036854775808 ≤ at_) (hA2 : at_ ≤ 9223372036854775807) (n : ByteArray) (hB : s.size + n.size ≤ 1048576) (w : World) (hS : Spl w) (hT : Lt w) (hM : MaxL w) :
    Calls Tryz.prog 3 #[.string s, .int .i64 at_, .string n] w fun e w' => e = .returned (.bool true) ∧ Below w.heap.size w w' := by
  by_cases h : (cut s 0).2 = none ∧ kOf n = some 2
  · exact renames_in s at_ n hB hA1 hA2 h.1 h.2 w hS hT hM
  · exact renames_out s at_ n hB h w hS hT hM
end Go.Proofs.YthdfccdkomfikaaGreatDoor
