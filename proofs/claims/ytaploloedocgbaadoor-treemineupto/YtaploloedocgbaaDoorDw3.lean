import Derived.Test.YtaploloedocgbaaDoorDw8
import Derived.Test.YtaploloedocgbaaDoorDw
import Derived.Deep.DeepCutAuto
namespace Go.Proofs.YtaploloedocgbaaDoor
open Go.ChangeShapes Go.WideShapes Go.ChangeAt Go.RowKit
set_option linter.unusedVariables false

/-- the code's names, as one block -/
def nmA (nmL : List (List UInt8)) : Array Value := (nmL.map fun m => Value.string ⟨m.toArray⟩).toArray
theorem nmA_size (nmL : List (List UInt8)) : (nmA nmL).size = nmL.length := by simp [nmA]
theorem nmA_at {nmL : List (List UInt8)} {k : Nat} (h : k < nmL.length) : (nmA nmL)[k]? = some (.string ⟨(nmL.getD k []).toArray⟩) := by
  unfold nmA
  simp [h, List.getD]
theorem sizeNames : (Tryd.prog.info? 81).map (·.size) = some 58 := by kernel_rfl

theorem sizeStr : (Tryd.prog.info? 9).map (·.size) = some 1 := by kernel_rfl
theorem index_names {A : Array Value} {k : Nat} {x : Value} (w : World) (hk : k < 58) (h : A[k]? = some x) : (Instr.index 81 (.agg A) (.int .i64 (k : Int))).run Tryd.prog w = .ok x w := by
  obtain ⟨i, hi, hz⟩ := Option.map_eq_some_iff.1 sizeStr
  have h1 : (0 : Int) ≤ (k : Int) ∧ (k : Int) < ((58 : Nat) : Int) := ⟨by omega, by omega⟩
  unfold Instr.index
  simp [go_sem, asIntOf, part, isAgg, sizeOf, typeInfo, hi, hz, h, h1, hk]

set_option maxRecDepth 1000000 in
set_option maxHeartbeats 2000000 in
theorem nameAt_any (nmL : List (List UInt8)) (hlen : nmL.length = 58) (hm : ∀ i, (nmL.getD i []).length ≤ 12) (s : ByteArray) (v : World) (hs : s.size ≤ 16777216) (t0 : TypeId) (fr : Nat × Nat) (hA : v.heap[0]? = some (.cells (nmA nmL) t0 fr)) (KD LN : Nat) (OK : Bool) (hq : naF nmL s.data.toList 58 = (KD, LN, OK)) :
    Calls Tryd.prog 31 #[.string s] v fun e w' => e = .returned (.tuple #[.int .u8 (KD : Int), .int .i64 (LN : Int), .bool OK]) ∧ Below v.heap.size v w' := by
  have HQ : Hid (naF nmL s.data.toList 58 = (KD, LN, OK)) := hq
  have HA : Hid (v.heap[0]? = some (.cells (nmA nmL) t0 fr)) := hA
  have HI : Hid ((Tryd.prog.info? 81).map (·.size) = some (nmA nmL).size) := by unfold Hid; rw [nmA_size, hlen]; exact sizeNames
  have HNA : Hid (∀ k, k < 58 → (nmA nmL)[k]? = some (.string ⟨(nmL.getD k []).toArray⟩)) := fun k hk => nmA_at (by omega)
  have HSZ : Hid ((nmA nmL).size = 58) := by unfold Hid; rw [nmA_size, hlen]
  obtain ⟨A, hAA⟩ : ∃ A, nmA nmL = A := ⟨_, rfl⟩
  rw [hAA] at HA HI HNA HSZ
  clear hq hA hAA
  go_enter Tryd.func31, Tryd.ntmps31
  go_wp2_with ((with_reducible refine wpList_plain (o := { dst := some 8, op := .load 81 (.global 0), type := 81, pos := _, after := _, guard := none }) ?_ ?_); exact rfl; intro _ hK; refine wp_load_row 81 (.global 0) rfl 0 rfl _ A fr _ HA.out Tryd.underlying81 rfl HI.out (hK _ _ ?_); clear hK)
  go_loopg [2, 3, 4, 9] 58 (fun gk sk sl so si wr => ∃ (k : Nat), gk = 58 - k ∧ k ≤ 58 ∧ sk = .int .u8 ((naF nmL s.data.toList k).1 : Int) ∧ sl = .int .i64 ((naF nmL s.data.toList k).2.1 : Int) ∧ so = .bool (naF nmL s.data.toList k).2.2 ∧ si = .int .i64 (k : Int) ∧ Below v.heap.size v wr)
  case atStart => exact ⟨0, rfl, Nat.zero_le _, rfl, rfl, rfl, rfl, Below.refl _ _⟩
  case round =>
    obtain ⟨k, rfl, hk, rfl, rfl, rfl, rfl, hbel⟩ := hrel
    have HB : Hid (Below v.heap.size v wr) := hbel
    clear hbel
    by_cases hlt : k < 58
    · have hlt' : (k : Int) < 58 := by omega
      obtain ⟨m, hmm⟩ : ∃ m, nmL.getD k [] = m := ⟨_, rfl⟩
      obtain ⟨N, hNd⟩ : ∃ N : ByteArray, (⟨m.toArray⟩ : ByteArray) = N := ⟨_, rfl⟩
      have hN1 : N.data.toList = m := by rw [← hNd]
      have hidx := HNA.out k hlt
      rw [hmm, hNd] at hidx
      have hml : m.length ≤ 12 := hmm ▸ hm k
      have hNs1 : N.size ≤ m.length := by rw [← dlen, hN1]; exact Nat.le_refl _
      have hNs2 : m.length ≤ N.size := by rw [← dlen, hN1]; exact Nat.le_refl _
      have HM : Hid (nmL.getD k [] = m) := hmm
      have HN1 : Hid (N.data.toList = m) := hN1
      obtain ⟨kd, ln, ok, hck⟩ : ∃ a b c, naF nmL s.data.toList k = (a, b, c) := ⟨_, _, _, rfl⟩
      have HCK : Hid (naF nmL s.data.toList k = (kd, ln, ok)) := hck
      have mk : IntKind.u8.wrap (k : Int) = (k : Int) := IntWalk.u8_in _ ⟨by omega, by omega⟩
      have hidx2 := index_names wr hlt hidx
      rw [hck]
      clear hmm hNd hN1 hck
      go_wp2
      clear hidx hidx2
      go_loopg [7] m.length (fun gk sn wi => ∃ (n : Nat), gk = m.length - n ∧ n ≤ lcp m s.data.toList ∧ sn = .int .i64 (n : Int) ∧ Below v.heap.size v wi)
      case atStart => exact ⟨0, rfl, Nat.zero_le _, rfl, HB.out⟩
      case round =>
        obtain ⟨n, rfl, hn, rfl, hbel⟩ := hrel
        clear HB
        have HB : Hid (Below v.heap.size v wr) := hbel
        have hll := lcp_le m s.data.toList
        rw [dlen] at hll
        have hsl := dlen s
        clear hbel
        by_cases e1 : n < m.length
        · have e1' : (n : Int) < (N.size : Int) := by omega
          by_cases e2 : n < s.size
          · have e2' : (n : Int) < (s.size : Int) := by omega
            have hnN : n < N.size := by omega
            obtain ⟨x, hx⟩ : ∃ x, N[n]'hnN = x := ⟨_, rfl⟩
            obtain ⟨y, hy⟩ : ∃ y, s[n]'e2 = y := ⟨_, rfl⟩
            have hxm : m[n]? = some x := by
              rw [← HN1.out, List.getElem?_eq_getElem (by rw [dlen]; omega), ← hx]; rfl
            have hys : s.data.toList[n]? = some y := by
              rw [List.getElem?_eq_getElem (by omega), ← hy]; rfl
            have hat := lcp_at hn hxm hys
            clear hxm hys
            by_cases e3 : x = y
            · have t3 : ((x.toNat : Int) == (y.toNat : Int)) = true := by rw [e3]; exact beq_self_eq_true _
              have hn1 := hat.1 e3
              have HN2 : Hid (n + 1 ≤ lcp m s.data.toList) := hn1
              clear hat e3 hn1
              obtain ⟨X, F, hX, hF, onto⟩ := class_of (fun x => Below wr.heap.size wr x) (Below.refl _ wr)
              have HFF : Hid (∀ y, Below wr.heap.size wr (F y)) := hF
              have HOn : Hid (∀ x, Below wr.heap.size wr x → ∃ y, x = F y) := fun x h => by obtain ⟨y, hy⟩ := onto x h; exact ⟨y, hy.symm⟩
              clear hF onto
              go_upto_region 5 with fail
              refine region_class F (by kernel_rfl) (by kernel_rfl) (by obtain ⟨x, hx⟩ := HOn.out _ (Below.refl _ _).drew; exact ⟨x, hx.symm⟩) ?_
              repeat (go_big_quiet_step (fail))
              refine wpQuiet_nil ?_
              rintro _ ⟨nq, rfl⟩
              have hfn := HFF.out nq
              obtain ⟨w4, hV⟩ : ∃ w4, F nq = w4 := ⟨_, rfl⟩
              rw [hV] at hfn
              rw [hV]
              have HB4 : Hid (Below v.heap.size v w4) := HB.out.trans (hfn.mono HB.out.size)
              clear HFF HOn hV hfn hX HB
              have HB : Hid (Below v.heap.size v w4) := HB4.out
              clear HB4
              go_wp2
              go_roundg (m.length - (n + 1))
              case measure => omega
              case rel => exact ⟨n + 1, rfl, HN2.out, by go_num, HB.out⟩
            · have t3 : ((x.toNat : Int) == (y.toNat : Int)) = false := by rw [beq_eq_false_iff_ne]; intro h; exact e3 (UInt8.toNat_inj.1 (by omega))
              have HLc : Hid (lcp m s.data.toList = n) := hat.2 e3
              clear hat e3 hn hll
              obtain ⟨X, F, hX, hF, onto⟩ := class_of (fun x => Below wr.heap.size wr x) (Below.refl _ wr)
              have HFF : Hid (∀ y, Below wr.heap.size wr (F y)) := hF
              have HOn : Hid (∀ x, Below wr.heap.size wr x → ∃ y, x = F y) := fun x h => by obtain ⟨y, hy⟩ := onto x h; exact ⟨y, hy.symm⟩
              clear hF onto
              go_upto_region 5 with fail
              refine region_class F (by kernel_rfl) (by kernel_rfl) (by obtain ⟨x, hx⟩ := HOn.out _ (Below.refl _ _).drew; exact ⟨x, hx.symm⟩) ?_
              repeat (go_big_quiet_step (fail))
              refine wpQuiet_nil ?_
              rintro _ ⟨nq, rfl⟩
              have hfn := HFF.out nq
              obtain ⟨w4, hV⟩ : ∃ w4, F nq = w4 := ⟨_, rfl⟩
              rw [hV] at hfn
              rw [hV]
              have HB4 : Hid (Below v.heap.size v w4) := HB.out.trans (hfn.mono HB.out.size)
              clear HFF HOn hV hfn hX HB
              have HB : Hid (Below v.heap.size v w4) := HB4.out
              clear HB4
              by_cases c1 : ln < n
              · have c1' : (ln : Int) < (n : Int) := by omega
                by_cases c2 : n = m.length
                · have c2' : ((n : Int) == (N.size : Int)) = true := by rw [beq_iff_eq]; omega
                  have HCN : Hid (naF nmL s.data.toList (k + 1) = (k, n, true)) := by
                    unfold Hid
                    rw [naF, HCK.out, HM.out]
                    unfold naS
                    simp only [HLc.out]
                    rw [if_pos c1, if_pos ⟨rfl, c2⟩]
                  clear c2
                  go_wp2
                  go_roundg (58 - (k + 1))
                  case measure => omega
                  case rel => exact ⟨k + 1, rfl, by omega, by rw [HCN.out], by rw [HCN.out], by rw [HCN.out], by go_num, HB.out⟩
                · have c2' : ((n : Int) == (N.size : Int)) = false := by rw [beq_eq_false_iff_ne]; omega
                  have HCN : Hid (naF nmL s.data.toList (k + 1) = (kd, n, false)) := by
                    unfold Hid
                    rw [naF, HCK.out, HM.out]
                    unfold naS
                    simp only [HLc.out]
                    rw [if_pos c1, if_pos c1, if_neg (fun h => c2 h.2)]
                  go_wp2
                  go_roundg (58 - (k + 1))
                  case measure => omega
                  case rel => exact ⟨k + 1, rfl, by omega, by rw [HCN.out], by rw [HCN.out], by rw [HCN.out], by go_num, HB.out⟩
              · have c1' : ¬ (ln : Int) < (n : Int) := by omega
                by_cases c3 : n = ln
                · have c3' : ((n : Int) == (ln : Int)) = true := by rw [beq_iff_eq]; omega
                  by_cases c2 : n = m.length
                  · have c2' : ((n : Int) == (N.size : Int)) = true := by rw [beq_iff_eq]; omega
                    have HCN : Hid (naF nmL s.data.toList (k + 1) = (k, ln, true)) := by
                      unfold Hid
                      rw [naF, HCK.out, HM.out]
                      unfold naS
                      simp only [HLc.out]
                      rw [if_neg c1, if_pos ⟨c3, c2⟩]
                    clear c3
                    clear c2
                    go_wp2
                    go_roundg (58 - (k + 1))
                    case measure => omega
                    case rel => exact ⟨k + 1, rfl, by omega, by rw [HCN.out], by rw [HCN.out], by rw [HCN.out], by go_num, HB.out⟩
                  · have c2' : ((n : Int) == (N.size : Int)) = false := by rw [beq_eq_false_iff_ne]; omega
                    have HCN : Hid (naF nmL s.data.toList (k + 1) = (kd, ln, ok)) := by
                      unfold Hid
                      rw [naF, HCK.out, HM.out]
                      unfold naS
                      simp only [HLc.out]
                      rw [if_neg c1, if_neg c1, if_neg (fun h => c2 h.2)]
                    clear c3
                    go_wp2
                    go_roundg (58 - (k + 1))
                    case measure => omega
                    case rel => exact ⟨k + 1, rfl, by omega, by rw [HCN.out], by rw [HCN.out], by rw [HCN.out], by go_num, HB.out⟩
                · have c3' : ((n : Int) == (ln : Int)) = false := by rw [beq_eq_false_iff_ne]; omega
                  have HCN : Hid (naF nmL s.data.toList (k + 1) = (kd, ln, ok)) := by
                    unfold Hid
                    rw [naF, HCK.out, HM.out]
                    unfold naS
                    simp only [HLc.out]
                    rw [if_neg c1, if_neg c1, if_neg (fun h => c3 h.1)]
                  go_wp2
                  go_roundg (58 - (k + 1))
                  case measure => omega
                  case rel => exact ⟨k + 1, rfl, by omega, by rw [HCN.out], by rw [HCN.out], by rw [HCN.out], by go_num, HB.out⟩
          · have e2' : ¬ (n : Int) < (s.size : Int) := by omega
            have HLc : Hid (lcp m s.data.toList = n) := by unfold Hid; omega
            clear hn hll
            obtain ⟨X, F, hX, hF, onto⟩ := class_of (fun x => Below wr.heap.size wr x) (Below.refl _ wr)
            have HFF : Hid (∀ y, Below wr.heap.size wr (F y)) := hF
            have HOn : Hid (∀ x, Below wr.heap.size wr x → ∃ y, x = F y) := fun x h => by obtain ⟨y, hy⟩ := onto x h; exact ⟨y, hy.symm⟩
            clear hF onto
            go_upto_region 5 with fail
            refine region_class F (by kernel_rfl) (by kernel_rfl) (by obtain ⟨x, hx⟩ := HOn.out _ (Below.refl _ _).drew; exact ⟨x, hx.symm⟩) ?_
            repeat (go_big_quiet_step (fail))
            refine wpQuiet_nil ?_
            rintro _ ⟨nq, rfl⟩
            have hfn := HFF.out nq
            obtain ⟨w4, hV⟩ : ∃ w4, F nq = w4 := ⟨_, rfl⟩
            rw [hV] at hfn
            rw [hV]
            have HB4 : Hid (Below v.heap.size v w4) := HB.out.trans (hfn.mono HB.out.size)
            clear HFF HOn hV hfn hX HB
            have HB : Hid (Below v.heap.size v w4) := HB4.out
            clear HB4
            by_cases c1 : ln < n
            · have c1' : (ln : Int) < (n : Int) := by omega
              by_cases c2 : n = m.length
              · have c2' : ((n : Int) == (N.size : Int)) = true := by rw [beq_iff_eq]; omega
                have HCN : Hid (naF nmL s.data.toList (k + 1) = (k, n, true)) := by
                  unfold Hid
                  rw [naF, HCK.out, HM.out]
                  unfold naS
                  simp only [HLc.out]
                  rw [if_pos c1, if_pos ⟨rfl, c2⟩]
                clear c2
                go_wp2
                go_roundg (58 - (k + 1))
                case measure => omega
                case rel => exact ⟨k + 1, rfl, by omega, by rw [HCN.out], by rw [HCN.out], by rw [HCN.out], by go_num, HB.out⟩
              · have c2' : ((n : Int) == (N.size : Int)) = false := by rw [beq_eq_false_iff_ne]; omega
                have HCN : Hid (naF nmL s.data.toList (k + 1) = (kd, n, false)) := by
                  unfold Hid
                  rw [naF, HCK.out, HM.out]
                  unfold naS
                  simp only [HLc.out]
                  rw [if_pos c1, if_pos c1, if_neg (fun h => c2 h.2)]
                go_wp2
                go_roundg (58 - (k + 1))
                case measure => omega
                case rel => exact ⟨k + 1, rfl, by omega, by rw [HCN.out], by rw [HCN.out], by rw [HCN.out], by go_num, HB.out⟩
            · have c1' : ¬ (ln : Int) < (n : Int) := by omega
              by_cases c3 : n = ln
              · have c3' : ((n : Int) == (ln : Int)) = true := by rw [beq_iff_eq]; omega
                by_cases c2 : n = m.length
                · have c2' : ((n : Int) == (N.size : Int)) = true := by rw [beq_iff_eq]; omega
                  have HCN : Hid (naF nmL s.data.toList (k + 1) = (k, ln, true)) := by
                    unfold Hid
                    rw [naF, HCK.out, HM.out]
                    unfold naS
                    simp only [HLc.out]
                    rw [if_neg c1, if_pos ⟨c3, c2⟩]
                  clear c3
                  clear c2
                  go_wp2
                  go_roundg (58 - (k + 1))
                  case measure => omega
                  case rel => exact ⟨k + 1, rfl, by omega, by rw [HCN.out], by rw [HCN.out], by rw [HCN.out], by go_num, HB.out⟩
                · have c2' : ((n : Int) == (N.size : Int)) = false := by rw [beq_eq_false_iff_ne]; omega
                  have HCN : Hid (naF nmL s.data.toList (k + 1) = (kd, ln, ok)) := by
                    unfold Hid
                    rw [naF, HCK.out, HM.out]
                    unfold naS
                    simp only [HLc.out]
                    rw [if_neg c1, if_neg c1, if_neg (fun h => c2 h.2)]
                  clear c3
                  go_wp2
                  go_roundg (58 - (k + 1))
                  case measure => omega
                  case rel => exact ⟨k + 1, rfl, by omega, by rw [HCN.out], by rw [HCN.out], by rw [HCN.out], by go_num, HB.out⟩
              · have c3' : ((n : Int) == (ln : Int)) = false := by rw [beq_eq_false_iff_ne]; omega
                have HCN : Hid (naF nmL s.data.toList (k + 1) = (kd, ln, ok)) := by
                  unfold Hid
                  rw [naF, HCK.out, HM.out]
                  unfold naS
                  simp only [HLc.out]
                  rw [if_neg c1, if_neg c1, if_neg (fun h => c3 h.1)]
                go_wp2
                go_roundg (58 - (k + 1))
                case measure => omega
                case rel => exact ⟨k + 1, rfl, by omega, by rw [HCN.out], by rw [HCN.out], by rw [HCN.out], by go_num, HB.out⟩
        · have e1' : ¬ (n : Int) < (N.size : Int) := by omega
          have HLc : Hid (lcp m s.data.toList = n) := by unfold Hid; omega
          clear hn hll
          obtain ⟨X, F, hX, hF, onto⟩ := class_of (fun x => Below wr.heap.size wr x) (Below.refl _ wr)
          have HFF : Hid (∀ y, Below wr.heap.size wr (F y)) := hF
          have HOn : Hid (∀ x, Below wr.heap.size wr x → ∃ y, x = F y) := fun x h => by obtain ⟨y, hy⟩ := onto x h; exact ⟨y, hy.symm⟩
          clear hF onto
          go_upto_region 5 with fail
          refine region_class F (by kernel_rfl) (by kernel_rfl) (by obtain ⟨x, hx⟩ := HOn.out _ (Below.refl _ _).drew; exact ⟨x, hx.symm⟩) ?_
          repeat (go_big_quiet_step (fail))
          refine wpQuiet_nil ?_
          rintro _ ⟨nq, rfl⟩
          have hfn := HFF.out nq
          obtain ⟨w4, hV⟩ : ∃ w4, F nq = w4 := ⟨_, rfl⟩
          rw [hV] at hfn
          rw [hV]
          have HB4 : Hid (Below v.heap.size v w4) := HB.out.trans (hfn.mono HB.out.size)
          clear HFF HOn hV hfn hX HB
          have HB : Hid (Below v.heap.size v w4) := HB4.out
          clear HB4
          by_cases c1 : ln < n
          · have c1' : (ln : Int) < (n : Int) := by omega
            by_cases c2 : n = m.length
            · have c2' : ((n : Int) == (N.size : Int)) = true := by rw [beq_iff_eq]; omega
              have HCN : Hid (naF nmL s.data.toList (k + 1) = (k, n, true)) := by
                unfold Hid
                rw [naF, HCK.out, HM.out]
                unfold naS
                simp only [HLc.out]
                rw [if_pos c1, if_pos ⟨rfl, c2⟩]
              clear c2
              go_wp2
              go_roundg (58 - (k + 1))
              case measure => omega
              case rel => exact ⟨k + 1, rfl, by omega, by rw [HCN.out], by rw [HCN.out], by rw [HCN.out], by go_num, HB.out⟩
            · have c2' : ((n : Int) == (N.size : Int)) = false := by rw [beq_eq_false_iff_ne]; omega
              have HCN : Hid (naF nmL s.data.toList (k + 1) = (kd, n, false)) := by
                unfold Hid
                rw [naF, HCK.out, HM.out]
                unfold naS
                simp only [HLc.out]
                rw [if_pos c1, if_pos c1, if_neg (fun h => c2 h.2)]
              go_wp2
              go_roundg (58 - (k + 1))
              case measure => omega
              case rel => exact ⟨k + 1, rfl, by omega, by rw [HCN.out], by rw [HCN.out], by rw [HCN.out], by go_num, HB.out⟩
          · have c1' : ¬ (ln : Int) < (n : Int) := by omega
            by_cases c3 : n = ln
            · have c3' : ((n : Int) == (ln : Int)) = true := by rw [beq_iff_eq]; omega
              by_cases c2 : n = m.length
              · have c2' : ((n : Int) == (N.size : Int)) = true := by rw [beq_iff_eq]; omega
                have HCN : Hid (naF nmL s.data.toList (k + 1) = (k, ln, true)) := by
                  unfold Hid
                  rw [naF, HCK.out, HM.out]
                  unfold naS
                  simp only [HLc.out]
                  rw [if_neg c1, if_pos ⟨c3, c2⟩]
                clear c3
                clear c2
                go_wp2
                go_roundg (58 - (k + 1))
                case measure => omega
                case rel => exact ⟨k + 1, rfl, by omega, by rw [HCN.out], by rw [HCN.out], by rw [HCN.out], by go_num, HB.out⟩
              · have c2' : ((n : Int) == (N.size : Int)) = false := by rw [beq_eq_false_iff_ne]; omega
                have HCN : Hid (naF nmL s.data.toList (k + 1) = (kd, ln, ok)) := by
                  unfold Hid
                  rw [naF, HCK.out, HM.out]
                  unfold naS
                  simp only [HLc.out]
                  rw [if_neg c1, if_neg c1, if_neg (fun h => c2 h.2)]
                clear c3
                go_wp2
                go_roundg (58 - (k + 1))
                case measure => omega
                case rel => exact ⟨k + 1, rfl, by omega, by rw [HCN.out], by rw [HCN.out], by rw [HCN.out], by go_num, HB.out⟩
            · have c3' : ((n : Int) == (ln : Int)) = false := by rw [beq_eq_false_iff_ne]; omega
              have HCN : Hid (naF nmL s.data.toList (k + 1) = (kd, ln, ok)) := by
                unfold Hid
                rw [naF, HCK.out, HM.out]
                unfold naS
                simp only [HLc.out]
                rw [if_neg c1, if_neg c1, if_neg (fun h => c3 h.1)]
              go_wp2
              go_roundg (58 - (k + 1))
              case measure => omega
              case rel => exact ⟨k + 1, rfl, by omega, by rw [HCN.out], by rw [HCN.out], by rw [HCN.out], by go_num, HB.out⟩
    · have hlt' : ¬ (k : Int) < 58 := by omega
      have hke : k = 58 := by omega
      subst hke
      have HZ : Hid (naF nmL s.data.toList 58 = (KD, LN, OK)) := HQ.out
      go_wp2
      go_ret3
      exact ⟨by rw [HZ.out]; rfl, HB.out⟩
end Go.Proofs.YtaploloedocgbaaDoor
