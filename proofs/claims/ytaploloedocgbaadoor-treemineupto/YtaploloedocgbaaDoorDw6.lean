import Derived.Test.YtaploloedocgbaaDoorDw8
import Derived.Test.YtaploloedocgbaaDoorDw3
namespace Go.Proofs.YtaploloedocgbaaDoor
open Go.ChangeShapes Go.WideShapes Go.ChangeAt Go.RowKit
set_option linter.unusedVariables false

theorem DrS.finO {B : Nat} {w0 wr : World} {l : List Nd} {op : List Nat} {g cn n b : Nat} {a : Option Addr} {cap : Nat} (h : DrS B w0 wr l op (.slice (some ⟨g, 0, none⟩) n cn) a cap) (hb : b < B) (x : Value) : (wr.setCell ⟨b, 0, none⟩ x).ownsRow b 57 4 (.slice (some ⟨g, 0, none⟩) l.length cn) l.length (flat l) := by
  have hn : n = l.length := by
    obtain ⟨a9, c9, h1, -, -, -⟩ := own_form h.nod
    simp only [Value.slice.injEq] at h1
    exact h1.2.1
  subst hn
  exact own_base (ownsRow_setCell_other h.nod (a := ⟨b, 0, none⟩) (fun h1 => by have := (h.nod.lt b h1).1; omega) x) (by omega)

set_option maxRecDepth 1000000 in
set_option maxHeartbeats 4000000 in
theorem draw_own (nmL : List (List UInt8)) (hlen : nmL.length = 58) (hm : ∀ i, (nmL.getD i []).length ≤ 12) (hn : ∀ i, i < nmL.length → nmL.getD i [] ≠ []) (s : ByteArray) (v0 : World) (hs : s.size ≤ 16777216) (t0 : TypeId) (fr : Nat × Nat) (hA : v0.heap[0]? = some (.cells (nmA nmL) t0 fr)) (L : List Nd) (E : Int) (P : Nat) (hq : dr nmL s.data.toList (s.size + 1) 0 [] [] = (L, E, P)) :
    Calls Tryd.prog 10 #[.string s] v0 fun e w' => ∃ a cap, e = .returned (.tuple #[.agg #[.slice a L.length cap], .int .i64 E, .int .i64 (P : Int)]) ∧ w'.ownsRow v0.heap.size 57 4 (.slice a L.length cap) L.length (flat L) ∧ Below v0.heap.size v0 w' := by
  obtain ⟨i0, hi, hz0, hz1, hz2⟩ := info_parts infoInt
  obtain ⟨i1, hj, hy0, hy1, hy2⟩ := info_parts infoNode
  obtain ⟨v, e0, hw0, hs0, B0⟩ := bx1 v0 #[.slice none 0 0] 25
  have HE0 : Hid (v0.alloc (.cells #[.slice none 0 0] 25) = v) := e0
  have HW0 : Hid (Below v0.heap.size v0 v) := hw0
  have HX0 : Hid (Bx v v0.heap.size #[.slice none 0 0] 25) := B0
  obtain ⟨b0, hb0⟩ : ∃ b0, v0.heap.size = b0 := ⟨_, rfl⟩
  have HQ : Hid (dr nmL s.data.toList (s.size + 1) 0 [] [] = (L, E, P)) := hq
  have hsl := dlen s
  have HSL : Hid (s.data.toList.length = s.size) := hsl
  have HA : Hid (v.heap[0]? = some (.cells (nmA nmL) t0 fr)) := (hw0.block _ (lt_of_block hA)).trans hA
  have HNA : Hid (∀ (X : ByteArray) (x : World) (KD LN : Nat) (OK : Bool), X.size ≤ s.size → Below v.heap.size v x → naF nmL X.data.toList 58 = (KD, LN, OK) → Calls Tryd.prog 31 #[.string X] x fun e w' => e = .returned (.tuple #[.int .u8 (KD : Int), .int .i64 (LN : Int), .bool OK]) ∧ Below x.heap.size x w') := fun X x KD LN OK h1 h2 h3 =>
    nameAt_any nmL hlen hm X x (by omega) t0 fr ((h2.block _ (lt_of_block HA.out)).trans HA.out) KD LN OK h3
  have HNF : Hid (∀ (y : List UInt8) (KD LN : Nat) (OK : Bool), naF nmL y 58 = (KD, LN, OK) → LN ≤ y.length ∧ (OK = true → 0 < LN ∧ KD < 58)) := fun y KD LN OK h => na_facts hlen hn h
  obtain ⟨B, hB⟩ : ∃ B, v.heap.size = B := ⟨_, rfl⟩
  have hbB : b0 < B := by omega
  rw [hB] at HNA hs0
  have HBF : Hid (∀ x, Below B v x → Below v0.heap.size v0 x) := fun x hx => HW0.out.trans (hx.mono (by omega))
  have HBX : Hid (∀ x, Below B v x → Bx x b0 #[.slice none 0 0] 25) := fun x hx => hb0 ▸ HX0.out.below hx (by omega)
  clear hq hA hn hm hsl hw0 B0 e0
  rw [hb0] at HBF HW0 HX0 ⊢
  go_enter Tryd.func10, Tryd.ntmps10
  go_wp2
  rw [HE0.out]
  go_loopg [5, 6, 7] (s.size + 1) (fun gk vn vo si wr => ∃ (m i : Nat) (l : List Nd) (op : List Nat) (a : Option Addr) (cap : Nat), gk = m ∧ s.size + 1 ≤ m + i ∧ i ≤ s.size ∧ l.length ≤ i ∧ op.length ≤ i ∧ vo = .slice a op.length cap ∧ si = .int .i64 (i : Int) ∧ (∀ t ∈ op, t < l.length) ∧ dr nmL s.data.toList m i l op = (L, E, P) ∧ DrS B v wr l op vn a cap)
  case atStart => exact ⟨s.size + 1, 0, [], [], none, 0, rfl, by omega, by omega, by simp, by simp, rfl, rfl, by simp, HQ.out, DrS.init B v hB.symm⟩
  case round =>
    obtain ⟨m, i, l, op, a, cap, rfl, hmi, his, hli, hoi, rfl, rfl, hto, hdr, hS⟩ := hrel
    have SR : Hid (DrS B v wr l op u5 a cap) := hS
    have HTO : Hid (∀ t ∈ op, t < l.length) := hto
    have HDR : Hid (dr nmL s.data.toList gk i l op = (L, E, P)) := hdr
    clear hS hto hdr
    obtain ⟨m, rfl⟩ : ∃ m, gk = m + 1 := ⟨gk - 1, by omega⟩
    obtain ⟨X, hX⟩ : ∃ X, s.extract i s.size = X := ⟨_, rfl⟩
    have hX1 : X.data.toList = s.data.toList.drop i := by rw [← hX, Lib.extract_data, List.take_of_length_le (by rw [List.length_drop, HSL.out]; omega)]
    obtain ⟨kd, ln, ok, hna⟩ : ∃ a b c, naF nmL X.data.toList 58 = (a, b, c) := ⟨_, _, _, rfl⟩
    have HNX : Hid (naF nmL (s.data.toList.drop i) 58 = (kd, ln, ok)) := by unfold Hid; rw [← hX1]; exact hna
    have hln : ln ≤ s.size - i ∧ (ok = true → 0 < ln ∧ kd < 58) := by
      have := HNF.out _ _ _ _ HNX.out
      rw [List.length_drop, HSL.out] at this
      exact this
    have hXs : X.size ≤ s.size := by rw [← dlen, hX1, List.length_drop, HSL.out]; omega
    have HNC : Hid (∀ x, Below B v x → Calls Tryd.prog 31 #[.string X] x fun e w' => e = .returned (.tuple #[.int .u8 (kd : Int), .int .i64 (ln : Int), .bool ok]) ∧ Below x.heap.size x w') := fun x hx => HNA.out X x kd ln ok hXs hx hna
    obtain ⟨p, hp⟩ : ∃ p, i + ln = p := ⟨_, rfl⟩
    have mk : IntKind.i64.wrap ((i : Int) + (ln : Int)) = (p : Int) := by rw [IntWalk.i64_in _ ⟨by omega, by omega⟩]; omega
    have hps : p ≤ s.size := by omega
    clear hX1 hna hXs
    cases ok with
    | false =>
      have HZ : Hid (([], 40, p) = (L, E, P)) := by unfold Hid; rw [← HDR.out, dr_no HNX.out, hp]
      clear HDR
      go_wp2_with (go_at_call 31; (with_reducible refine (HNC.out _ SR.out.bel).mono ?_); rintro e w1 ⟨rfl, hb⟩; have S1 : Hid (DrS B v w1 l op u5 a cap) := SR.out.below hb; have x1 := (HBX.out _ S1.out.bel).one; have f1 := (HBX.out _ S1.out.bel).free 0; clear hb)
      refine bodyPost_ret (v := .tuple #[.agg #[.slice none 0 0], .int .i64 40, .int .i64 (p : Int)]) (by simp [results, Tryd.results10, go_sem, x1]) rfl ?_
      obtain ⟨rfl, rfl, rfl⟩ : [] = L ∧ 40 = E ∧ p = P := by have := HZ.out; simp only [Prod.mk.injEq] at this; exact this
      exact ⟨none, 0, rfl, World.ownsRow_nil _ _ _ _, (HBF.out _ S1.out.bel).setCell (p := ⟨b0, 0, none⟩) (Nat.le_refl _) _⟩
    | true =>
      have hl2 := hln.2 rfl
      have hm1 : l.length + 1 ≤ p := by omega
      have hm2 : op.length + 1 ≤ p := by omega
      by_cases hpo : s.data.toList[p]? = some 40
      · have hps' : p < s.size := by rw [← HSL.out]; exact (List.getElem?_eq_some_iff.1 hpo).1
        have hps1 : (p : Int) < (s.size : Int) := by omega
        obtain ⟨y, hy⟩ : ∃ y, s[p]'hps' = y := ⟨_, rfl⟩
        have hyy : y = 40 := by
          have h1 : s.data.toList[p]? = some y := by rw [List.getElem?_eq_getElem (by rw [HSL.out]; exact hps'), ← hy]; rfl
          rw [hpo] at h1
          exact (Option.some.inj h1).symm
        have t1 : ((y.toNat : Int) == 40) = true := by rw [hyy]; rfl
        have HDN : Hid (dr nmL s.data.toList m (p + 1) (l ++ [mkN kd]) (l.length :: op) = (L, E, P)) := by
          unfold Hid; rw [← HDR.out, dr_open HNX.out (by rw [hp]; exact hpo), hp]
        clear HDR hyy hpo
        go_wp2_with (first
          | (go_at_call 31; (with_reducible refine (HNC.out _ SR.out.bel).mono ?_); rintro e w1 ⟨rfl, hb⟩; have S1 : Hid (DrS B v w1 l op u5 a cap) := SR.out.below hb; clear hb)
          | (at_builtin; (refine wpList_append_own_any _ rfl _ _ 23 rfl B 57 i1 (.agg #[.int .u8 0, .int .i64 0, .int .i64 0, .int .i64 0]) 4 32 Tryd.underlying23 hj hy0 hy1 hy2 rfl (by decide) _ _ _ rfl (S1.out.nod.alloc _) (some ⟨w1.heap.size, 0, none⟩) 1 1 (flat [mkN kd]) rfl (by rfl) (fun h => by cases h) (fun ad had => by cases had; exact cells_new w1 (flat [mkN kd]) 57) (flat_oneCell _) (by unfold maxLen; omega) (by omega) (by have := S1.out.sz; simp; omega) ?_); intro v2 w2 hown hgrow; obtain ⟨g, cn, rfl, h9⟩ := S1.out.node hown hgrow; have S2 : Hid (DrS B v w2 (l ++ [mkN kd]) op (.slice (some ⟨g, 0, none⟩) (l.length + 1) cn) a cap) := h9; clear hown hgrow h9)
          | (at_builtin; (refine wpList_append_own_any _ rfl _ _ 39 rfl B 3 i0 (.int .i64 0) 1 8 Tryd.underlying39 hi hz0 hz1 hz2 rfl (by decide) _ _ _ rfl (S2.out.opn.alloc _) (some ⟨w2.heap.size, 0, none⟩) 1 1 (flat [(l.length : Int)]) rfl (by rfl) (fun h => by cases h) (fun ad had => by cases had; exact cells_new w2 (flat [(l.length : Int)]) 3) (flat_oneCell _) (by unfold maxLen; omega) (by omega) (by have := S2.out.sz; simp; omega) ?_); intro v3 w3 hown hgrow; obtain ⟨a9, c9, rfl, h9⟩ := S2.out.push (n := l.length) rfl hown hgrow; have S3 : Hid (DrS B v w3 (l ++ [mkN kd]) (l.length :: op) (.slice (some ⟨g, 0, none⟩) (l.length + 1) cn) a9 c9) := h9; clear hown hgrow h9))
        go_roundg m
        case measure => omega
        case rel => exact ⟨m, p + 1, l ++ [mkN kd], l.length :: op, a9, c9, rfl, by omega, by omega, by simp; omega, by simp; omega, rfl, by go_num, op_push HTO.out, HDN.out, S3.out⟩
      · obtain ⟨J, L', OP', hcl⟩ : ∃ a b c, cls s.data.toList op p (l ++ [mkN kd]) = (a, b, c) := ⟨_, _, _, rfl⟩
        have HDN : Hid ((if OP' = [] then (if J < s.size then ([], 40, J) else (L', 0, 0)) else if s.data.toList[J]? = some 32 then dr nmL s.data.toList m (J + 1) L' OP' else ([], 40, J)) = (L, E, P)) := by
          have h2 : cls s.data.toList op (i + ln) (l ++ [mkN kd]) = (J, L', OP') := by rw [hp]; exact hcl
          have h1 := dr_cls (m := m) HNX.out (by rw [hp]; exact hpo) h2
          rw [HDR.out, HSL.out] at h1
          exact h1.symm
        have HCL : Hid (cls s.data.toList op p (l ++ [mkN kd]) = (J, L', OP')) := hcl
        have HPO : Hid (¬ s.data.toList[p]? = some 40) := hpo
        have hpo2 : ∀ y, s.data.toList[p]? = some y → ((y.toNat : Int) == 40) = false := fun y h => by
          rw [beq_eq_false_iff_ne]; intro h1
          exact hpo (by rw [h, show y = 40 from UInt8.toNat_inj.1 (by show y.toNat = 40; omega)])
        clear HDR hcl hpo
        by_cases hpe : p < s.size
        · have hps1 : (p : Int) < (s.size : Int) := by omega
          obtain ⟨y, hy⟩ : ∃ y, s[p]'hpe = y := ⟨_, rfl⟩
          have t1 := hpo2 y (by rw [List.getElem?_eq_getElem (by rw [HSL.out]; exact hpe), ← hy]; rfl)
          clear hpo2
          go_wp2_with (first
            | (go_at_call 31; (with_reducible refine (HNC.out _ SR.out.bel).mono ?_); rintro e w1 ⟨rfl, hb⟩; have S1 : Hid (DrS B v w1 l op u5 a cap) := SR.out.below hb; clear hb)
            | (at_builtin; (refine wpList_append_own_any _ rfl _ _ 23 rfl B 57 i1 (.agg #[.int .u8 0, .int .i64 0, .int .i64 0, .int .i64 0]) 4 32 Tryd.underlying23 hj hy0 hy1 hy2 rfl (by decide) _ _ _ rfl (S1.out.nod.alloc _) (some ⟨w1.heap.size, 0, none⟩) 1 1 (flat [mkN kd]) rfl (by rfl) (fun h => by cases h) (fun ad had => by cases had; exact cells_new w1 (flat [mkN kd]) 57) (flat_oneCell _) (by unfold maxLen; omega) (by omega) (by have := S1.out.sz; simp; omega) ?_); intro v2 w2 hown hgrow; obtain ⟨g, cn, rfl, h9⟩ := S1.out.node hown hgrow; have S2 : Hid (DrS B v w2 (l ++ [mkN kd]) op (.slice (some ⟨g, 0, none⟩) (l.length + 1) cn) a cap) := h9; clear hown hgrow h9))
          clear t1 hy hps1
          go_loopg [6, 7] op.length (fun gk so sj wi => ∃ (op2 : List Nat) (j : Nat) (l2 : List Nd), gk = op2.length ∧ so = .slice a op2.length cap ∧ sj = .int .i64 (j : Int) ∧ p ≤ j ∧ j ≤ s.size ∧ op2.length ≤ op.length ∧ l2.length = l.length + 1 ∧ (∀ t ∈ op2, t < l.length + 1) ∧ cls s.data.toList op2 j l2 = (J, L', OP') ∧ DrS B v wi l2 op2 (.slice (some ⟨g, 0, none⟩) (l.length + 1) cn) a cap)
          case atStart => exact ⟨op, p, l ++ [mkN kd], rfl, rfl, rfl, Nat.le_refl _, hps, Nat.le_refl _, by simp, op_more (x := mkN kd) HTO.out, HCL.out, S2.out⟩
          case round =>
            obtain ⟨op2, j, l2, rfl, rfl, rfl, hpj, hjs, hol, hll, hto2, hcl2, hS2⟩ := hrel
            have SI : Hid (DrS B v wr l2 op2 (.slice (some ⟨g, 0, none⟩) (l.length + 1) cn) a cap) := hS2
            have HT2 : Hid (∀ t ∈ op2, t < l.length + 1) := hto2
            have HC2 : Hid (cls s.data.toList op2 j l2 = (J, L', OP')) := hcl2
            have HL2 : Hid (l2.length = l.length + 1) := hll
            have HBS : Hid (Below b0 v0 wr) := HBF.out _ SI.out.bel
            have x0 := (HBX.out _ SI.out.bel).one
            have f0 := (HBX.out _ SI.out.bel).free 0
            clear hS2 hto2 hcl2 hll HCL S2 SR S1 HNC HNX HX0
            cases op2 with
            | nil =>
              have HE : Hid (J = j ∧ L' = l2 ∧ OP' = []) := by
                have := HC2.out
                rw [cls_nil] at this
                simp only [Prod.mk.injEq] at this
                exact ⟨this.1.symm, this.2.1.symm, this.2.2.symm⟩
              clear HC2
              by_cases hje : j < s.size
              · have hje1 : (j : Int) < (s.size : Int) := by omega
                have HZ : Hid (([], 40, j) = (L, E, P)) := by
                  have := HDN.out
                  rw [HE.out.1, HE.out.2.2, if_pos rfl, if_pos hje] at this
                  exact this
                clear HDN
                go_wp2
                refine bodyPost_ret (v := .tuple #[.agg #[.slice none 0 0], .int .i64 40, .int .i64 (j : Int)]) (by simp [results, Tryd.results10, go_sem, x0]) rfl ?_
                obtain ⟨rfl, rfl, rfl⟩ : [] = L ∧ 40 = E ∧ j = P := by have := HZ.out; simp only [Prod.mk.injEq] at this; exact this
                exact ⟨none, 0, rfl, World.ownsRow_nil _ _ _ _, HBS.out.setCell (p := ⟨b0, 0, none⟩) (Nat.le_refl _) _⟩
              · have hje1 : ¬ (j : Int) < (s.size : Int) := by omega
                have HZ : Hid ((l2, 0, 0) = (L, E, P)) := by
                  have := HDN.out
                  rw [HE.out.1, HE.out.2.1, HE.out.2.2, if_pos rfl, if_neg hje] at this
                  exact this
                clear HDN
                go_wp2
                refine bodyPost_ret (v := .tuple #[.agg #[.slice (some ⟨g, 0, none⟩) (l.length + 1) cn], .int .i64 0, .int .i64 0]) (by simp [results, Tryd.results10, go_sem, x0]) rfl ?_
                obtain ⟨rfl, rfl, rfl⟩ : l2 = L ∧ 0 = E ∧ 0 = P := by have := HZ.out; simp only [Prod.mk.injEq] at this; exact this
                exact ⟨some ⟨g, 0, none⟩, cn, by rw [HL2.out]; rfl, SI.out.finO hbB _, HBS.out.setCell (p := ⟨b0, 0, none⟩) (Nat.le_refl _) _⟩
            | cons t r =>
              have how := SI.out.opn
              rw [List.length_cons, rv_cons, flat_append, flat_int [(t : Int)]] at how
              obtain ⟨g2, rfl, hcell⟩ := own_at how
              have hcp := own_cap how
              obtain ⟨q, hq⟩ : ∃ q, r.length = q := ⟨_, rfl⟩
              simp only [List.length_cons, hq] at hol hcp ⊢
              rw [hq] at hcell
              have hcp' : (q : Int) ≤ (cap : Int) := by omega
              have hk0 : (0 : Int) < (q : Int) + 1 := by omega
              have hkc : (q : Int) < (q : Int) + 1 := by omega
              have m1 : IntKind.i64.wrap ((q : Int)) = (q : Int) := IntWalk.i64_in _ ⟨by omega, by omega⟩
              clear how
              by_cases hje : j < s.size
              · have hje1 : (j : Int) < (s.size : Int) := by omega
                have hje2 : ((j : Int) == (s.size : Int)) = false := by rw [beq_eq_false_iff_ne]; omega
                obtain ⟨z, hz⟩ : ∃ z, s[j]'hje = z := ⟨_, rfl⟩
                have hzz : s.data.toList[j]? = some z := by rw [List.getElem?_eq_getElem (by rw [HSL.out]; exact hje), ← hz]; rfl
                by_cases e1 : z = 41
                · have t1 : ((z.toNat : Int) == 41) = true := by rw [e1]; rfl
                  have HC3 : Hid (cls s.data.toList r (j + 1) (szN l2 t) = (J, L', OP')) := by
                    unfold Hid; rw [← HC2.out, cls_yes t r l2 (by rw [hzz, e1])]
                  have htl : t < l2.length := by rw [HL2.out]; exact HT2.out t (List.mem_cons_self)
                  have htl1 : (t : Int) < (l.length : Int) + 1 := by have := HL2.out; omega
                  have htl2 : (0 : Int) ≤ (t : Int) := by omega
                  have hnod := SI.out.nod
                  rw [HL2.out] at hnod
                  have hnd : Lies wr g 0 l2 := Lies.own hnod
                  obtain ⟨x3, hx3⟩ : ∃ x, l2[t]? = some x := ⟨_, List.getElem?_eq_getElem htl⟩
                  have d3 := (hnd.nd (Below.refl _ _) hx3).2.2.2
                  simp only [Nat.zero_add] at d3
                  have f3 := hnod.frozenAt (t * 4 + 3)
                  have m2 : IntKind.i64.wrap ((l.length : Int) + 1 - (t : Int)) = (l.length : Int) + 1 - (t : Int) := IntWalk.i64_in _ ⟨by omega, by omega⟩
                  obtain ⟨w5, e5⟩ : ∃ w5, wr.setCell ⟨g, t * 4 + 3, none⟩ (.int .i64 ((l.length : Int) + 1 - (t : Int))) = w5 := ⟨_, rfl⟩
                  have HE5 : Hid (wr.setCell ⟨g, t * 4 + 3, none⟩ (.int .i64 ((l.length : Int) + 1 - (t : Int))) = w5) := e5
                  have S5 : Hid (DrS B v w5 (szN l2 t) r (.slice (some ⟨g, 0, none⟩) (l.length + 1) cn) (some ⟨g2, 0, none⟩) cap) := by
                    unfold Hid; rw [← e5]
                    exact (SI.out.size htl (by have := HL2.out; omega)).less
                  clear HC2 hzz e1 hnd htl e5 x0 f0 hnod hx3
                  go_wp2
                  rw [HE5.out]
                  go_roundg r.length
                  case measure => first | omega | (simp only [List.length_cons]; omega) | (rw [hq]; omega)
                  case rel => exact ⟨r, j + 1, szN l2 t, rfl, by rw [hq], by go_num, by omega, by omega, by omega, by rw [szN_len]; exact HL2.out, fun t ht => HT2.out t (List.mem_cons_of_mem _ ht), HC3.out, S5.out⟩
                · have t1 : ((z.toNat : Int) == 41) = false := by rw [beq_eq_false_iff_ne]; intro h; exact e1 (UInt8.toNat_inj.1 (by show z.toNat = 41; omega))
                  have HE : Hid (J = j ∧ L' = l2 ∧ OP' = t :: r) := by
                    have := HC2.out
                    rw [cls_no t r l2 (by rw [hzz]; intro h; exact e1 (Option.some.inj h))] at this
                    simp only [Prod.mk.injEq] at this
                    exact ⟨this.1.symm, this.2.1.symm, this.2.2.symm⟩
                  clear HC2 e1
                  by_cases e2 : z = 32
                  · have t2 : ((z.toNat : Int) != 32) = false := by rw [e2]; rfl
                    have HD2 : Hid (dr nmL s.data.toList m (j + 1) l2 (t :: r) = (L, E, P)) := by
                      have := HDN.out
                      rw [HE.out.1, HE.out.2.1, HE.out.2.2, if_neg (by simp), if_pos (by rw [hzz, e2])] at this
                      exact this
                    clear HDN HE hzz e2
                    go_wp2
                    go_roundg m
                    case measure => omega
                    case rel => exact ⟨m, j + 1, l2, t :: r, some ⟨g2, 0, none⟩, cap, rfl, by omega, by omega, by have := HL2.out; omega, by simp only [List.length_cons]; omega, by simp only [List.length_cons, hq], by go_num, by rw [HL2.out]; exact HT2.out, HD2.out, SI.out⟩
                  · have t2 : ((z.toNat : Int) != 32) = true := by rw [bne_iff_ne]; intro h; exact e2 (UInt8.toNat_inj.1 (by show z.toNat = 32; omega))
                    have HZ : Hid (([], 40, j) = (L, E, P)) := by
                      have := HDN.out
                      rw [HE.out.1, HE.out.2.2, if_neg (by simp), if_neg (by rw [hzz]; intro h; exact e2 (Option.some.inj h))] at this
                      exact this
                    clear HDN HE hzz e2
                    go_wp2
                    refine bodyPost_ret (v := .tuple #[.agg #[.slice none 0 0], .int .i64 40, .int .i64 (j : Int)]) (by simp [results, Tryd.results10, go_sem, x0]) rfl ?_
                    obtain ⟨rfl, rfl, rfl⟩ : [] = L ∧ 40 = E ∧ j = P := by have := HZ.out; simp only [Prod.mk.injEq] at this; exact this
                    exact ⟨none, 0, rfl, World.ownsRow_nil _ _ _ _, HBS.out.setCell (p := ⟨b0, 0, none⟩) (Nat.le_refl _) _⟩
              · have hje1 : ¬ (j : Int) < (s.size : Int) := by omega
                have hje2 : ((j : Int) == (s.size : Int)) = true := by rw [beq_iff_eq]; omega
                have hno : s.data.toList[j]? = none := List.getElem?_eq_none (by rw [HSL.out]; omega)
                have HE : Hid (J = j ∧ L' = l2 ∧ OP' = t :: r) := by
                  have := HC2.out
                  rw [cls_no t r l2 (by rw [hno]; simp)] at this
                  simp only [Prod.mk.injEq] at this
                  exact ⟨this.1.symm, this.2.1.symm, this.2.2.symm⟩
                have HZ : Hid (([], 40, j) = (L, E, P)) := by
                  have := HDN.out
                  rw [HE.out.1, HE.out.2.2, if_neg (by simp), if_neg (by rw [hno]; simp)] at this
                  exact this
                clear HDN HE hno HC2
                go_wp2
                refine bodyPost_ret (v := .tuple #[.agg #[.slice none 0 0], .int .i64 40, .int .i64 (j : Int)]) (by simp [results, Tryd.results10, go_sem, x0]) rfl ?_
                obtain ⟨rfl, rfl, rfl⟩ : [] = L ∧ 40 = E ∧ j = P := by have := HZ.out; simp only [Prod.mk.injEq] at this; exact this
                exact ⟨none, 0, rfl, World.ownsRow_nil _ _ _ _, HBS.out.setCell (p := ⟨b0, 0, none⟩) (Nat.le_refl _) _⟩
        · have hps1 : ¬ (p : Int) < (s.size : Int) := by omega
          clear hpo2
          go_wp2_with (first
            | (go_at_call 31; (with_reducible refine (HNC.out _ SR.out.bel).mono ?_); rintro e w1 ⟨rfl, hb⟩; have S1 : Hid (DrS B v w1 l op u5 a cap) := SR.out.below hb; clear hb)
            | (at_builtin; (refine wpList_append_own_any _ rfl _ _ 23 rfl B 57 i1 (.agg #[.int .u8 0, .int .i64 0, .int .i64 0, .int .i64 0]) 4 32 Tryd.underlying23 hj hy0 hy1 hy2 rfl (by decide) _ _ _ rfl (S1.out.nod.alloc _) (some ⟨w1.heap.size, 0, none⟩) 1 1 (flat [mkN kd]) rfl (by rfl) (fun h => by cases h) (fun ad had => by cases had; exact cells_new w1 (flat [mkN kd]) 57) (flat_oneCell _) (by unfold maxLen; omega) (by omega) (by have := S1.out.sz; simp; omega) ?_); intro v2 w2 hown hgrow; obtain ⟨g, cn, rfl, h9⟩ := S1.out.node hown hgrow; have S2 : Hid (DrS B v w2 (l ++ [mkN kd]) op (.slice (some ⟨g, 0, none⟩) (l.length + 1) cn) a cap) := h9; clear hown hgrow h9))
          clear hps1
          go_loopg [6, 7] op.length (fun gk so sj wi => ∃ (op2 : List Nat) (j : Nat) (l2 : List Nd), gk = op2.length ∧ so = .slice a op2.length cap ∧ sj = .int .i64 (j : Int) ∧ p ≤ j ∧ j ≤ s.size ∧ op2.length ≤ op.length ∧ l2.length = l.length + 1 ∧ (∀ t ∈ op2, t < l.length + 1) ∧ cls s.data.toList op2 j l2 = (J, L', OP') ∧ DrS B v wi l2 op2 (.slice (some ⟨g, 0, none⟩) (l.length + 1) cn) a cap)
          case atStart => exact ⟨op, p, l ++ [mkN kd], rfl, rfl, rfl, Nat.le_refl _, hps, Nat.le_refl _, by simp, op_more (x := mkN kd) HTO.out, HCL.out, S2.out⟩
          case round =>
            obtain ⟨op2, j, l2, rfl, rfl, rfl, hpj, hjs, hol, hll, hto2, hcl2, hS2⟩ := hrel
            have SI : Hid (DrS B v wr l2 op2 (.slice (some ⟨g, 0, none⟩) (l.length + 1) cn) a cap) := hS2
            have HT2 : Hid (∀ t ∈ op2, t < l.length + 1) := hto2
            have HC2 : Hid (cls s.data.toList op2 j l2 = (J, L', OP')) := hcl2
            have HL2 : Hid (l2.length = l.length + 1) := hll
            have HBS : Hid (Below b0 v0 wr) := HBF.out _ SI.out.bel
            have x0 := (HBX.out _ SI.out.bel).one
            have f0 := (HBX.out _ SI.out.bel).free 0
            clear hS2 hto2 hcl2 hll HCL S2 SR S1 HNC HNX HX0
            cases op2 with
            | nil =>
              have HE : Hid (J = j ∧ L' = l2 ∧ OP' = []) := by
                have := HC2.out
                rw [cls_nil] at this
                simp only [Prod.mk.injEq] at this
                exact ⟨this.1.symm, this.2.1.symm, this.2.2.symm⟩
              clear HC2
              by_cases hje : j < s.size
              · exfalso; omega
              · have hje1 : ¬ (j : Int) < (s.size : Int) := by omega
                have HZ : Hid ((l2, 0, 0) = (L, E, P)) := by
                  have := HDN.out
                  rw [HE.out.1, HE.out.2.1, HE.out.2.2, if_pos rfl, if_neg hje] at this
                  exact this
                clear HDN
                go_wp2
                refine bodyPost_ret (v := .tuple #[.agg #[.slice (some ⟨g, 0, none⟩) (l.length + 1) cn], .int .i64 0, .int .i64 0]) (by simp [results, Tryd.results10, go_sem, x0]) rfl ?_
                obtain ⟨rfl, rfl, rfl⟩ : l2 = L ∧ 0 = E ∧ 0 = P := by have := HZ.out; simp only [Prod.mk.injEq] at this; exact this
                exact ⟨some ⟨g, 0, none⟩, cn, by rw [HL2.out]; rfl, SI.out.finO hbB _, HBS.out.setCell (p := ⟨b0, 0, none⟩) (Nat.le_refl _) _⟩
            | cons t r =>
              have how := SI.out.opn
              rw [List.length_cons, rv_cons, flat_append, flat_int [(t : Int)]] at how
              obtain ⟨g2, rfl, hcell⟩ := own_at how
              have hcp := own_cap how
              obtain ⟨q, hq⟩ : ∃ q, r.length = q := ⟨_, rfl⟩
              simp only [List.length_cons, hq] at hol hcp ⊢
              rw [hq] at hcell
              have hcp' : (q : Int) ≤ (cap : Int) := by omega
              have hk0 : (0 : Int) < (q : Int) + 1 := by omega
              have hkc : (q : Int) < (q : Int) + 1 := by omega
              have m1 : IntKind.i64.wrap ((q : Int)) = (q : Int) := IntWalk.i64_in _ ⟨by omega, by omega⟩
              clear how
              by_cases hje : j < s.size
              · exfalso; omega
              · have hje1 : ¬ (j : Int) < (s.size : Int) := by omega
                have hje2 : ((j : Int) == (s.size : Int)) = true := by rw [beq_iff_eq]; omega
                have hno : s.data.toList[j]? = none := List.getElem?_eq_none (by rw [HSL.out]; omega)
                have HE : Hid (J = j ∧ L' = l2 ∧ OP' = t :: r) := by
                  have := HC2.out
                  rw [cls_no t r l2 (by rw [hno]; simp)] at this
                  simp only [Prod.mk.injEq] at this
                  exact ⟨this.1.symm, this.2.1.symm, this.2.2.symm⟩
                have HZ : Hid (([], 40, j) = (L, E, P)) := by
                  have := HDN.out
                  rw [HE.out.1, HE.out.2.2, if_neg (by simp), if_neg (by rw [hno]; simp)] at this
                  exact this
                clear HDN HE hno HC2
                go_wp2
                refine bodyPost_ret (v := .tuple #[.agg #[.slice none 0 0], .int .i64 40, .int .i64 (j : Int)]) (by simp [results, Tryd.results10, go_sem, x0]) rfl ?_
                obtain ⟨rfl, rfl, rfl⟩ : [] = L ∧ 40 = E ∧ j = P := by have := HZ.out; simp only [Prod.mk.injEq] at this; exact this
                exact ⟨none, 0, rfl, World.ownsRow_nil _ _ _ _, HBS.out.setCell (p := ⟨b0, 0, none⟩) (Nat.le_refl _) _⟩
theorem draw_any (nmL : List (List UInt8)) (hlen : nmL.length = 58) (hm : ∀ i, (nmL.getD i []).length ≤ 12) (hn : ∀ i, i < nmL.length → nmL.getD i [] ≠ []) (s : ByteArray) (v0 : World) (hs : s.size ≤ 16777216) (t0 : TypeId) (fr : Nat × Nat) (hA : v0.heap[0]? = some (.cells (nmA nmL) t0 fr)) (L : List Nd) (E : Int) (P : Nat) (hq : dr nmL s.data.toList (s.size + 1) 0 [] [] = (L, E, P)) :
    Calls Tryd.prog 10 #[.string s] v0 fun e w' => ∃ a cap, e = .returned (.tuple #[.agg #[.slice a L.length cap], .int .i64 E, .int .i64 (P : Int)]) ∧ LiesA w' a L ∧ Below v0.heap.size v0 w' := by
  refine (draw_own nmL hlen hm hn s v0 hs t0 fr hA L E P hq).mono ?_
  rintro e w' ⟨a, cap, rfl, ho, hb⟩
  obtain ⟨a9, c9, h1, hl, -, -⟩ := own_form ho
  simp only [Value.slice.injEq] at h1
  obtain ⟨rfl, -, rfl⟩ := h1
  exact ⟨a, cap, rfl, hl, hb⟩
end Go.Proofs.YtaploloedocgbaaDoor
