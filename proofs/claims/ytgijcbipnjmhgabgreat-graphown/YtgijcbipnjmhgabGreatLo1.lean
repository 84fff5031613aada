import Derived.Test.YtgijcbipnjmhgabGreatWd1
import Derived.Test.YtgijcbipnjmhgabGreatWd2
import Derived.Test.YtgijcbipnjmhgabGreatBw0
import Derived.Test.YtgijcbipnjmhgabGreatReachesW
import Derived.Test.YtgijcbipnjmhgabGreatGc1
import Derived.Test.YtgijcbipnjmhgabGreatLo0
namespace Go.Proofs.YtgijcbipnjmhgabGreat
open Go.ChangeShapes Go.WideShapes Go.ChangeAt Go.RowKit Go.Shelf
set_option linter.unusedVariables false
set_option linter.unusedSimpArgs false
attribute [local go_sem] Oper.semAt_some

theorem wpListIn_make_full {F : Fence} {n : Nat} {P : Program} (w : World) {ops : Array Oper} {rest : List Oper} {o : Oper} {a : Act} {Q : Exit → Act → World → Prop}
    (hg : o.guard = none) (l c : Operand) (t : TypeId) (hop : o.op = Op.makeSlice t l c)
    (base : Nat) (e : TypeId) (i : TypeInfo) (z : Value) (size : Nat) (h1 : P.underlying t = some (.slice e)) (h2 : P.info? e = some i) (h3 : i.zero = some z) (h4 : i.size = size)
    (kl kc : IntKind) (L C : Int) (m : Nat) (hl : a.eval l = .int kl L) (hc : a.eval c = .int kc C) (hL : L = (m : Int)) (hC : C = (m : Int)) (b2 : i.bytes * m ≤ 281474976710656) (b3 : m ≤ maxLen) (b4 : base ≤ w.heap.size)
    (hK : ∀ w', w'.ownsRow base e size (.slice (some ⟨w.heap.size, 0, none⟩) m m) m (madeCells z.cells (m * size)).toList → w.grownBy w' none → wpListIn F n P ops Q rest (a.put o.dst (.slice (some ⟨w.heap.size, 0, none⟩) m m)) w') :
    wpListIn F n P ops Q (o :: rest) a w := by
  refine wpListIn_plain hg fun K hK' => ?_
  obtain ⟨w', hrun, r1, r2⟩ := run_make_full (P := P) w base t e i z size h1 h2 h3 h4 kl kc m b2 b3 b4
  subst hL
  subst hC
  unfold Oper.wpIn
  refine ⟨?_, ?_⟩
  · simp [Oper.about, hop]
  · rw [Oper.semAt_plain F _ _ (by rw [hop]; intro c hc'; cases hc')]
    simp [execOp, hop, hl, hc, hrun, Result.andThen]
    exact hK' _ _ (hK w' r1 r2)
theorem Ki.go {ps qs : List Pr} {n x : Nat} {t pre s s3 : List Nat} {m m2 : List Bool} {ls ls' : List Int} (hq : Trn ps qs) (hps : ∀ p ∈ ps, 0 ≤ p.b ∧ p.b < (n : Int)) (ht : t.Nodup) (hta : ∀ y, y ∈ t ↔ y < n) (hf : Fnl ps t) (hml : m.length = n) (hK : pre <+: t.reverse → Ki ps pre m ls) (hd : Dk qs (Rch qs x) m [] m2 s) (hx : m2[x]? = some true) (hm : ∀ y, y ∈ s3 ↔ y ∈ s) (hp : s3.Pairwise (· ≤ ·)) (hS : Sl s3 (s3.headD 0) ls ls' s3.length) (hpre : (pre ++ [x]) <+: t.reverse) : Ki ps (pre ++ [x]) m2 ls' := by
  obtain ⟨r, hr⟩ := hpre
  have h1 : pre <+: t.reverse := ⟨x :: r, by rw [← hr]; simp⟩
  have h2 : t = r.reverse ++ x :: pre.reverse := by
    have := congrArg List.reverse hr
    rw [List.reverse_reverse] at this
    rw [← this]; simp
  have hS1 := hS.new
  have hS2 := hS.old
  rw [List.take_length] at hS1 hS2
  refine (hK h1).step hq hps hml ht hta hf h2 hd.toDq hx (z0 := s3.headD 0) (fun y hy => ?_) (fun y hy => hS1 y ((hm y).2 hy)) (fun y hy => hS2 y (fun h => hy ((hm y).1 h)))
  have hy3 := (hm y).2 hy
  cases s3 with
  | nil => simp at hy3
  | cons b s3 =>
    refine ⟨(hm b).1 List.mem_cons_self, ?_⟩
    rcases List.mem_cons.1 hy3 with e | e
    · rw [e]; exact Nat.le_refl _
    · exact (List.pairwise_cons.1 hp).1 y e
set_option maxRecDepth 1000000 in
set_option maxHeartbeats 8000000 in
theorem lowests_any (gV gD n : Nat) (N D : Nat → List Int) (ps qs : List Pr) (w : World) (hN : Rl w.heap.size w gV n N) (hD : Rl w.heap.size w gD n D) (hA : Lst n ps N) (hA2 : Lst n qs D) (hq : Trn ps qs) (hps : ∀ p ∈ ps, 0 ≤ p.b ∧ p.b < (n : Int)) (hqs : ∀ p ∈ qs, 0 ≤ p.b ∧ p.b < (n : Int)) (hn : n ≤ 131072) :
    Calls Tryz.prog 22 #[.slice (some ⟨gV, 0, none⟩) n n, .slice (some ⟨gD, 0, none⟩) n n] w fun e w' => ∃ L ls, e = .returned L ∧ w'.ownsRow w.heap.size 3 1 L n (flat ls) ∧ Below w.heap.size w w' ∧ ∀ y : Nat, y < n → ∃ z : Nat, ls[y]? = some (z : Int) ∧ Low ps y z := by
  obtain ⟨i0, hi0, hz0, hz1, hz2⟩ := info_parts infoIntH
  have hmf : ∀ (fn : Fn) (first cap : Array Value) (w : World), (Instr.makeFunc fn first cap).run Tryz.prog w = .ok (.func fn first cap) w := fun _ _ _ _ => rfl
  have HA : Hid (Lst n ps N) := hA
  have HA2 : Hid (Lst n qs D) := hA2
  have HQ : Hid (Trn ps qs) := hq
  have HPS : Hid (∀ p ∈ ps, 0 ≤ p.b ∧ p.b < (n : Int)) := hps
  have HQS : Hid (∀ p ∈ qs, 0 ≤ p.b ∧ p.b < (n : Int)) := hqs
  obtain ⟨B, hB⟩ : ∃ B, w.heap.size = B := ⟨_, rfl⟩
  rw [hB] at hN hD ⊢
  have HN : Hid (Rl B w gV n N) := hN
  have HD : Hid (Rl B w gD n D) := hD
  obtain ⟨w1, e1, hb1, hs1, X1⟩ := bx1 w #[.slice none 0 0] 32
  obtain ⟨w2, e2, hb2, hs2, X2⟩ := bx1 w1 #[.slice none 0 0] 32
  rw [hB] at X1 hs1 hb1
  rw [hs1] at X2 hs2 hb2
  have HE1 := hidH e1
  have HE2 := hidH e2
  have hb12 : Below B w w2 := hb1.trans (hb2.mono (by omega))
  have X12 := X1.below hb2 (by omega)
  have HB2 := hidH hb12
  have T2 : Hid (TL B B [] [(B + 1, .slice none 0 0, 32)] w2 [] w2) := ⟨⟨_, X12, World.ownsRow_nil _ _ _ _, fun p hp => (by cases hp)⟩, fun p hp => (by cases hp), fun q hq => (by rw [List.mem_singleton] at hq; subst hq; exact ⟨X2, (by simp), (by dsimp only; decide), (by dsimp only; decide)⟩), KeepsOthers.refl _, Nat.le_refl _, Nat.zero_le _⟩
  have L2 : Hid (Rl B w2 gV n N ∧ Below B w w2 ∧ B ≤ w2.heap.size) := ⟨hN.below hb12, hb12, by omega⟩
  have HS2 : Hid (w.heap.size = B ∧ w1.heap.size = B + 1 ∧ w2.heap.size = B + 2) := ⟨hB, hs1, hs2⟩
  have hwB := hB
  have hw1B := hs1
  clear hA hA2 hq hps hqs hN hD hb1 hb2 X1 X2 X12 hb12 e1 e2 hs1 hs2 hB
  refine (callsIn_wide (n := 9)).1 ?_
  refine callsIn_of_wp_marks Tryz.func22 rfl trivial ?_ rfl
  simp only [Tryz.ntmps22, List.size_toArray, List.length_cons, List.length_nil, Nat.reduceAdd, Nat.reduceSub, Array.replicate_succ, Array.replicate_zero, List.push_toArray, List.append_toArray, List.nil_append, List.cons_append]
  gi_wp2_with (refine ⟨trivial, ?_⟩; gi_at_call 24; rw [HE1.out, HE2.out]; (with_reducible refine (callsIn_wide.2 (walkerL1_any B gV n B w w2 N hn L2.out)).mono ?_); rintro e w3 ⟨bm, bn, bk, bt, gm, rfl, hw3, hb3⟩; have W3 := hidH hw3; have T3 := hidH (T2.out.below hb3); have HS3 := hidH hb3.size; clear hw3 hb3)
  gi_loopw [20] (fun i wr => ∃ (k : Nat) (m : List Bool) (t : List Nat), k ≤ n ∧ i = .int .i64 (k : Int) ∧ Wd B bm bn bk bt gm gV n (.func (.func 54) #[] #[.pointer (some ⟨B, 0, none⟩)]) w N m wr ∧ TL B B [] [(B + 1, .slice none 0 0, 32)] w2 t wr ∧ Dk ps (fun _ => True) (List.replicate n false) [] m t ∧ ∀ y : Nat, y < k → m[y]? = some true)
    (fun i _ => n - (intOf i).toNat)
  case atStart => exact ⟨0, _, _, Nat.zero_le _, rfl, W3.out, T3.out, Dk.refl _ _ _ _, fun y h => absurd h (Nat.not_lt_zero _)⟩
  case round =>
    clear W3 T3
    obtain ⟨k, m, t, hk, rfl, hW, hT, hD1, hM⟩ := hrel
    have W3 := hidH hW
    have T3 := hidH hT
    have D3 := hidH hD1
    have M3 := hidH hM
    have hc3 : t.length + unm m = n := by have h9 := hD1.cnt; simp [unm] at h9; exact h9
    clear hW hT hD1 hM
    by_cases hkn : k < n
    · have hkn' : (k : Int) < (n : Int) := by omega
      have kk : IntKind.i64.wrap ((k : Int) + 1) = ((k + 1 : Nat) : Int) := by rw [IntWalk.i64_in _ ⟨by omega, by omega⟩]; omega
      gi_wp2_with (refine ⟨trivial, ?_⟩; gi_at_call 57; (with_reducible refine (callsIn_wide.2 (walkL1_any B bm bn bk bt gm gV n B w N ps (TL B B [] [(B + 1, .slice none 0 0, 32)] w2) hn HA.out HPS.out (fun m t z x h1 h2 => TL.mark h1 h2) (fun m t z x h1 h2 h3 h4 => tellL1 B bm bn bk bt gm gV n B x _ [] _ w w2 z N m t (by omega) h3 h4 (by omega)) _ k m t wr hkn (Nat.le_refl _) (by omega) W3.out T3.out)).mono ?_); rintro e w4 ⟨⟨v, rfl⟩, m4, t4, hw4, ht4, hd4, hm4⟩; have W4 := hidH hw4; have T4 := hidH ht4; have D4 := hidH (D3.out.trans hd4 (fun _ _ => trivial)); have M4 : Hid (∀ y : Nat, y < k + 1 → m4[y]? = some true) := (fun y hy => by rcases Nat.lt_succ_iff_lt_or_eq.1 hy with h | h; exact hd4.mono y (M3.out y h); subst h; exact hm4); clear hw4 ht4 hd4 hm4)
      go_roundw
      case rel => exact ⟨k + 1, m4, t4, by omega, by first | rfl | simp, W4.out, T4.out, D4.out, M4.out⟩
      case measure => simp [intOf]; omega
    · have hkn' : ¬ (k : Int) < (n : Int) := by omega
      obtain rfl : k = n := by omega
      obtain ⟨hnd, hall, hfn⟩ := told_all D3.out M3.out
      have TN := hidH hnd
      have TA := hidH hall
      have TF := hidH hfn
      have htl : t.length ≤ k := by have := hc3; omega
      clear hnd hall hfn D3 M3 hc3
      obtain ⟨vt, xB, oB, -⟩ := T3.out.ex
      have xP := (T3.out.bs _ List.mem_cons_self).1
      dsimp only at xP
      obtain ⟨at0, ct, hvt, hat, -⟩ := own_slice oB
      subst hvt
      have XB := hidH xB
      have OB := hidH oB
      have XP := hidH xP
      have hwr : B ≤ wr.heap.size := W3.out.base
      have BW := hidH W3.out.bel
      clear xB oB xP T3 W3 L2 T2
      obtain ⟨gl, hgl⟩ : ∃ gl, wr.heap.size = gl := ⟨_, rfl⟩
      have HGL := hidH hgl
      gi_wp2_with (first
        | (gi_at_make; (refine wpListIn_make_full _ rfl _ _ 32 rfl B 3 i0 (.int .i64 0) 1 Tryz.underlying32 hi0 hz0 hz1 _ _ _ _ k rfl rfl rfl rfl (by rw [hz2]; omega) (by unfold maxLen; omega) hwr ?_); intro v1 hown1 hgr1; rw [hgl] at hown1 ⊢; obtain ⟨p1, p2, p3, p4⟩ := ph2 XB.out OB.out XP.out BW.out hwr hgl hown1 hgr1; obtain ⟨v3, e3', hb3', hs3', X3'⟩ := bx1 v1 #[.slice (some ⟨gl, 0, none⟩) k k] 32; have HV3 := hidH e3'; have HS3' := hidH hs3'; have L3 : Hid (Rl B v3 gD k D ∧ Below B w v3 ∧ B ≤ v3.heap.size) := (by have h9 := p1.trans (hb3'.mono p2); exact ⟨HD.out.below h9, h9, Nat.le_trans p2 hb3'.size⟩); have T3 := hidH ((p3.below hb3').add X3' (by have h8 := XP.out.lt; have h9 := hgr1.size; omega) (by decide) (by decide)); have A3 := hidH p4; clear p1 p2 p3 p4 e3' hb3' hs3' X3' hown1 hgr1)
        | (refine ⟨trivial, ?_⟩; gi_at_call 24; rw [HV3.out]; (with_reducible refine (callsIn_wide.2 (walkerL2_any B gD k (B + 1) w v3 D hn L3.out)).mono ?_); rintro e w4 ⟨dm, dn, dk, dt, hm, rfl, hw4, hb4⟩; obtain ⟨v6, e6, hb6, hs6, X6⟩ := bx1 w4 #[.func (.func 57) #[] #[.pointer (some ⟨dm, 0, none⟩), .pointer (some ⟨dn, 0, none⟩), .pointer (some ⟨dk, 0, none⟩), .pointer (some ⟨dt, 0, none⟩)]] 59; have HV6 := hidH e6; have HS6 := hidH hs6; have W6 := hidH (hw4.below hb6); have T6 := hidH (((T3.out.below hb4).below hb6).add X6 (by have h8 := (T3.out.ex); obtain ⟨v, x1, -⟩ := h8; have h9 := x1.lt; have h7 := hb4.size; omega) (by decide) (by decide)); have c5 := ((T6.out.bs (B, .slice at0 t.length ct, 32) (by simp)).1).one; dsimp only at c5; rw [← e6] at c5; clear hw4 hb4 e6 hb6 hs6 X6)
        | (refine ⟨trivial, ?_⟩; gi_at_call 56; rw [HV6.out]; (with_reducible refine (callsIn_wide.2 (backward_any at0 t.length ct v6)).mono ?_); rintro e w7 ⟨rfl, hw7⟩; obtain ⟨v7, e7, hb7, hs7, X7⟩ := bx1 v6 #[.slice at0 t.length ct] 32; rw [e7] at hw7; subst hw7; have W7 := hidH (W6.out.below hb7); have HS7 := hidH hs7; have X7' := hidH X7; have T7 := hidH ((T6.out.below hb7).add X7 (by obtain ⟨v, x1, -⟩ := T6.out.ex; have h9 := x1.lt; omega) (by decide) (by decide)); clear e7 hb7 hs7 X7 c5))
      clear HE1 HE2 HB2 HS2 HS3 hwB hw1B HV3 HV6 W6 T6 L3 T3 XB OB XP BW HN HA
      obtain ⟨b0, hb0⟩ : ∃ b, 0 < t.length → at0 = some ⟨b, 0, none⟩ := by
        by_cases h0 : 0 < t.length
        · obtain ⟨g, e⟩ := hat h0
          exact ⟨g, fun _ => e⟩
        · exact ⟨0, fun h => absurd h h0⟩
      obtain ⟨zs, hzl, hzm, hzi⟩ := mkzs k t.reverse (t.length - 1) (fun y hy => (TA.out y).1 (List.mem_reverse.1 hy))
      rw [List.length_reverse] at hzl
      have oT : w7.ownsRow B 3 1 (.slice at0 t.length ct) t.length (nvs t) := by
        have h9 := T7.out.ks (.slice at0 t.length ct, t.map fun (x : Nat) => (x : Int)) (by simp)
        dsimp only at h9
        rw [List.length_map, ← nvs_flat] at h9
        exact h9
      have hB7 : B ≤ w7.heap.size := W7.out.base
      obtain ⟨Bs, hBs⟩ : ∃ Bs, v6.heap.size = Bs := ⟨_, rfl⟩
      obtain ⟨b10, hb10⟩ : ∃ b, w4.heap.size = b := ⟨_, rfl⟩
      obtain ⟨b9, hb9⟩ : ∃ b, v1.heap.size = b := ⟨_, rfl⟩
      rw [hBs, hb10, hb9] at T7
      rw [hBs] at X7' HS7
      rw [hBs, hb10, hb9]
      have hst := back_stops (n0 := k) 8 (by decide) Bs b0 t.length ct at0 zs hzl (by omega) hb0 hzi w7 X7'.out.one X7'.out.lt (fun h => (oT.lt b0 (by rw [hb0 h]; rfl)).2) (fun j p hp => by
        have h1 : t.reverse[j]? = some p.2.1 := by rw [← hzm, List.getElem?_map, hp]; rfl
        have hj : j < t.length := by have := (List.getElem?_eq_some_iff.1 hp).1; omega
        rw [List.getElem?_reverse hj] at h1
        have h2 := oT
        rw [hb0 (by omega)] at h2
        exact row_ncell h2 h1)
      apply wpIn_rangeFunc_ownG rfl (by decide) (gf := 75) (lb := #[.pointer (some ⟨Bs, 0, none⟩)]) rfl trivial (enters_of Tryz.func75 (by kernel_rfl) rfl) hst (fun h k => h.trans k) (Kq.put X7'.out.lt (fun h => (oT.lt b0 (by rw [hb0 h]; rfl)).2)) (Below.refl _ _) (fun _ => rfl)
        (fun (pre : List (Pt k)) W => ∃ (m : List Bool) (ls : List Int), Wd B dm dn dk dt hm gD k (.func (.func 55) #[] #[.pointer (some ⟨B + 1, 0, none⟩)]) w D m W ∧ (∃ tp, TL B (B + 1) [(.slice (some ⟨gl, 0, none⟩) k k, ls), (.slice at0 t.length ct, t.map fun (x : Nat) => (x : Int))] [(Bs, .slice at0 t.length ct, 32), (b10, .func (.func 57) #[] #[.pointer (some ⟨dm, 0, none⟩), .pointer (some ⟨dn, 0, none⟩), .pointer (some ⟨dk, 0, none⟩), .pointer (some ⟨dt, 0, none⟩)], 59), (b9, .slice (some ⟨gl, 0, none⟩) k k, 32), (B, .slice at0 t.length ct, 32)] W tp W) ∧ ls.length = k ∧ ((pre.map fun (p : Pt k) => p.2.1) <+: t.reverse → Ki ps (pre.map fun (p : Pt k) => p.2.1) m ls))
        (fun _ _ _ => False)
        (fun s W W' row hs hg hr => by
          have hnc : Ncs B row W := fun r e => ⟨Nat.le_trans hB7 (hr r e).1, (hr r e).2⟩
          obtain ⟨m, ls, h1, ⟨tp, h2⟩, h3, h4⟩ := hs
          exact ⟨m, ls, h1.own hg hnc, ⟨tp, h2.own hg hnc⟩, h3, h4⟩)
        (fun _ _ _ _ _ hs _ _ => hs)
        ⟨_, _, W7.out, ⟨[], T7.out.now⟩, by simp, fun _ => Ki.start _ _ _⟩
      case hassign =>
        intro l x W K hK
        gi_wp2
        exact hK
      case hbody =>
        rintro l pre x W ⟨m, ls, hW, ⟨tp, hT⟩, hl, hK⟩ hlen
        obtain ⟨xi, xv, hxk⟩ := x
        have HT := hidH hT
        have HK := hidH hK
        have HLN := hidH hl
        have hml := hW.mlen
        have HML := hidH hml
        have hun : unm m ≤ k := by have := unm_len m; omega
        obtain ⟨a, c, X0, hle, hfm, T0⟩ := hT.cut
        have c0 := X0.one
        have f0 := X0.free 0
        have W1 := hidH (hW.box (i := 0) (x := .slice a 0 c) X0 (Nat.le_succ _) (by decide) (by decide) (by decide) (by decide))
        have T1 := hidH T0
        have c10 := (T0.bs _ (List.mem_cons_of_mem _ List.mem_cons_self)).1.one
        dsimp only at c10
        clear hT hK hl hW X0 T0 hml
        have HBD : Hid (∀ (a : Option Addr) (c : Nat), Wd B dm dn dk dt hm gD k (.func (.func 55) #[] #[.pointer (some ⟨B + 1, 0, none⟩)]) w D m (W.setCell ⟨B + 1, 0, none⟩ (.slice a 0 c)) → TL B (B + 1) [(.slice (some ⟨gl, 0, none⟩) k k, ls), (.slice at0 t.length ct, t.map fun (x : Nat) => (x : Int))] [(Bs, .slice at0 t.length ct, 32), (b10, .func (.func 57) #[] #[.pointer (some ⟨dm, 0, none⟩), .pointer (some ⟨dn, 0, none⟩), .pointer (some ⟨dk, 0, none⟩), .pointer (some ⟨dt, 0, none⟩)], 59), (b9, .slice (some ⟨gl, 0, none⟩) k k, 32), (B, .slice at0 t.length ct, 32)] W [] (W.setCell ⟨B + 1, 0, none⟩ (.slice a 0 c)) → Calls Tryz.prog 57 #[.int .i64 (xv : Int), .pointer (some ⟨dm, 0, none⟩), .pointer (some ⟨dn, 0, none⟩), .pointer (some ⟨dk, 0, none⟩), .pointer (some ⟨dt, 0, none⟩)] (W.setCell ⟨B + 1, 0, none⟩ (.slice a 0 c)) fun e z' => (∃ v, e = .returned v) ∧ ∃ m' s, Wd B dm dn dk dt hm gD k (.func (.func 55) #[] #[.pointer (some ⟨B + 1, 0, none⟩)]) w D m' z' ∧ TL B (B + 1) [(.slice (some ⟨gl, 0, none⟩) k k, ls), (.slice at0 t.length ct, t.map fun (x : Nat) => (x : Int))] [(Bs, .slice at0 t.length ct, 32), (b10, .func (.func 57) #[] #[.pointer (some ⟨dm, 0, none⟩), .pointer (some ⟨dn, 0, none⟩), .pointer (some ⟨dk, 0, none⟩), .pointer (some ⟨dt, 0, none⟩)], 59), (b9, .slice (some ⟨gl, 0, none⟩) k k, 32), (B, .slice at0 t.length ct, 32)] W s z' ∧ Dk qs (Rch qs xv) m [] m' s ∧ m'[xv]? = some true) := fun a c h1 h2 => walkL2_any B dm dn dk dt hm gD k (B + 1) w D qs (TL B (B + 1) [(.slice (some ⟨gl, 0, none⟩) k k, ls), (.slice at0 t.length ct, t.map fun (x : Nat) => (x : Int))] [(Bs, .slice at0 t.length ct, 32), (b10, .func (.func 57) #[] #[.pointer (some ⟨dm, 0, none⟩), .pointer (some ⟨dn, 0, none⟩), .pointer (some ⟨dk, 0, none⟩), .pointer (some ⟨dt, 0, none⟩)], 59), (b9, .slice (some ⟨gl, 0, none⟩) k k, 32), (B, .slice at0 t.length ct, 32)] W) hn HA2.out HQS.out (fun m t z x h1 h2 => TL.mark h1 h2) (fun m t z x h1 h2 h3 h4 => tellL2 B dm dn dk dt hm gD k (B + 1) x _ _ _ w W z D m t (by omega) h3 h4 (by omega)) _ xv m [] _ hxk (Nat.le_refl _) (by simpa using hun) h1 h2
        have HRS : Hid (∀ (z : World) (v : Value) (s : List Nat), z.ownsRow B 3 1 v s.length (nvs s) → s.length ≤ 131072 → Calls Tryz.prog 26 #[v] z fun e z' => e = .returned v ∧ z'.ownsRow B 3 1 v s.length (ivs (sortI (s.map fun (x : Nat) => (x : Int)))) ∧ z.grownBy z' v.ownBlock) := fun z v s h h2 => by
          have h9 := risingI_any B v (s.map fun (x : Nat) => (x : Int)) z (by rw [List.length_map, ivs, List.map_map]; exact h) (by rw [List.length_map]; omega)
          rw [List.length_map] at h9
          exact h9
        rcases hfm with ⟨rfl, ht0, rfl⟩ | ⟨g, rfl⟩
        · rw [ht0] at c0
          gi_wp2_with (first
            | (refine ⟨trivial, ?_⟩; gi_at_call 57; (with_reducible refine (CallsIn.inRound l (callsIn_wide.2 (HBD.out (none) 0 W1.out T1.out))).mono ?_); rintro e z2 ⟨⟨vv, rfl⟩, m2, s, hw2, ht2, hd2, hm2⟩; obtain ⟨v2, x2, o2, a2⟩ := ht2.ex; have W2 := hidH hw2; have T2 := hidH ht2; have D2 := hidH hd2; have M2 := hidH hm2; obtain ⟨av, cv, hv2, hav, -⟩ := own_slice o2; subst hv2; have X2 := hidH x2; have O2 := hidH o2; have AP := hidH a2; have c2 := x2.one; have hsm := ht2.most; clear hw2 ht2 hd2 hm2 x2 o2 a2)
            | (refine ⟨trivial, ?_⟩; gi_at_call 26; (with_reducible refine (CallsIn.inRound l (callsIn_wide.2 (HRS.out z2 _ s O2.out hsm))).mono ?_); rintro e z3 ⟨rfl, ho3, hg3⟩; obtain ⟨s3, hl3, hm3, hp3, ht3, x3, o3⟩ := T2.out.sorted X2.out O2.out AP.out ho3 hg3; have W3 := hidH (W2.out.grw O2.out hg3); have T3 := hidH ht3; have X3 := hidH x3; have O3 := hidH o3; have HM3 := hidH hm3; have HP3 := hidH hp3; have HL3 := hidH hl3; clear ho3 hg3 hm3 hp3 ht3 x3 o3 hl3 c2))
          clear c0 f0 c10 W1 T1 HBD HRS W2 T2 X2 O2
          obtain ⟨z0, hz0'⟩ : ∃ z0, s3.headD 0 = z0 := ⟨_, rfl⟩
          have HZ0 := hidH hz0'
          clear hz0'
          gi_loopw [45] (fun i wi => ∃ (j : Nat) (ls' : List Int), j ≤ s.length ∧ i = .int .i64 (j : Int) ∧ Wd B dm dn dk dt hm gD k (.func (.func 55) #[] #[.pointer (some ⟨B + 1, 0, none⟩)]) w D m2 wi ∧ TL B (B + 1) [(.slice (some ⟨gl, 0, none⟩) k k, ls'), (.slice at0 t.length ct, t.map fun (x : Nat) => (x : Int))] [(Bs, .slice at0 t.length ct, 32), (b10, .func (.func 57) #[] #[.pointer (some ⟨dm, 0, none⟩), .pointer (some ⟨dn, 0, none⟩), .pointer (some ⟨dk, 0, none⟩), .pointer (some ⟨dt, 0, none⟩)], 59), (b9, .slice (some ⟨gl, 0, none⟩) k k, 32), (B, .slice at0 t.length ct, 32)] W s3 wi ∧ Bx wi (B + 1) #[.slice av s.length cv] 32 ∧ wi.ownsRow B 3 1 (.slice av s.length cv) s.length (nvs s3) ∧ Sl s3 z0 ls ls' j)
            (fun i _ => s.length - (intOf i).toNat)
          case atStart => exact ⟨0, ls, Nat.zero_le _, rfl, W3.out, T3.out, X3.out, O3.out, Sl.start _ _ _⟩
          case round =>
            clear W3 T3 X3 O3
            obtain ⟨j, ls', hj, rfl, hW, hT, hX, hO, hS⟩ := hrel
            have W3 := hidH hW
            have T3 := hidH hT
            have X3 := hidH hX
            have O3 := hidH hO
            have S3 := hidH hS
            clear hW hT hX hO hS
            by_cases hjs : j < s.length
            · have hjs' : (j : Int) < (s.length : Int) := by omega
              obtain ⟨g2, rfl⟩ := hav (by omega)
              obtain ⟨y, hy⟩ : ∃ y, s3[j]? = some y := ⟨_, List.getElem?_eq_getElem (by rw [HL3.out]; exact hjs)⟩
              have hyk : y < k := by
                obtain ⟨s', es, -, hy', -⟩ := D2.out.told
                rw [List.nil_append] at es
                subst es
                have h1 := (hy' y ((HM3.out y).1 (List.mem_of_getElem? hy))).1
                have := (List.getElem?_eq_some_iff.1 h1).1
                have h2 := HML.out
                omega
              have hz : s3[0]? = some z0 := by
                have h1 := HZ0.out
                have h2 := HL3.out
                cases s3 with
                | nil => simp at h2; omega
                | cons b s3 => rw [← h1]; rfl
              have O3' : wr.ownsRow B 3 1 (.slice (some ⟨g2, 0, none⟩) s3.length cv) s3.length (nvs s3) := by rw [HL3.out]; exact O3.out
              have cy := row_ncell O3' hy
              have cz := row_ncell O3' hz
              have cP := X3.out.one
              have cL := (T3.out.bs _ (List.mem_cons_of_mem _ (List.mem_cons_of_mem _ List.mem_cons_self))).1.one
              dsimp only at cL
              have hll : ls'.length = k := S3.out.len.trans HLN.out
              have oL := T3.out.ks _ List.mem_cons_self
              dsimp only at oL
              rw [hll] at oL
              obtain ⟨cl, fl⟩ := row_cell oL (i := y) (x := ls'[y]'(by omega)) (List.getElem?_eq_getElem (by omega))
              have W4 := hidH (W3.out.cell (i := y) (x := .int .i64 (z0 : Int)) oL rfl)
              have T4 := hidH (T3.out.low (L := .nilFunc) hll (fun p hp => by rw [List.mem_singleton] at hp; subst hp; exact A3.out) y (z0 : Int))
              have X4 := hidH (X3.out.other ⟨gl, y, none⟩ (X3.out.neR oL (by decide) rfl) (.int .i64 (z0 : Int)))
              have O4 := hidH (ownsRow_setCell_other O3.out (a := ⟨gl, y, none⟩) (fun e => AP.out _ List.mem_cons_self gl e rfl) (.int .i64 (z0 : Int)))
              have S4 := hidH (S3.out.step hy (by rw [HLN.out]; exact hyk))
              have kk : IntKind.i64.wrap ((j : Int) + 1) = ((j + 1 : Nat) : Int) := by rw [IntWalk.i64_in _ ⟨by omega, by omega⟩]; omega
              have hs0 : 0 < s.length := by omega
              have hs0' : (0 : Int) < (s.length : Int) := by omega
              have hyk' : (y : Int) < (k : Int) := by omega
              clear O3' oL hz hy
              have HDR : Hid (Below (wr.setCell ⟨gl, y, none⟩ (.int .i64 (z0 : Int))).heap.size (wr.setCell ⟨gl, y, none⟩ (.int .i64 (z0 : Int))) (wr.setCell ⟨gl, y, none⟩ (.int .i64 (z0 : Int))).drew) := (Below.refl _ _).drew
              have hmix : Tryz.prog.follows .mixedOrders = true := by kernel_rfl
              gi_wp2
              gi_region_with_o (fail)
              all_goals gi_wp2
              all_goals (try go_bits)
              all_goals go_roundw
              all_goals first
                | exact ⟨j + 1, _, by omega, by first | rfl | simp, W4.out.below HDR.out, T4.out.below HDR.out, X4.out.drew, own_belowR O4.out HDR.out (Nat.le_refl _), S4.out⟩
                | (simp [intOf]; omega)
            · have hjs' : ¬ (j : Int) < (s.length : Int) := by omega
              gi_wp2
              have hj2 : j = s.length := by omega
              subst hj2
              refine ⟨T3.out.ko.from _, HT.out.kq T3.out (List.mem_cons_of_mem _ List.mem_cons_self) (List.mem_cons_of_mem _ List.mem_cons_self) (List.length_map _) List.mem_cons_self hb0, m2, W3.out, ls', ⟨s3, T3.out.now⟩, S3.out.len.trans HLN.out, fun hpre => ?_⟩
              rw [List.map_append] at hpre ⊢
              exact Ki.go HQ.out HPS.out TN.out TA.out TF.out HML.out HK.out D2.out M2.out HM3.out HP3.out (by have h9 := S3.out; rw [← HZ0.out, ← HL3.out] at h9; exact h9) hpre
        · gi_wp2_with (first
            | (refine ⟨trivial, ?_⟩; gi_at_call 57; (with_reducible refine (CallsIn.inRound l (callsIn_wide.2 (HBD.out (some ⟨g, 0, none⟩) c W1.out T1.out))).mono ?_); rintro e z2 ⟨⟨vv, rfl⟩, m2, s, hw2, ht2, hd2, hm2⟩; obtain ⟨v2, x2, o2, a2⟩ := ht2.ex; have W2 := hidH hw2; have T2 := hidH ht2; have D2 := hidH hd2; have M2 := hidH hm2; obtain ⟨av, cv, hv2, hav, -⟩ := own_slice o2; subst hv2; have X2 := hidH x2; have O2 := hidH o2; have AP := hidH a2; have c2 := x2.one; have hsm := ht2.most; clear hw2 ht2 hd2 hm2 x2 o2 a2)
            | (refine ⟨trivial, ?_⟩; gi_at_call 26; (with_reducible refine (CallsIn.inRound l (callsIn_wide.2 (HRS.out z2 _ s O2.out hsm))).mono ?_); rintro e z3 ⟨rfl, ho3, hg3⟩; obtain ⟨s3, hl3, hm3, hp3, ht3, x3, o3⟩ := T2.out.sorted X2.out O2.out AP.out ho3 hg3; have W3 := hidH (W2.out.grw O2.out hg3); have T3 := hidH ht3; have X3 := hidH x3; have O3 := hidH o3; have HM3 := hidH hm3; have HP3 := hidH hp3; have HL3 := hidH hl3; clear ho3 hg3 hm3 hp3 ht3 x3 o3 hl3 c2))
          clear c0 f0 c10 W1 T1 HBD HRS W2 T2 X2 O2
          obtain ⟨z0, hz0'⟩ : ∃ z0, s3.headD 0 = z0 := ⟨_, rfl⟩
          have HZ0 := hidH hz0'
          clear hz0'
          gi_loopw [45] (fun i wi => ∃ (j : Nat) (ls' : List Int), j ≤ s.length ∧ i = .int .i64 (j : Int) ∧ Wd B dm dn dk dt hm gD k (.func (.func 55) #[] #[.pointer (some ⟨B + 1, 0, none⟩)]) w D m2 wi ∧ TL B (B + 1) [(.slice (some ⟨gl, 0, none⟩) k k, ls'), (.slice at0 t.length ct, t.map fun (x : Nat) => (x : Int))] [(Bs, .slice at0 t.length ct, 32), (b10, .func (.func 57) #[] #[.pointer (some ⟨dm, 0, none⟩), .pointer (some ⟨dn, 0, none⟩), .pointer (some ⟨dk, 0, none⟩), .pointer (some ⟨dt, 0, none⟩)], 59), (b9, .slice (some ⟨gl, 0, none⟩) k k, 32), (B, .slice at0 t.length ct, 32)] W s3 wi ∧ Bx wi (B + 1) #[.slice av s.length cv] 32 ∧ wi.ownsRow B 3 1 (.slice av s.length cv) s.length (nvs s3) ∧ Sl s3 z0 ls ls' j)
            (fun i _ => s.length - (intOf i).toNat)
          case atStart => exact ⟨0, ls, Nat.zero_le _, rfl, W3.out, T3.out, X3.out, O3.out, Sl.start _ _ _⟩
          case round =>
            clear W3 T3 X3 O3
            obtain ⟨j, ls', hj, rfl, hW, hT, hX, hO, hS⟩ := hrel
            have W3 := hidH hW
            have T3 := hidH hT
            have X3 := hidH hX
            have O3 := hidH hO
            have S3 := hidH hS
            clear hW hT hX hO hS
            by_cases hjs : j < s.length
            · have hjs' : (j : Int) < (s.length : Int) := by omega
              obtain ⟨g2, rfl⟩ := hav (by omega)
              obtain ⟨y, hy⟩ : ∃ y, s3[j]? = some y := ⟨_, List.getElem?_eq_getElem (by rw [HL3.out]; exact hjs)⟩
              have hyk : y < k := by
                obtain ⟨s', es, -, hy', -⟩ := D2.out.told
                rw [List.nil_append] at es
                subst es
                have h1 := (hy' y ((HM3.out y).1 (List.mem_of_getElem? hy))).1
                have := (List.getElem?_eq_some_iff.1 h1).1
                have h2 := HML.out
                omega
              have hz : s3[0]? = some z0 := by
                have h1 := HZ0.out
                have h2 := HL3.out
                cases s3 with
                | nil => simp at h2; omega
                | cons b s3 => rw [← h1]; rfl
              have O3' : wr.ownsRow B 3 1 (.slice (some ⟨g2, 0, none⟩) s3.length cv) s3.length (nvs s3) := by rw [HL3.out]; exact O3.out
              have cy := row_ncell O3' hy
              have cz := row_ncell O3' hz
              have cP := X3.out.one
              have cL := (T3.out.bs _ (List.mem_cons_of_mem _ (List.mem_cons_of_mem _ List.mem_cons_self))).1.one
              dsimp only at cL
              have hll : ls'.length = k := S3.out.len.trans HLN.out
              have oL := T3.out.ks _ List.mem_cons_self
              dsimp only at oL
              rw [hll] at oL
              obtain ⟨cl, fl⟩ := row_cell oL (i := y) (x := ls'[y]'(by omega)) (List.getElem?_eq_getElem (by omega))
              have W4 := hidH (W3.out.cell (i := y) (x := .int .i64 (z0 : Int)) oL rfl)
              have T4 := hidH (T3.out.low (L := .nilFunc) hll (fun p hp => by rw [List.mem_singleton] at hp; subst hp; exact A3.out) y (z0 : Int))
              have X4 := hidH (X3.out.other ⟨gl, y, none⟩ (X3.out.neR oL (by decide) rfl) (.int .i64 (z0 : Int)))
              have O4 := hidH (ownsRow_setCell_other O3.out (a := ⟨gl, y, none⟩) (fun e => AP.out _ List.mem_cons_self gl e rfl) (.int .i64 (z0 : Int)))
              have S4 := hidH (S3.out.step hy (by rw [HLN.out]; exact hyk))
              have kk : IntKind.i64.wrap ((j : Int) + 1) = ((j + 1 : Nat) : Int) := by rw [IntWalk.i64_in _ ⟨by omega, by omega⟩]; omega
              have hs0 : 0 < s.length := by omega
              have hs0' : (0 : Int) < (s.length : Int) := by omega
              have hyk' : (y : Int) < (k : Int) := by omega
              clear O3' oL hz hy
              have HDR : Hid (Below (wr.setCell ⟨gl, y, none⟩ (.int .i64 (z0 : Int))).heap.size (wr.setCell ⟨gl, y, none⟩ (.int .i64 (z0 : Int))) (wr.setCell ⟨gl, y, none⟩ (.int .i64 (z0 : Int))).drew) := (Below.refl _ _).drew
              have hmix : Tryz.prog.follows .mixedOrders = true := by kernel_rfl
              gi_wp2
              gi_region_with_o (fail)
              all_goals gi_wp2
              all_goals (try go_bits)
              all_goals go_roundw
              all_goals first
                | exact ⟨j + 1, _, by omega, by first | rfl | simp, W4.out.below HDR.out, T4.out.below HDR.out, X4.out.drew, own_belowR O4.out HDR.out (Nat.le_refl _), S4.out⟩
                | (simp [intOf]; omega)
            · have hjs' : ¬ (j : Int) < (s.length : Int) := by omega
              gi_wp2
              have hj2 : j = s.length := by omega
              subst hj2
              refine ⟨T3.out.ko.from _, HT.out.kq T3.out (List.mem_cons_of_mem _ List.mem_cons_self) (List.mem_cons_of_mem _ List.mem_cons_self) (List.length_map _) List.mem_cons_self hb0, m2, W3.out, ls', ⟨s3, T3.out.now⟩, S3.out.len.trans HLN.out, fun hpre => ?_⟩
              rw [List.map_append] at hpre ⊢
              exact Ki.go HQ.out HPS.out TN.out TA.out TF.out HML.out HK.out D2.out M2.out HM3.out HP3.out (by have h9 := S3.out; rw [← HZ0.out, ← HL3.out] at h9; exact h9) hpre
      case hdone =>
        rintro DD ys W hDD rfl ⟨m, ls, hW, ⟨tp, hT⟩, hl, hK⟩ hKD
        rw [hzm] at hK
        have hki := hK (List.prefix_refl _)
        have c9 := (hT.bs _ (List.mem_cons_of_mem _ (List.mem_cons_of_mem _ List.mem_cons_self))).1.one
        dsimp only at c9
        have oL := hT.ks _ List.mem_cons_self
        dsimp only at oL
        rw [hl] at oL
        gi_wp2
        refine ⟨by simp, .inl ⟨_, _, rfl, run_takeDeferred hKD, ?_⟩⟩
        refine ⟨_, results_tmp rfl _ _ _, .slice (some ⟨gl, 0, none⟩) k k, ls, rfl, ownsRow_putObj oL _ hKD rfl, ?_, fun y hy => hki.done TA.out y hy⟩
        exact hW.bel.trans (belowK_b (w := w7) hB7 W DD _ _ hDD hKD rfl rfl)
      case hstop =>
        rintro DD c pre W _ _ h _
        exact h.elim
end Go.Proofs.YtgijcbipnjmhgabGreat
