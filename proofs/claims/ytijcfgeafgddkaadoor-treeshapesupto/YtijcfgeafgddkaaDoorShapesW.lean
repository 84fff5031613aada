import Derived.Test.YtijcfgeafgddkaaDoorShr
import Derived.Test.YtijcfgeafgddkaaDoorShv
import Derived.Test.YtijcfgeafgddkaaDoorDw6
namespace Go.Proofs.YtijcfgeafgddkaaDoor
open Go.ChangeShapes Go.WideShapes Go.ChangeAt Go.RowKit
set_option linter.unusedVariables false

/-- what lies in a forest -/
structure Fo where
  s : ByteArray
  a1 : Option Addr
  c1 : Nat
  ts : List Tk
  a2 : Option Addr
  c2 : Nat
  ns : List Nd
def Fo.cells (f : Fo) : Array Value := #[.string f.s, .slice f.a1 f.ts.length f.c1, .slice f.a2 f.ns.length f.c2]
structure Fo.ok (f : Fo) (w : World) : Prop where
  l1 : LiesA w f.a1 f.ts
  l2 : LiesA w f.a2 f.ns
  f1 : ∀ e ∈ f.ts, TkFit e
  f2 : ∀ e ∈ f.ns, NdFit e
  b : f.s.size + f.ts.length + f.ns.length ≤ 1048576
theorem Fo.ok.below {f : Fo} {w w' : World} (h : f.ok w) (hb : Below w.heap.size w w') : f.ok w' := ⟨h.l1.below hb, h.l2.below hb, h.f1, h.f2, h.b⟩
def sm (f g : Fo) : Bool := samB f.ts g.ts f.ns g.ns
theorem same_fo (f g : Fo) (w : World) (hf : f.ok w) (hg : g.ok w) : Calls Tryd.prog 4 #[.agg f.cells, .agg g.cells] w fun e w' => e = .returned (.bool (sm f g)) ∧ Below w.heap.size w w' :=
  same1_any f.s g.s f.a1 f.a2 g.a1 g.a2 f.c1 f.c2 g.c1 g.c2 f.ts g.ts f.ns g.ns w hf.l1 hf.l2 hg.l1 hg.l2 (by have := hf.b; omega) (by have := hf.b; omega) (by have := hg.b; omega) (by have := hg.b; omega) hf.f1 hf.f2 hg.f1 hg.f2

theorem LiesA.put {w : World} {a : Option Addr} {xs : List Nd} {g : Nat} {u : Value} {T : TypeId} (h : LiesA w a xs) (hx : Bx w g #[u] T) (v : Value) : LiesA (w.setCell ⟨g, 0, none⟩ v) a xs := by
  rcases h with h | ⟨b, o, e, h⟩
  · exact .inl h
  · cases xs with
    | nil => exact .inl rfl
    | cons x r =>
      have hb : b ≠ g := fun hb => by
        have h1 := (h.nd (Below.refl _ _) (show (x :: r)[0]? = some x from rfl)).2.1
        rw [hb, hx.cell] at h1
        rw [Array.getElem?_eq_none (by show 1 ≤ _; omega)] at h1
        cases h1
      refine .inr ⟨b, o, e, ?_, fun j c hj => ?_⟩
      · have := h.1; simpa using this
      · rw [World.cell?_setCell_other _ _ _ _ (fun h2 => hb (congrArg Addr.block h2).symm)]
        exact h.2 j c hj
theorem skB_back {L : List Nd} {s : ByteArray} (h : shB L = true) (hc : cz (nmF nams) L = s.data.toList) : skB nams L = s := by
  unfold skB
  rw [if_pos h, hc]
theorem skB_size {ns : List Nd} (h : ns.length ≤ 1048576) : (skB nams ns).size ≤ 16777216 := by
  unfold skB
  split
  · have h1 := ck_len (nmF nams) nams_12 ns ns.length
    have h2 := pops_len ns.length (ck (nmF nams) ns ns.length).2
    show (cz (nmF nams) ns).toArray.size ≤ _
    unfold cz
    rw [List.size_toArray, List.length_append, List.length_replicate]
    omega
  · exact Nat.zero_le _

set_option maxRecDepth 1000000 in
set_option maxHeartbeats 8000000 in
theorem treeShapes_walk (f g h : Fo) (s : ByteArray) (w : World) (hf : f.ok w) (hg : g.ok w) (hh : h.ok w) (hs : s.size ≤ 1048576) (t0 : TypeId) (fr : Nat × Nat) (hA : w.heap[0]? = some (.cells (nmA nams) t0 fr)) (hN : NmcAt nams w) :
    Calls Tryd.prog 3 #[.agg f.cells, .agg g.cells, .agg h.cells, .string s] w fun e w' => e = .returned (.bool true) ∧ Below w.heap.size w w' := by
  have HBX : Hid (f.ok w ∧ g.ok w ∧ h.ok w) := ⟨hf, hg, hh⟩
  obtain ⟨B1, hB1⟩ : ∃ b, sm f g = b := ⟨_, rfl⟩
  obtain ⟨B2, hB2⟩ : ∃ b, sm g h = b := ⟨_, rfl⟩
  obtain ⟨B3, hB3⟩ : ∃ b, sm f h = b := ⟨_, rfl⟩
  obtain ⟨PF, hPF⟩ : ∃ p, skB nams f.ns = p := ⟨_, rfl⟩
  obtain ⟨PG, hPG⟩ : ∃ p, skB nams g.ns = p := ⟨_, rfl⟩
  have FF : Hid (∀ v, Below w.heap.size w v → Calls Tryd.prog 4 #[.agg #[.string f.s, .slice f.a1 f.ts.length f.c1, .slice f.a2 f.ns.length f.c2], .agg #[.string f.s, .slice f.a1 f.ts.length f.c1, .slice f.a2 f.ns.length f.c2]] v fun e w' => e = .returned (.bool true) ∧ Below v.heap.size v w') := fun v hv => by
    have := same_fo f f v (hf.below hv) (hf.below hv)
    rw [show sm f f = true from samB_refl _ _] at this
    exact this
  have FG : Hid (∀ v, Below w.heap.size w v → Calls Tryd.prog 4 #[.agg #[.string f.s, .slice f.a1 f.ts.length f.c1, .slice f.a2 f.ns.length f.c2], .agg #[.string g.s, .slice g.a1 g.ts.length g.c1, .slice g.a2 g.ns.length g.c2]] v fun e w' => e = .returned (.bool B1) ∧ Below v.heap.size v w') := fun v hv => by
    rw [← hB1]
    exact same_fo f g v (hf.below hv) (hg.below hv)
  have GF : Hid (∀ v, Below w.heap.size w v → Calls Tryd.prog 4 #[.agg #[.string g.s, .slice g.a1 g.ts.length g.c1, .slice g.a2 g.ns.length g.c2], .agg #[.string f.s, .slice f.a1 f.ts.length f.c1, .slice f.a2 f.ns.length f.c2]] v fun e w' => e = .returned (.bool B1) ∧ Below v.heap.size v w') := fun v hv => by
    rw [← hB1, show sm f g = sm g f from samB_symm _ _ _ _]
    exact same_fo g f v (hg.below hv) (hf.below hv)
  have GH : Hid (∀ v, Below w.heap.size w v → Calls Tryd.prog 4 #[.agg #[.string g.s, .slice g.a1 g.ts.length g.c1, .slice g.a2 g.ns.length g.c2], .agg #[.string h.s, .slice h.a1 h.ts.length h.c1, .slice h.a2 h.ns.length h.c2]] v fun e w' => e = .returned (.bool B2) ∧ Below v.heap.size v w') := fun v hv => by
    rw [← hB2]
    exact same_fo g h v (hg.below hv) (hh.below hv)
  have FH : Hid (∀ v, Below w.heap.size w v → Calls Tryd.prog 4 #[.agg #[.string f.s, .slice f.a1 f.ts.length f.c1, .slice f.a2 f.ns.length f.c2], .agg #[.string h.s, .slice h.a1 h.ts.length h.c1, .slice h.a2 h.ns.length h.c2]] v fun e w' => e = .returned (.bool B3) ∧ Below v.heap.size v w') := fun v hv => by
    rw [← hB3]
    exact same_fo f h v (hf.below hv) (hh.below hv)
  have SF : Hid (∀ v, Below w.heap.size w v → Calls Tryd.prog 6 #[.agg #[.slice f.a2 f.ns.length f.c2]] v fun e w' => e = .returned (.string PF) ∧ Below v.heap.size v w') := fun v hv => by
    rw [← hPF]
    exact sketch_any nams nams_12 f.a2 f.c2 f.ns v (hf.below hv).l2 (by have := hf.b; omega) hf.f2 (hN.below hv)
  have SG : Hid (∀ v, Below w.heap.size w v → Calls Tryd.prog 6 #[.agg #[.slice g.a2 g.ns.length g.c2]] v fun e w' => e = .returned (.string PG) ∧ Below v.heap.size v w') := fun v hv => by
    rw [← hPG]
    exact sketch_any nams nams_12 g.a2 g.c2 g.ns v (hg.below hv).l2 (by have := hg.b; omega) hg.f2 (hN.below hv)
  have hB123 : B1 = true → B2 = true → B3 = true := fun h1 h2 => by rw [← hB3]; exact samB_trans (hB1.trans h1) (hB2.trans h2)
  have hP12 : B1 = true → PF = PG := fun h1 => by rw [← hPF, ← hPG]; exact skB_same (hB1.trans h1)
  obtain ⟨L1, E1, P1, hq1⟩ : ∃ a b c, dr nams PF.data.toList (PF.size + 1) 0 [] [] = (a, b, c) := ⟨_, _, _, rfl⟩
  obtain ⟨L2, E2, P2, hq2⟩ : ∃ a b c, dr nams s.data.toList (s.size + 1) 0 [] [] = (a, b, c) := ⟨_, _, _, rfl⟩
  have hPs : PF.size ≤ 16777216 := by rw [← hPF]; exact skB_size (by have := hf.b; omega)
  have DP : Hid (∀ v, Below w.heap.size w v → Calls Tryd.prog 7 #[.string PF] v fun e w' => ∃ a cap, e = .returned (.tuple #[.agg #[.slice a L1.length cap], .int .i64 E1, .int .i64 (P1 : Int)]) ∧ LiesA w' a L1 ∧ Below v.heap.size v w') := fun v hv =>
    draw_any nams nams_len nams_12 nams_some PF v hPs t0 fr ((hv.block _ (lt_of_block hA)).trans hA) L1 E1 P1 hq1
  have DS : Hid (∀ v, Below w.heap.size w v → Calls Tryd.prog 7 #[.string s] v fun e w' => ∃ a cap, e = .returned (.tuple #[.agg #[.slice a L2.length cap], .int .i64 E2, .int .i64 (P2 : Int)]) ∧ LiesA w' a L2 ∧ Below v.heap.size v w') := fun v hv =>
    draw_any nams nams_len nams_12 nams_some s v (by omega) t0 fr ((hv.block _ (lt_of_block hA)).trans hA) L2 E2 P2 hq2
  have hD1 := dr_sk (ns := f.ns) (fun x hx => (hf.f2 x hx).1.1)
  rw [hPF, hq1] at hD1
  have hD2 := sketch_draw s.data.toList (by rw [dlen]; exact hs) L2 E2 P2 (by rw [dlen]; exact hq2)
  have HVL : Hid (shB f.ns = false → ∀ v (c : Int), Below w.heap.size w v → Calls Tryd.prog 8 #[.agg #[.slice f.a2 f.ns.length f.c2], .int .i64 c] v fun e w' => e = .returned (.bool false) ∧ Below v.heap.size v w') := fun hsh v c hv =>
    valid_no f.a2 f.c2 f.ns c v (hf.below hv).l2 (by have := hf.b; omega) hf.f2 hsh
  have hL2 : L2.length ≤ 1048576 := by
    have h := dr_len nams_len nams_some s.data.toList (s.size + 1) 0 [] [] (Nat.zero_le _) (Nat.zero_le _)
    rw [hq2, dlen] at h
    exact Nat.le_trans h hs
  have HST : Hid (∀ (a : Option Addr) (c : Nat) v, Below w.heap.size w v → LiesA v a L2 → (∀ x ∈ L2, NdFit x) → Calls Tryd.prog 6 #[.agg #[.slice a L2.length c]] v fun e w' => e = .returned (.string (skB nams L2)) ∧ Below v.heap.size v w') := fun a c v hv hl hfx =>
    sketch_any nams nams_12 a c L2 v hl hL2 hfx (hN.below hv)
  have HFL : Hid (LiesA w f.a2 f.ns ∧ ∀ x ∈ f.ns, NdFit x) := ⟨hf.l2, hf.f2⟩
  have hfl : f.ns.length ≤ 1048576 := by have := hf.b; omega
  have HD1 : Hid ((shB f.ns = false ∧ PF = ⟨#[]⟩ ∧ (L1, E1, P1) = ([], 40, 0)) ∨ (shB f.ns = true ∧ 0 < PF.size ∧ (L1, E1, P1) = (stp f.ns, 0, 0))) := hD1
  have HD2 : Hid ((L2 = [] ∧ E2 = 40 ∧ P2 ≤ s.data.toList.length) ∨ (E2 = 0 ∧ P2 = 0 ∧ s.data.toList ≠ [] ∧ shB L2 = true ∧ cz (nmF nams) L2 = s.data.toList ∧ ∀ x ∈ L2, NdFit x)) := hD2
  have hcase : B1 = false ∨ (B1 = true ∧ B2 = false ∧ PF = PG) ∨ (B1 = true ∧ B2 = true ∧ B3 = true ∧ PF = PG) := by
    cases B1 with
    | false => exact .inl rfl
    | true =>
      cases B2 with
      | false => exact .inr (.inl ⟨rfl, rfl, hP12 rfl⟩)
      | true => exact .inr (.inr ⟨rfl, rfl, hB123 rfl rfl, hP12 rfl⟩)
  clear hB1 hB2 hB3 hB123 hP12 hPF hPG hq1 hq2 hD1 hD2 hA
  obtain ⟨v1, e1, b1, s1, x1, x2⟩ := bx2 w #[.string f.s, .slice f.a1 f.ts.length f.c1, .slice f.a2 f.ns.length f.c2] #[.string g.s, .slice g.a1 g.ts.length g.c1, .slice g.a2 g.ns.length g.c2] 27 27
  obtain ⟨v2, e2, b2, s2, x3⟩ := bx1 v1 #[.string h.s, .slice h.a1 h.ts.length h.c1, .slice h.a2 h.ns.length h.c2] 27
  have HE : Hid (((w.alloc (.cells #[.string f.s, .slice f.a1 f.ts.length f.c1, .slice f.a2 f.ns.length f.c2] 27)).alloc (.cells #[.string g.s, .slice g.a1 g.ts.length g.c1, .slice g.a2 g.ns.length g.c2] 27)).alloc (.cells #[.string h.s, .slice h.a1 h.ts.length h.c1, .slice h.a2 h.ns.length h.c2] 27) = v2) := by unfold Hid; rw [e1, e2]
  have HB : Hid (Below w.heap.size w v2) := b1.trans (b2.mono b1.size)
  rw [show v1.heap.size = w.heap.size + 1 + 1 by omega] at x3 b2 s2
  have X1 : Hid (∀ v, Below v2.heap.size v2 v → Bx v w.heap.size #[.string f.s, .slice f.a1 f.ts.length f.c1, .slice f.a2 f.ns.length f.c2] 27) := fun v hv => (x1.below b2 (by omega)).below hv (by omega)
  have X2 : Hid (∀ v, Below v2.heap.size v2 v → Bx v (w.heap.size + 1) #[.string g.s, .slice g.a1 g.ts.length g.c1, .slice g.a2 g.ns.length g.c2] 27) := fun v hv => (x2.below b2 (by omega)).below hv (by omega)
  have X3 : Hid (∀ v, Below v2.heap.size v2 v → Bx v (w.heap.size + 1 + 1) #[.string h.s, .slice h.a1 h.ts.length h.c1, .slice h.a2 h.ns.length h.c2] 27) := fun v hv => x3.below hv (by omega)
  have HBW : Hid (∀ v, Below v2.heap.size v2 v → Below w.heap.size w v) := fun v hv => HB.out.trans (hv.mono HB.out.size)
  obtain ⟨X, F, hX, hF, onto⟩ := class_of (fun v => Below v2.heap.size v2 v) (Below.refl _ v2)
  have HF : Hid (∀ y, Below v2.heap.size v2 (F y)) := hF
  have HO : Hid (∀ v, Below v2.heap.size v2 v → ∃ x, v = F x) := fun v h => by obtain ⟨x, hx⟩ := onto v h; exact ⟨x, hx.symm⟩
  have f0 : ∀ y, (F y).cell? ⟨w.heap.size, 0, none⟩ = some (.string f.s) := fun y => (X1.out _ (hF y)).t0
  have f1 : ∀ y, (F y).cell? ⟨w.heap.size, 1, none⟩ = some (.slice f.a1 f.ts.length f.c1) := fun y => (X1.out _ (hF y)).t1
  have f2 : ∀ y, (F y).cell? ⟨w.heap.size, 2, none⟩ = some (.slice f.a2 f.ns.length f.c2) := fun y => (X1.out _ (hF y)).t2
  have g0 : ∀ y, (F y).cell? ⟨w.heap.size + 1, 0, none⟩ = some (.string g.s) := fun y => (X2.out _ (hF y)).t0
  have g1 : ∀ y, (F y).cell? ⟨w.heap.size + 1, 1, none⟩ = some (.slice g.a1 g.ts.length g.c1) := fun y => (X2.out _ (hF y)).t1
  have g2 : ∀ y, (F y).cell? ⟨w.heap.size + 1, 2, none⟩ = some (.slice g.a2 g.ns.length g.c2) := fun y => (X2.out _ (hF y)).t2
  have h0 : ∀ y, (F y).cell? ⟨w.heap.size + 1 + 1, 0, none⟩ = some (.string h.s) := fun y => (X3.out _ (hF y)).t0
  have h1 : ∀ y, (F y).cell? ⟨w.heap.size + 1 + 1, 1, none⟩ = some (.slice h.a1 h.ts.length h.c1) := fun y => (X3.out _ (hF y)).t1
  have h2 : ∀ y, (F y).cell? ⟨w.heap.size + 1 + 1, 2, none⟩ = some (.slice h.a2 h.ns.length h.c2) := fun y => (X3.out _ (hF y)).t2
  clear hF onto x1 x2 x3 e1 e2 b1 b2 hf hg hh hN
  unfold Fo.cells
  have u1 : (PF.toList == PF.toList) = true := beq_self_eq_true _
  have u2 : (PF.toList != PF.toList) = false := by rw [bne, u1]; rfl
  rcases hcase with rfl | ⟨rfl, rfl, rfl⟩ | ⟨rfl, rfl, rfl, rfl⟩
  all_goals
    go_enter Tryd.func3, Tryd.ntmps3
    go_wp2_with fail
    rw [HE.out]
    refine region_class F (by kernel_rfl) (by kernel_rfl) (by obtain ⟨x, hx⟩ := HO.out _ (Below.refl _ _).drew; exact ⟨x, hx.symm⟩) ?_
    repeat (go_big_quiet_step (first
      | (go_at_call 4; with_reducible refine (FF.out _ (HBW.out _ (HF.out _))).mono ?_; rintro e w5 ⟨rfl, hb5⟩; exact ⟨rfl, HO.out _ ((HF.out _).trans (hb5.mono (HF.out _).size))⟩)
      | (go_at_call 4; with_reducible refine (FG.out _ (HBW.out _ (HF.out _))).mono ?_; rintro e w5 ⟨rfl, hb5⟩; exact ⟨rfl, HO.out _ ((HF.out _).trans (hb5.mono (HF.out _).size))⟩)
      | (go_at_call 4; with_reducible refine (GF.out _ (HBW.out _ (HF.out _))).mono ?_; rintro e w5 ⟨rfl, hb5⟩; exact ⟨rfl, HO.out _ ((HF.out _).trans (hb5.mono (HF.out _).size))⟩)
      | (go_at_call 4; with_reducible refine (GH.out _ (HBW.out _ (HF.out _))).mono ?_; rintro e w5 ⟨rfl, hb5⟩; exact ⟨rfl, HO.out _ ((HF.out _).trans (hb5.mono (HF.out _).size))⟩)
      | (go_at_call 4; with_reducible refine (FH.out _ (HBW.out _ (HF.out _))).mono ?_; rintro e w5 ⟨rfl, hb5⟩; exact ⟨rfl, HO.out _ ((HF.out _).trans (hb5.mono (HF.out _).size))⟩)
      | (go_at_call 6; with_reducible refine (SF.out _ (HBW.out _ (HF.out _))).mono ?_; rintro e w5 ⟨rfl, hb5⟩; exact ⟨rfl, HO.out _ ((HF.out _).trans (hb5.mono (HF.out _).size))⟩)
      | (go_at_call 6; with_reducible refine (SG.out _ (HBW.out _ (HF.out _))).mono ?_; rintro e w5 ⟨rfl, hb5⟩; exact ⟨rfl, HO.out _ ((HF.out _).trans (hb5.mono (HF.out _).size))⟩)))
    refine wpQuiet_nil ?_
    rintro _ ⟨nq, rfl⟩
    have hV := HF.out nq
    obtain ⟨V, hVe⟩ : ∃ V, F nq = V := ⟨_, rfl⟩
    rw [hVe] at hV ⊢
    have HV : Hid (Below v2.heap.size v2 V) := hV
    have z1 := (X1.out _ hV).t1
    have z2 := (X1.out _ hV).t2
    clear f0 f1 f2 g0 g1 g2 h0 h1 h2 HF HO hV hVe FF FG GF GH FH SG HBX
    rcases HD1.out with ⟨k1, k2, k3⟩ | ⟨k1, k2, k3⟩
    · obtain ⟨rfl, rfl, rfl⟩ : L1 = [] ∧ E1 = 40 ∧ P1 = 0 := by simp only [Prod.mk.injEq] at k3; exact k3
      have q0 : PF.toList.isEmpty = true := by rw [k2, ByteArray.toList_eq]; rfl
      have HVA : Hid (∀ v (c : Int), Below w.heap.size w v → Calls Tryd.prog 8 #[.agg #[.slice f.a2 f.ns.length f.c2], .int .i64 c] v fun e w' => e = .returned (.bool false) ∧ Below v.heap.size v w') := HVL.out k1
      rw [List.length_nil] at DP
      clear k1 k2 k3 HD1 HVL
      rcases HD2.out with ⟨m1, m2, m3⟩ | ⟨m1, m2, m3, m4, m5, m6⟩
      · have hP2 : (P2 : Int) ≤ (s.size : Int) := by rw [dlen] at m3; omega
        have hP0 : (0 : Int) ≤ (P2 : Int) := by omega
        subst m1 m2
        rw [List.length_nil] at DS
        clear HD2 m3 HST
        go_wp2_with (first
          | (go_at_call 6; (with_reducible refine (SF.out _ (HBW.out _ HV.out)).mono ?_); rintro e w5 ⟨rfl, hb5⟩; have HV5 : Hid (Below v2.heap.size v2 w5) := HV.out.trans (hb5.mono HV.out.size); clear hb5 z1 z2)
          | (go_at_call 7; (with_reducible refine (DP.out _ (HBW.out _ HV5.out)).mono ?_); rintro e w6 ⟨a6, c6, rfl, hl6, hb6⟩; have HV6 : Hid (Below v2.heap.size v2 w6) := HV5.out.trans (hb6.mono HV5.out.size); obtain ⟨w7, e7, hw7, hs7, x7⟩ := bx1 w6 #[.slice a6 0 c6] 25; have HE7 : Hid (w6.alloc (.cells #[.slice a6 0 c6] 25) = w7) := e7; have HV7 : Hid (Below v2.heap.size v2 w7) := HV6.out.trans (hw7.mono HV6.out.size); have HX7 : Hid (Bx w7 w6.heap.size #[.slice a6 0 c6] 25) := x7; have y1 : (w6.alloc (.cells #[.slice a6 0 c6] 25)).cell? ⟨w.heap.size, 1, none⟩ = some (.slice f.a1 f.ts.length f.c1) := (by rw [e7]; exact (X1.out _ HV7.out).t1); have y2 : (w6.alloc (.cells #[.slice a6 0 c6] 25)).cell? ⟨w.heap.size, 2, none⟩ = some (.slice f.a2 f.ns.length f.c2) := (by rw [e7]; exact (X1.out _ HV7.out).t2); clear hb6 hl6 e7 hw7 x7)
          | (go_at_call 8; rw [HE7.out]; (with_reducible refine (HVA.out _ _ (HBW.out _ HV7.out)).mono ?_); rintro e w8 ⟨rfl, hb8⟩; have HV8 : Hid (Below v2.heap.size v2 w8) := HV7.out.trans (hb8.mono HV7.out.size); have HX8 : Hid (Bx w8 w6.heap.size #[.slice a6 0 c6] 25) := HX7.out.below hb8 HX7.out.lt; clear hb8 y1 y2)
          | (go_at_call 7; (with_reducible refine (DS.out _ (HBW.out _ HV8.out)).mono ?_); rintro e w10 ⟨a10, c10, rfl, hl10, hb10⟩; have HB10 : Hid (Below v2.heap.size v2 w10) := HV8.out.trans (hb10.mono HV8.out.size); have HX10 : Hid (Bx w10 w6.heap.size #[.slice a6 0 c6] 25) := HX8.out.below hb10 HX8.out.lt; have o1 := HX10.out.one; have o2 := HX10.out.free 0; have o3 : (w10.setCell ⟨w6.heap.size, 0, none⟩ (.slice a10 0 c10)).cell? ⟨w6.heap.size, 0, none⟩ = some (.slice a10 0 c10) := ((HX10.out.set 0 _).cell 0); clear hl10 hb10))
        go_ret
        exact ⟨rfl, (HBW.out _ HB10.out).setCell (p := ⟨w6.heap.size, 0, none⟩) (by show w.heap.size ≤ w6.heap.size; have := (HBW.out _ HV6.out).size; omega) _⟩
      · have hse : s.toList.isEmpty = false := by
          rw [List.isEmpty_eq_false_iff, ByteArray.toList_eq]; exact m3
        have hss : (s.toList == s.toList) = true := beq_self_eq_true _
        have HSB : Hid (skB nams L2 = s) := skB_back m4 m5
        have HM6 : Hid (∀ x ∈ L2, NdFit x) := m6
        subst m1 m2
        clear HD2 m3 m4 m5 m6
        go_wp2_with (first
          | (go_at_call 6; (with_reducible refine (SF.out _ (HBW.out _ HV.out)).mono ?_); rintro e w5 ⟨rfl, hb5⟩; have HV5 : Hid (Below v2.heap.size v2 w5) := HV.out.trans (hb5.mono HV.out.size); clear hb5 z1 z2)
          | (go_at_call 7; (with_reducible refine (DP.out _ (HBW.out _ HV5.out)).mono ?_); rintro e w6 ⟨a6, c6, rfl, hl6, hb6⟩; have HV6 : Hid (Below v2.heap.size v2 w6) := HV5.out.trans (hb6.mono HV5.out.size); obtain ⟨w7, e7, hw7, hs7, x7⟩ := bx1 w6 #[.slice a6 0 c6] 25; have HE7 : Hid (w6.alloc (.cells #[.slice a6 0 c6] 25) = w7) := e7; have HV7 : Hid (Below v2.heap.size v2 w7) := HV6.out.trans (hw7.mono HV6.out.size); have HX7 : Hid (Bx w7 w6.heap.size #[.slice a6 0 c6] 25) := x7; have y1 : (w6.alloc (.cells #[.slice a6 0 c6] 25)).cell? ⟨w.heap.size, 1, none⟩ = some (.slice f.a1 f.ts.length f.c1) := (by rw [e7]; exact (X1.out _ HV7.out).t1); have y2 : (w6.alloc (.cells #[.slice a6 0 c6] 25)).cell? ⟨w.heap.size, 2, none⟩ = some (.slice f.a2 f.ns.length f.c2) := (by rw [e7]; exact (X1.out _ HV7.out).t2); clear hb6 hl6 e7 hw7 x7)
          | (go_at_call 8; rw [HE7.out]; (with_reducible refine (HVA.out _ _ (HBW.out _ HV7.out)).mono ?_); rintro e w8 ⟨rfl, hb8⟩; have HV8 : Hid (Below v2.heap.size v2 w8) := HV7.out.trans (hb8.mono HV7.out.size); have HX8 : Hid (Bx w8 w6.heap.size #[.slice a6 0 c6] 25) := HX7.out.below hb8 HX7.out.lt; clear hb8 y1 y2)
          | (go_at_call 7; (with_reducible refine (DS.out _ (HBW.out _ HV8.out)).mono ?_); rintro e w10 ⟨a10, c10, rfl, hl10, hb10⟩; have HB10 : Hid (Below v2.heap.size v2 w10) := HV8.out.trans (hb10.mono HV8.out.size); have HX10 : Hid (Bx w10 w6.heap.size #[.slice a6 0 c6] 25) := HX8.out.below hb10 HX8.out.lt; have o1 := HX10.out.one; have o2 := HX10.out.free 0; have o3 : (w10.setCell ⟨w6.heap.size, 0, none⟩ (.slice a10 L2.length c10)).cell? ⟨w6.heap.size, 0, none⟩ = some (.slice a10 L2.length c10) := ((HX10.out.set 0 _).cell 0); have HL10 : Hid (LiesA (w10.setCell ⟨w6.heap.size, 0, none⟩ (.slice a10 L2.length c10)) a10 L2) := hl10.put HX10.out _; have HB11 : Hid (Below w.heap.size w (w10.setCell ⟨w6.heap.size, 0, none⟩ (.slice a10 L2.length c10))) := (HBW.out _ HB10.out).setCell (p := ⟨w6.heap.size, 0, none⟩) (by show w.heap.size ≤ w6.heap.size; have := (HBW.out _ HV6.out).size; omega) _; clear hl10 hb10)
          | (go_at_call 6; (with_reducible refine (HST.out _ _ _ HB11.out HL10.out HM6.out).mono ?_); rintro e w12 ⟨rfl, hb12⟩; rw [HSB.out]; have HB12 : Hid (Below w.heap.size w w12) := HB11.out.trans (hb12.mono HB11.out.size); clear hb12))
        go_ret
        exact ⟨rfl, HB12.out⟩
    · obtain ⟨rfl, rfl, rfl⟩ : L1 = stp f.ns ∧ E1 = 0 ∧ P1 = 0 := by simp only [Prod.mk.injEq] at k3; exact k3
      have HK1 : Hid (shB f.ns = true) := k1
      have q0 : PF.toList.isEmpty = false := by
        rw [List.isEmpty_eq_false_iff]; intro e
        have : PF.toList.length = 0 := by rw [e]; rfl
        rw [ByteArray.toList_eq, dlen] at this
        omega
      rw [stp_len] at DP
      have hnz : 0 < f.ns.length := by
        obtain ⟨⟨x, hx, -⟩, -⟩ := shB_parts k1
        exact (List.getElem?_eq_some_iff.1 hx).1
      obtain ⟨bf, of, ef, hLf⟩ : ∃ b o, f.a2 = some ⟨b, o, none⟩ ∧ Lies w b o f.ns := by
        rcases HFL.out.1 with e | e
        · rw [e] at hnz; cases hnz
        · exact e
      have HLF : Hid (∀ v, Below w.heap.size w v → Lies v bf of f.ns) := fun v hv => hLf.below hv hLf.1
      have HEF : Hid (f.a2 = some ⟨bf, of, none⟩) := ef
      have HN7 : Hid (∀ (i : Nat) x, f.ns[i]? = some x → (stp f.ns)[i]? = some ⟨x.k, 0, 0, x.s⟩) := fun i x hx => by rw [stp_at, hx]; rfl
      have hnz1 : ¬ (f.ns.length : Int) = 0 := by omega
      have hnn : ((f.ns.length : Int) != (f.ns.length : Int)) = false := by simp
      clear k1 k3 HD1 HVL ef hLf
      go_wp2_with (first
        | (go_at_call 6; (with_reducible refine (SF.out _ (HBW.out _ HV.out)).mono ?_); rintro e w5 ⟨rfl, hb5⟩; have HV5 : Hid (Below v2.heap.size v2 w5) := HV.out.trans (hb5.mono HV.out.size); clear hb5 z1 z2)
        | (go_at_call 7; (with_reducible refine (DP.out _ (HBW.out _ HV5.out)).mono ?_); rintro e w6 ⟨a6, c6, rfl, hl6, hb6⟩; have HV6 : Hid (Below v2.heap.size v2 w6) := HV5.out.trans (hb6.mono HV5.out.size); obtain ⟨b6, o6, rfl, hL6⟩ : ∃ b o, a6 = some ⟨b, o, none⟩ ∧ Lies w6 b o (stp f.ns) := (hl6.elim (fun e => absurd (show (stp f.ns).length = 0 by rw [e]; rfl) (by rw [stp_len]; omega)) id); have HL6 : Hid (Lies w6 b6 o6 (stp f.ns)) := hL6; obtain ⟨w7, e7, hw7, hs7, x7⟩ := bx1 w6 #[.slice (some ⟨b6, o6, none⟩) f.ns.length c6] 25; have HE7 : Hid (w6.alloc (.cells #[.slice (some ⟨b6, o6, none⟩) f.ns.length c6] 25) = w7) := e7; have HV7 : Hid (Below v2.heap.size v2 w7) := HV6.out.trans (hw7.mono HV6.out.size); have HX7 : Hid (Bx w7 w6.heap.size #[.slice (some ⟨b6, o6, none⟩) f.ns.length c6] 25) := x7; have HL7 : Hid (Lies w7 b6 o6 (stp f.ns)) := hL6.below hw7 hL6.1; have y2 : (w6.alloc (.cells #[.slice (some ⟨b6, o6, none⟩) f.ns.length c6] 25)).cell? ⟨w.heap.size, 2, none⟩ = some (.slice (some ⟨bf, of, none⟩) f.ns.length f.c2) := (by rw [e7, ← HEF.out]; exact (X1.out _ HV7.out).t2); have yt : (w6.alloc (.cells #[.slice (some ⟨b6, o6, none⟩) f.ns.length c6] 25)).cell? ⟨w6.heap.size, 0, none⟩ = some (.slice (some ⟨b6, o6, none⟩) f.ns.length c6) := (by rw [e7]; exact x7.one); clear hb6 hl6 hL6 e7 hw7 x7))
      rw [HE7.out]
      clear y2 yt
      go_loopg [107] f.ns.length (fun gk si wr => ∃ k : Nat, gk = f.ns.length - k ∧ k ≤ f.ns.length ∧ si = .int .i64 (k : Int) ∧ Below w7.heap.size w7 wr)
      case atStart => exact ⟨0, rfl, Nat.zero_le _, rfl, Below.refl _ _⟩
      case round =>
        obtain ⟨k, rfl, hk, rfl, hbel⟩ := hrel
        have HBR : Hid (Below w7.heap.size w7 wr) := hbel
        have HWR : Hid (Below v2.heap.size v2 wr) := HV7.out.trans (hbel.mono HV7.out.size)
        clear hbel
        by_cases hlt : k < f.ns.length
        · obtain ⟨x, hx⟩ : ∃ e, f.ns[k]? = some e := ⟨_, List.getElem?_eq_getElem hlt⟩
          have hlt' : (k : Int) < (f.ns.length : Int) := by omega
          obtain ⟨d0, d1, d2, d3⟩ := HL7.out.nd HBR.out (HN7.out k x hx)
          obtain ⟨xk, xf, xe, xs⟩ := x
          simp only at d0 d1 d2 d3
          obtain ⟨w8, e8, hb8, hs8, B8⟩ := bx1 wr #[.int .u8 xk, .int .i64 0, .int .i64 0, .int .i64 xs] 37
          obtain ⟨w9, e9, hb9, hs9, B9⟩ := bx1 w8 #[.int .u8 xk, .int .i64 xf, .int .i64 xe, .int .i64 xs] 37
          have HE8 : Hid (wr.alloc (.cells #[.int .u8 xk, .int .i64 0, .int .i64 0, .int .i64 xs] 37) = w8) := e8
          have HE9 : Hid (w8.alloc (.cells #[.int .u8 xk, .int .i64 xf, .int .i64 xe, .int .i64 xs] 37) = w9) := e9
          have HX9 : Hid (Bx w9 wr.heap.size #[.int .u8 xk, .int .i64 0, .int .i64 0, .int .i64 xs] 37) := B8.below hb9 (by omega)
          have HY9 : Hid (Bx w9 w8.heap.size #[.int .u8 xk, .int .i64 xf, .int .i64 xe, .int .i64 xs] 37) := B9
          have HW8 : Hid (Below v2.heap.size v2 w8) := HWR.out.trans (hb8.mono HWR.out.size)
          have HR9 : Hid (Below w7.heap.size w7 w9) := (HBR.out.trans (hb8.mono HBR.out.size)).trans (hb9.mono (HBR.out.trans (hb8.mono HBR.out.size)).size)
          obtain ⟨q0, q1, q2, q3⟩ := (HLF.out w8 (HBW.out _ HW8.out)).nd (Below.refl _ _) hx
          simp only at q0 q1 q2 q3
          have z2 := (X1.out _ HW8.out).t2
          rw [HEF.out] at z2
          clear hx e8 e9 hb8 hb9 hs9 B8 B9
          go_upto_region 14 with fail
          rw [HE8.out]
          clear d0 d1 d2 d3
          go_upto_region 15 with fail
          rw [HE9.out]
          clear q0 q1 q2 q3 z2
          rw [hs8] at HY9
          have x0 := HX9.out.cell 0
          have x1 := HX9.out.cell 1
          have x2 := HX9.out.cell 2
          have x3 := HX9.out.cell 3
          have y0 := HY9.out.cell 0
          have y3 := HY9.out.cell 3
          simp at x0 x1 x2 x3 y0 y3
          go_wp2
          go_roundg (f.ns.length - (k + 1))
          case measure => omega
          case rel => exact ⟨k + 1, rfl, by omega, by go_num, HR9.out⟩
        · have hlt' : ¬ (k : Int) < (f.ns.length : Int) := by omega
          have HXR : Hid (Bx wr w6.heap.size #[.slice (some ⟨b6, o6, none⟩) f.ns.length c6] 25) := HX7.out.below HBR.out HX7.out.lt
          rcases HD2.out with ⟨m1, m2, m3⟩ | ⟨m1, m2, m3, m4, m5, m6⟩
          · have hP2 : (P2 : Int) ≤ (s.size : Int) := by rw [dlen] at m3; omega
            have hP0 : (0 : Int) ≤ (P2 : Int) := by omega
            subst m1 m2
            rw [List.length_nil] at DS
            clear HD2 m3 HST
            go_wp2_with (go_at_call 7; (with_reducible refine (DS.out _ (HBW.out _ HWR.out)).mono ?_); rintro e w10 ⟨a10, c10, rfl, hl10, hb10⟩; have HB10 : Hid (Below v2.heap.size v2 w10) := HWR.out.trans (hb10.mono HWR.out.size); have HX10 : Hid (Bx w10 w6.heap.size #[.slice (some ⟨b6, o6, none⟩) f.ns.length c6] 25) := HXR.out.below hb10 HXR.out.lt; have o1 := HX10.out.one; have o2 := HX10.out.free 0; have o3 : (w10.setCell ⟨w6.heap.size, 0, none⟩ (.slice a10 0 c10)).cell? ⟨w6.heap.size, 0, none⟩ = some (.slice a10 0 c10) := ((HX10.out.set 0 _).cell 0); clear hl10 hb10)
            go_ret
            exact ⟨rfl, (HBW.out _ HB10.out).setCell (p := ⟨w6.heap.size, 0, none⟩) (by show w.heap.size ≤ w6.heap.size; have := (HBW.out _ HV6.out).size; omega) _⟩
          · have hse : s.toList.isEmpty = false := by
              rw [List.isEmpty_eq_false_iff, ByteArray.toList_eq]; exact m3
            have hss : (s.toList == s.toList) = true := beq_self_eq_true _
            have HSB : Hid (skB nams L2 = s) := skB_back m4 m5
            have HM6 : Hid (∀ x ∈ L2, NdFit x) := m6
            subst m1 m2
            clear HD2 m3 m4 m5 m6
            go_wp2_with (first
              | (go_at_call 7; (with_reducible refine (DS.out _ (HBW.out _ HWR.out)).mono ?_); rintro e w10 ⟨a10, c10, rfl, hl10, hb10⟩; have HB10 : Hid (Below v2.heap.size v2 w10) := HWR.out.trans (hb10.mono HWR.out.size); have HX10 : Hid (Bx w10 w6.heap.size #[.slice (some ⟨b6, o6, none⟩) f.ns.length c6] 25) := HXR.out.below hb10 HXR.out.lt; have o1 := HX10.out.one; have o2 := HX10.out.free 0; have o3 : (w10.setCell ⟨w6.heap.size, 0, none⟩ (.slice a10 L2.length c10)).cell? ⟨w6.heap.size, 0, none⟩ = some (.slice a10 L2.length c10) := ((HX10.out.set 0 _).cell 0); have HL10 : Hid (LiesA (w10.setCell ⟨w6.heap.size, 0, none⟩ (.slice a10 L2.length c10)) a10 L2) := hl10.put HX10.out _; have HB11 : Hid (Below w.heap.size w (w10.setCell ⟨w6.heap.size, 0, none⟩ (.slice a10 L2.length c10))) := (HBW.out _ HB10.out).setCell (p := ⟨w6.heap.size, 0, none⟩) (by show w.heap.size ≤ w6.heap.size; have := (HBW.out _ HV6.out).size; omega) _; clear hl10 hb10)
              | (go_at_call 6; (with_reducible refine (HST.out _ _ _ HB11.out HL10.out HM6.out).mono ?_); rintro e w12 ⟨rfl, hb12⟩; rw [HSB.out]; have HB12 : Hid (Below w.heap.size w w12) := HB11.out.trans (hb12.mono HB11.out.size); clear hb12))
            go_ret
            exact ⟨rfl, HB12.out⟩
end Go.Proofs.YtijcfgeafgddkaaDoor
