import Derived.Test.YtijcfgeafgddkaaDoorSa1
namespace Go.Proofs.YtijcfgeafgddkaaDoor
open Go.ChangeShapes Go.WideShapes Go.ChangeAt Go.RowKit
set_option linter.unusedVariables false

/-- are two nodes the same, each in its list of pieces? -/
def eqN (ts us : List Tk) (x y : Nd) : Bool := x.k == y.k && x.s == y.s && kof ts x == kof us y
/-- are two trees the same? -/
def samB (ts us : List Tk) (ns ms : List Nd) : Bool := ns.length == ms.length && (ns.zip ms).all fun p => eqN ts us p.1 p.2
theorem samB_len {ts us : List Tk} {ns ms : List Nd} (h : ns.length ≠ ms.length) : samB ts us ns ms = false := by
  simp [samB, h]
theorem samB_no {ts us : List Tk} {ns ms : List Nd} {i : Nat} {x y : Nd} (hx : ns[i]? = some x) (hy : ms[i]? = some y) (h : eqN ts us x y = false) : samB ts us ns ms = false := by
  have : (ns.zip ms).all (fun p => eqN ts us p.1 p.2) = false := by
    rw [List.all_eq_false]
    refine ⟨(x, y), ?_, by simp [h]⟩
    exact List.mem_of_getElem? (i := i) (by rw [List.getElem?_zip_eq_some]; exact ⟨hx, hy⟩)
  simp [samB, this]
theorem samB_yes {ts us : List Tk} {ns ms : List Nd} (hl : ns.length = ms.length) (h : ∀ i x y, i < ns.length → ns[i]? = some x → ms[i]? = some y → eqN ts us x y = true) : samB ts us ns ms = true := by
  have : (ns.zip ms).all (fun p => eqN ts us p.1 p.2) = true := by
    rw [List.all_eq_true]
    rintro ⟨x, y⟩ hm
    obtain ⟨i, hi⟩ := List.getElem?_of_mem hm
    rw [List.getElem?_zip_eq_some] at hi
    exact h i x y (by have := (List.getElem?_eq_some_iff.1 hi.1).1; exact this) hi.1 hi.2
  simp [samB, this, hl]

theorem kindsOf_any' (a : Option Addr) (cap : Nat) (ts : List Tk) (w : World) (h : LiesA w a ts) (hl : ts.length * 24 ≤ 140737488351232) (hf : ∀ e ∈ ts, TkFit e) :
    Calls Tryd.prog 9 #[.slice a ts.length cap] w fun e w' => ∃ sv a' c', e = .returned (.agg #[.string sv, .slice a' (ts.length + 1) c']) ∧ sv = ⟨(kby ts 0 ts.length).toArray⟩ ∧ LiesA w' a' (aL ts (ts.length + 1)) ∧ Below w.heap.size w w' := by
  refine (kindsOf_any a cap ts w h hl hf).mono ?_
  rintro e w' ⟨a', c', rfl, h1, h2⟩
  exact ⟨_, a', c', rfl, rfl, h1, h2⟩

theorem eqN_str {ts us : List Tk} {x y : Nd} {kx ky : ByteArray} (hkx : kx = ⟨(kof ts x).toArray⟩) (hky : ky = ⟨(kof us y).toArray⟩) : eqN ts us x y = (x.k == y.k && x.s == y.s && decide (kx = ky)) := by
  unfold eqN
  congr 1
  rw [Bool.eq_iff_iff, beq_iff_eq, decide_eq_true_iff, hkx, hky]
  constructor
  · intro h; rw [h]
  · intro h
    have h2 : (kof ts x).toArray.toList = (kof us y).toArray.toList := congrArg (fun b : ByteArray => b.data.toList) h
    exact h2

theorem str_ne {a b : ByteArray} (h : ¬ a = b) : (a.toList == b.toList) = false := by
  rw [beq_eq_false_iff_ne, ByteArray.toList_eq, ByteArray.toList_eq]
  intro h'
  exact h (ByteArray.ext (Array.toList_inj.1 h'))

theorem of_any' (sv kx : ByteArray) (x : Nd) (k t : Int) (a : Option Addr) (c : Nat) (ts : List Tk) (w : World) (e1 : x.k = k) (e2 : x.s = t) (hs : sv = ⟨(kby ts 0 ts.length).toArray⟩) (hk : kx = ⟨(kof ts x).toArray⟩) (h : LiesA w a (aL ts (ts.length + 1))) (hx : NdFit x) (hl : ts.length * 24 ≤ 140737488351232) :
    Calls Tryd.prog 10 #[.agg #[.string sv, .slice a (ts.length + 1) c], .agg #[.int .u8 k, .int .i64 x.f, .int .i64 x.e, .int .i64 t]] w fun e w' => e = .returned (.string kx) ∧ Below w.heap.size w w' := by
  subst hs hk e1 e2
  exact of_any x a c ts w h hx hl

theorem two_rows1 {w4 w5 : World} {o1 o2 : Array Value} {T : TypeId} (HX : Hid (Bx w5 w4.heap.size o1 T)) (HY : Hid (Bx w5 (w4.heap.size + 1) o2 T)) (HB : Hid (Below w4.heap.size w4 w5)) (HS : Hid (w5.heap.size = w4.heap.size + 2)) (n : Array Value) :
    ∃ w6, w5.setRow w4.heap.size n = w6 ∧ Hid (Bx w6 w4.heap.size n T) ∧ Hid (Bx w6 (w4.heap.size + 1) o2 T) ∧ Hid (Below w4.heap.size w4 w6) ∧ Hid (w6.heap.size = w4.heap.size + 2) :=
  ⟨_, rfl, setRow_heap _ _ _ _ _ _ HX.out, (setRow_other _ _ _ _ (by omega)).trans HY.out, below_setRow HB.out (Nat.le_refl _) _, by unfold Hid; rw [size_setRow]; exact HS.out⟩
theorem two_rows2 {w4 w5 : World} {o1 o2 : Array Value} {T : TypeId} (HX : Hid (Bx w5 w4.heap.size o1 T)) (HY : Hid (Bx w5 (w4.heap.size + 1) o2 T)) (HB : Hid (Below w4.heap.size w4 w5)) (HS : Hid (w5.heap.size = w4.heap.size + 2)) (n : Array Value) :
    ∃ w6, w5.setRow (w4.heap.size + 1) n = w6 ∧ Hid (Bx w6 w4.heap.size o1 T) ∧ Hid (Bx w6 (w4.heap.size + 1) n T) ∧ Hid (Below w4.heap.size w4 w6) ∧ Hid (w6.heap.size = w4.heap.size + 2) :=
  ⟨_, rfl, (setRow_other _ _ _ _ (by omega)).trans HX.out, setRow_heap _ _ _ _ _ _ HY.out, below_setRow HB.out (by omega) _, by unfold Hid; rw [size_setRow]; exact HS.out⟩

set_option maxRecDepth 1000000 in
set_option maxHeartbeats 400000 in
theorem same_any (a1 a2 a3 a4 : Option Addr) (c1 c2 c3 c4 : Nat) (ts us : List Tk) (ns ms : List Nd) (w : World) (h1 : LiesA w a1 ts) (h2 : LiesA w a2 ns) (h3 : LiesA w a3 us) (h4 : LiesA w a4 ms)
    (hl1 : ts.length * 24 ≤ 140737488351232) (hl2 : ns.length * 32 ≤ 140737488351232) (hl3 : us.length * 24 ≤ 140737488351232) (hl4 : ms.length * 32 ≤ 140737488351232)
    (hf1 : ∀ e ∈ ts, TkFit e) (hf2 : ∀ e ∈ ns, NdFit e) (hf3 : ∀ e ∈ us, TkFit e) (hf4 : ∀ e ∈ ms, NdFit e) :
    Calls Tryd.prog 5 #[.slice a1 ts.length c1, .agg #[.slice a2 ns.length c2], .slice a3 us.length c3, .agg #[.slice a4 ms.length c4]] w fun e w' => e = .returned (.bool (samB ts us ns ms)) ∧ Below w.heap.size w w' := by
  have H1 : Hid (LiesA w a1 ts) := h1
  have H2 : Hid (LiesA w a2 ns) := h2
  have H3 : Hid (LiesA w a3 us) := h3
  have H4 : Hid (LiesA w a4 ms) := h4
  have HF1 : Hid (∀ e ∈ ts, TkFit e) := hf1
  have HF2 : Hid (∀ e ∈ ns, NdFit e) := hf2
  have HF3 : Hid (∀ e ∈ us, TkFit e) := hf3
  have HF4 : Hid (∀ e ∈ ms, NdFit e) := hf4
  clear h1 h2 h3 h4 hf1 hf2 hf3 hf4
  by_cases hlen : ns.length = ms.length
  · have HL : Hid (ns.length = ms.length) := hlen
    rw [← hlen]
    obtain ⟨w2, e2, hw, hs2, B0, C0⟩ := bx2 w #[.slice a2 ns.length c2] #[.slice a4 ns.length c4] 25 25
    have HB0 : Hid (Below w.heap.size w w2) := hw
    have HX0 : Hid (Bx w2 w.heap.size #[.slice a2 ns.length c2] 25) := B0
    have HC0 : Hid (Bx w2 (w.heap.size + 1) #[.slice a4 ns.length c4] 25) := C0
    have HE2 : Hid ((w.alloc (.cells #[.slice a2 ns.length c2] 25)).alloc (.cells #[.slice a4 ns.length c4] 25) = w2) := e2
    have HS2 : Hid (w2.heap.size = w.heap.size + 2) := hs2
    have x0 := B0.one
    have x1 := C0.one
    clear hlen hw hs2 B0 C0 e2
    go_enter Tryd.func5, Tryd.ntmps5
    go_upto_region 1 with fail
    rw [HE2.out]
    go_upto_region 4 with (first
      | (go_at_call 9; (with_reducible refine (kindsOf_any' a1 c1 ts _ (H1.out.below HB0.out) hl1 HF1.out).mono ?_); rintro e w3 ⟨s1, a5, c5, rfl, hs1, hla, hb3⟩; have HLA : Hid (LiesA w3 a5 (aL ts (ts.length + 1))) := hla; have HB3 : Hid (Below w2.heap.size w2 w3) := hb3; have HS1 : Hid (s1 = ⟨(kby ts 0 ts.length).toArray⟩) := hs1; clear hla hb3 hs1)
      | (go_at_call 9; (with_reducible refine (kindsOf_any' a3 c3 us _ (H3.out.below (HB0.out.trans (HB3.out.mono HB0.out.size))) hl3 HF3.out).mono ?_); rintro e w4 ⟨s2, a6, c6, rfl, hs2, hla, hb4⟩; have HLB : Hid (LiesA w4 a6 (aL us (us.length + 1))) := hla; have HB4 : Hid (Below w3.heap.size w3 w4) := hb4; have HS2' : Hid (s2 = ⟨(kby us 0 us.length).toArray⟩) := hs2; clear hla hb4 hs2; obtain ⟨w5, e5, hb5, hs5, B5, C5⟩ := bx2 w4 #[.string ⟨#[]⟩, .slice none 0 0] #[.string ⟨#[]⟩, .slice none 0 0] 41 41; have HE5 : Hid ((w4.alloc (.cells #[.string ⟨#[]⟩, .slice none 0 0] 41)).alloc (.cells #[.string ⟨#[]⟩, .slice none 0 0] 41) = w5) := e5; have HB5 : Hid (Below w4.heap.size w4 w5) := hb5; have HS5 : Hid (w5.heap.size = w4.heap.size + 2) := hs5; have HX5 : Hid (Bx w5 w4.heap.size #[.string ⟨#[]⟩, .slice none 0 0] 41) := B5; have HY5 : Hid (Bx w5 (w4.heap.size + 1) #[.string ⟨#[]⟩, .slice none 0 0] 41) := C5; clear e5 hb5 hs5 B5 C5)
      | ((with_reducible refine wpList_plain (o := { dst := none, op := .store 41 (.tmp 9) (.tmp 22), type := 0, pos := _, after := _, guard := none }) ?_ ?_); exact rfl; rw [HE5.out]; intro _ hK; refine wp_store_row 41 (.tmp 9) (.tmp 22) rfl w4.heap.size #[.string s1, .slice a5 (ts.length + 1) c5] rfl rfl _ _ HX5.out (by kernel_rfl) rfl (by simp [Value.oneCell']) (hK _ _ ?_); clear hK; obtain ⟨w6, e6, HX6, HY6, HB6, HS6⟩ := two_rows1 HX5 HY5 HB5 HS5 #[.string s1, .slice a5 (ts.length + 1) c5]; rw [e6]; clear e6)
      | ((with_reducible refine wpList_plain (o := { dst := none, op := .store 41 (.tmp 10) (.tmp 24), type := 0, pos := _, after := _, guard := none }) ?_ ?_); exact rfl; intro _ hK; refine wp_store_row 41 (.tmp 10) (.tmp 24) rfl (w4.heap.size + 1) #[.string s2, .slice a6 (us.length + 1) c6] rfl rfl _ _ HY6.out (by kernel_rfl) rfl (by simp [Value.oneCell']) (hK _ _ ?_); clear hK; obtain ⟨w7, e7, HX7, HY7, HB7, HS7⟩ := two_rows2 HX6 HY6 HB6 HS6 #[.string s2, .slice a6 (us.length + 1) c6]; rw [e7]; clear e7)
      | fail)
    simp only [Act.put]
    have HW7 : Hid (Below w2.heap.size w2 w7) := HB3.out.trans ((HB4.out.trans (HB7.out.mono HB4.out.size)).mono HB3.out.size)
    have HW : Hid (Below w.heap.size w w7) := HB0.out.trans (HW7.out.mono HB0.out.size)
    have HLA7 : Hid (LiesA w7 a5 (aL ts (ts.length + 1))) := HLA.out.below (HB4.out.trans (HB7.out.mono HB4.out.size))
    have HLB7 : Hid (LiesA w7 a6 (aL us (us.length + 1))) := HLB.out.below HB7.out
    have HT7 : Hid (Bx w7 w.heap.size #[.slice a2 ns.length c2] 25) := HX0.out.below HW7.out (by have := HS2.out; omega)
    have HU7 : Hid (Bx w7 (w.heap.size + 1) #[.slice a4 ns.length c4] 25) := HC0.out.below HW7.out (by have := HS2.out; omega)
    have z0 := HT7.out.one
    have HS7' : Hid (w.heap.size + 4 ≤ w7.heap.size) := by unfold Hid; have := HS7.out; have := HB4.out.size; have := HB3.out.size; have := HS2.out; omega
    clear x0 x1 HLA HLB HB3 HB4 HB5 HB6 HX5 HX6 HY5 HY6 HS5 HS6 HE5 HX0 HC0 HE2
    go_wp2
    go_loopw [28] (fun i wr => ∃ k : Nat, k ≤ ns.length ∧ i = .int .i64 k ∧ Below w7.heap.size w7 wr ∧ ∀ j x y, j < k → ns[j]? = some x → ms[j]? = some y → eqN ts us x y = true) (fun i _ => ns.length - (intOf i).toNat)
    case atStart => exact ⟨0, Nat.zero_le _, rfl, Below.refl _ _, fun j x y h => absurd h (Nat.not_lt_zero _)⟩
    case round =>
      obtain ⟨k, hk, rfl, hbel, hall⟩ := hrel
      have HBR : Hid (Below w7.heap.size w7 wr) := hbel
      have HA : Hid (∀ j x y, j < k → ns[j]? = some x → ms[j]? = some y → eqN ts us x y = true) := hall
      have HWR : Hid (Below w.heap.size w wr) := HW.out.trans (hbel.mono HW.out.size)
      clear hbel hall z0
      by_cases hlt : k < ns.length
      · obtain ⟨x, hx⟩ : ∃ e, ns[k]? = some e := ⟨_, List.getElem?_eq_getElem hlt⟩
        obtain ⟨y, hy⟩ : ∃ e, ms[k]? = some e := ⟨_, List.getElem?_eq_getElem (by have := HL.out; omega)⟩
        have HX : Hid (ns[k]? = some x) := hx
        have HY : Hid (ms[k]? = some y) := hy
        have HFX : Hid (NdFit x) := HF2.out x (List.mem_of_getElem? hx)
        have HFY : Hid (NdFit y) := HF4.out y (List.mem_of_getElem? hy)
        rcases H2.out with h0 | ⟨b2, o2, rfl, hL2⟩
        · rw [h0] at hlt; simp at hlt
        rcases H4.out with h0 | ⟨b4, o4, rfl, hL4⟩
        · have h5 := HL.out; rw [h0] at h5; rw [h5] at hlt; simp at hlt
        obtain ⟨d0, d1, d2, d3⟩ := hL2.nd HWR.out hx
        have hlt' : (k : Int) < (ns.length : Int) := by omega
        obtain ⟨w8, e8, hb8, hs8, B8⟩ := bx1 wr #[.int .u8 x.k, .int .i64 x.f, .int .i64 x.e, .int .i64 x.s] 37
        obtain ⟨w9, e9, hb9, hs9, B9⟩ := bx1 w8 #[.int .u8 y.k, .int .i64 y.f, .int .i64 y.e, .int .i64 y.s] 37
        have HE8 : Hid (wr.alloc (.cells #[.int .u8 x.k, .int .i64 x.f, .int .i64 x.e, .int .i64 x.s] 37) = w8) := e8
        have HE9 : Hid (w8.alloc (.cells #[.int .u8 y.k, .int .i64 y.f, .int .i64 y.e, .int .i64 y.s] 37) = w9) := e9
        have HX9 : Hid (Bx w9 wr.heap.size #[.int .u8 x.k, .int .i64 x.f, .int .i64 x.e, .int .i64 x.s] 37) := B8.below hb9 (by omega)
        have HY9 : Hid (Bx w9 w8.heap.size #[.int .u8 y.k, .int .i64 y.f, .int .i64 y.e, .int .i64 y.s] 37) := B9
        have HR8 : Hid (Below w7.heap.size w7 w8) := HBR.out.trans (hb8.mono HBR.out.size)
        have HR9 : Hid (Below w7.heap.size w7 w9) := HR8.out.trans (hb9.mono HR8.out.size)
        have HLA9 : Hid (LiesA w9 a5 (aL ts (ts.length + 1))) := HLA7.out.below HR9.out
        have HLB9 : Hid (LiesA w9 a6 (aL us (us.length + 1))) := HLB7.out.below HR9.out
        have HK9 : Hid (Bx w9 w4.heap.size #[.string s1, .slice a5 (ts.length + 1) c5] 41) := HX7.out.below HR9.out (by have := HS7.out; omega)
        have HM9 : Hid (Bx w9 (w4.heap.size + 1) #[.string s2, .slice a6 (us.length + 1) c6] 41) := HY7.out.below HR9.out (by have := HS7.out; omega)
        have z1 := (HU7.out.below HR8.out (by have := HS7'.out; omega)).one
        obtain ⟨q0, q1, q2, q3⟩ := hL4.nd (HWR.out.trans (hb8.mono HWR.out.size)) hy
        have hb4r : b4 < w8.heap.size := by have := hL4.1; have := HWR.out.size; omega
        have hu8 : w.heap.size + 1 < w8.heap.size := by have := HS7'.out; have := HR8.out.size; omega
        clear hx hy hL2 hL4 e8 e9 hb8 hb9 hs8 hs9 B8 B9
        go_upto_region 7 with fail
        rw [HE8.out]
        clear d0 d1 d2 d3
        go_upto_region 8 with fail
        rw [HE9.out]
        clear q0 q1 q2 q3 z1
        obtain ⟨kx, hkx⟩ : ∃ kx : ByteArray, kx = ⟨(kof ts x).toArray⟩ := ⟨_, rfl⟩
        obtain ⟨ky, hky⟩ : ∃ ky : ByteArray, ky = ⟨(kof us y).toArray⟩ := ⟨_, rfl⟩
        have HKX : Hid (kx = ⟨(kof ts x).toArray⟩) := hkx
        have HKY : Hid (ky = ⟨(kof us y).toArray⟩) := hky
        have HEQ : Hid (eqN ts us x y = (x.k == y.k && x.s == y.s && decide (kx = ky))) := eqN_str hkx hky
        clear hkx hky
        obtain ⟨X, F, hX, hF, onto⟩ := class_of (fun v => Below w9.heap.size w9 v) (Below.refl _ w9)
        have HF : Hid (∀ y, Below w9.heap.size w9 (F y)) := hF
        have HO : Hid (∀ v, Below w9.heap.size w9 v → ∃ x, v = F x) := fun v h => by obtain ⟨x, hx⟩ := onto v h; exact ⟨x, hx.symm⟩
        have f0 : ∀ v, (F v).cell? ⟨wr.heap.size, 0, none⟩ = some (.int .u8 x.k) := fun v => (HX9.out.below (hF v) HX9.out.lt).cell 0
        have f1 : ∀ v, (F v).cell? ⟨wr.heap.size, 1, none⟩ = some (.int .i64 x.f) := fun v => (HX9.out.below (hF v) HX9.out.lt).cell 1
        have f2 : ∀ v, (F v).cell? ⟨wr.heap.size, 2, none⟩ = some (.int .i64 x.e) := fun v => (HX9.out.below (hF v) HX9.out.lt).cell 2
        have f3 : ∀ v, (F v).cell? ⟨wr.heap.size, 3, none⟩ = some (.int .i64 x.s) := fun v => (HX9.out.below (hF v) HX9.out.lt).cell 3
        have g0 : ∀ v, (F v).cell? ⟨w8.heap.size, 0, none⟩ = some (.int .u8 y.k) := fun v => (HY9.out.below (hF v) HY9.out.lt).cell 0
        have g1 : ∀ v, (F v).cell? ⟨w8.heap.size, 1, none⟩ = some (.int .i64 y.f) := fun v => (HY9.out.below (hF v) HY9.out.lt).cell 1
        have g2 : ∀ v, (F v).cell? ⟨w8.heap.size, 2, none⟩ = some (.int .i64 y.e) := fun v => (HY9.out.below (hF v) HY9.out.lt).cell 2
        have g3 : ∀ v, (F v).cell? ⟨w8.heap.size, 3, none⟩ = some (.int .i64 y.s) := fun v => (HY9.out.below (hF v) HY9.out.lt).cell 3
        have l0 : ∀ v, (F v).cell? ⟨w4.heap.size, 0, none⟩ = some (.string s1) := fun v => (HK9.out.below (hF v) HK9.out.lt).cell 0
        have l1 : ∀ v, (F v).cell? ⟨w4.heap.size, 1, none⟩ = some (.slice a5 (ts.length + 1) c5) := fun v => (HK9.out.below (hF v) HK9.out.lt).cell 1
        have r0 : ∀ v, (F v).cell? ⟨w4.heap.size + 1, 0, none⟩ = some (.string s2) := fun v => (HM9.out.below (hF v) HM9.out.lt).cell 0
        have r1 : ∀ v, (F v).cell? ⟨w4.heap.size + 1, 1, none⟩ = some (.slice a6 (us.length + 1) c6) := fun v => (HM9.out.below (hF v) HM9.out.lt).cell 1
        clear hF onto
        by_cases e1 : x.k = y.k
        · by_cases e2 : x.s = y.s
          · by_cases e3 : kx = ky
            · have e1' : (x.k != y.k) = false := by simp [e1]
              have e2' : (x.s != y.s) = false := by simp [e2]
              have HYES : Hid (eqN ts us x y = true) := by unfold Hid; rw [HEQ.out, e1, e2, e3]; simp
              have HE3 : Hid (kx = ky) := e3
              refine region_class F (by kernel_rfl) (by kernel_rfl) (by obtain ⟨x, hx⟩ := HO.out _ (Below.refl _ _).drew; exact ⟨x, hx.symm⟩) ?_
              repeat (go_big_quiet_step (first
                | (go_at_call 10; (with_reducible refine (of_any' s1 kx x y.k y.s a5 c5 ts _ e1 e2 HS1.out HKX.out (HLA9.out.below (HF.out _)) HFX.out hl1).mono ?_); rintro e w5 ⟨rfl, hb5⟩; exact ⟨rfl, HO.out _ ((HF.out _).trans (hb5.mono (HF.out _).size))⟩)
                | (go_at_call 10; (with_reducible refine (of_any' s2 ky y y.k y.s a6 c6 us _ rfl rfl HS2'.out HKY.out (HLB9.out.below (HF.out _)) HFY.out hl3).mono ?_); rintro e w5 ⟨rfl, hb5⟩; exact ⟨rfl, HO.out _ ((HF.out _).trans (hb5.mono (HF.out _).size))⟩)))
              refine wpQuiet_nil ?_
              rintro _ ⟨nq, rfl⟩
              go_wp2
              go_roundw
              case rel =>
                refine ⟨k + 1, by omega, by go_num, HR9.out.trans ((HF.out nq).mono HR9.out.size), fun j x' y' hj hx' hy' => ?_⟩
                by_cases hjk : j < k
                · exact HA.out j x' y' hjk hx' hy'
                · obtain rfl : j = k := by omega
                  have h1 := HX.out; have h2 := HY.out
                  rw [h1] at hx'; rw [h2] at hy'
                  cases hx'; cases hy'
                  exact HYES.out
              case measure => simp [intOf]; omega
            · have e1' : (x.k != y.k) = false := by simp [e1]
              have e2' : (x.s != y.s) = false := by simp [e2]
              have e3' := str_ne e3
              have HNO : Hid (samB ts us ns ms = false) := samB_no HX.out HY.out (by rw [HEQ.out]; simp [e3])
              refine region_class F (by kernel_rfl) (by kernel_rfl) (by obtain ⟨x, hx⟩ := HO.out _ (Below.refl _ _).drew; exact ⟨x, hx.symm⟩) ?_
              repeat (go_big_quiet_step (first
                | (go_at_call 10; (with_reducible refine (of_any' s1 kx x y.k y.s a5 c5 ts _ e1 e2 HS1.out HKX.out (HLA9.out.below (HF.out _)) HFX.out hl1).mono ?_); rintro e w5 ⟨rfl, hb5⟩; exact ⟨rfl, HO.out _ ((HF.out _).trans (hb5.mono (HF.out _).size))⟩)
                | (go_at_call 10; (with_reducible refine (of_any' s2 ky y y.k y.s a6 c6 us _ rfl rfl HS2'.out HKY.out (HLB9.out.below (HF.out _)) HFY.out hl3).mono ?_); rintro e w5 ⟨rfl, hb5⟩; exact ⟨rfl, HO.out _ ((HF.out _).trans (hb5.mono (HF.out _).size))⟩)))
              refine wpQuiet_nil ?_
              rintro _ ⟨nq, rfl⟩
              go_wp2
              go_ret
              exact ⟨ret_b HNO.out.symm, HW.out.trans ((HR9.out.trans ((HF.out nq).mono HR9.out.size)).mono HW.out.size)⟩
          · have e1' : (x.k != y.k) = false := by simp [e1]
            have e2' : (x.s != y.s) = true := by simp [e2]
            have HNO : Hid (samB ts us ns ms = false) := samB_no HX.out HY.out (by rw [HEQ.out]; simp [e2])
            refine region_class F (by kernel_rfl) (by kernel_rfl) (by obtain ⟨x, hx⟩ := HO.out _ (Below.refl _ _).drew; exact ⟨x, hx.symm⟩) ?_
            repeat (go_big_quiet_step (fail))
            refine wpQuiet_nil ?_
            rintro _ ⟨nq, rfl⟩
            go_wp2
            go_ret
            exact ⟨ret_b HNO.out.symm, HW.out.trans ((HR9.out.trans ((HF.out nq).mono HR9.out.size)).mono HW.out.size)⟩
        · have e1' : (x.k != y.k) = true := by simp [e1]
          have HNO : Hid (samB ts us ns ms = false) := samB_no HX.out HY.out (by rw [HEQ.out]; simp [e1])
          refine region_class F (by kernel_rfl) (by kernel_rfl) (by obtain ⟨x, hx⟩ := HO.out _ (Below.refl _ _).drew; exact ⟨x, hx.symm⟩) ?_
          repeat (go_big_quiet_step (fail))
          refine wpQuiet_nil ?_
          rintro _ ⟨nq, rfl⟩
          go_wp2
          go_ret
          exact ⟨ret_b HNO.out.symm, HW.out.trans ((HR9.out.trans ((HF.out nq).mono HR9.out.size)).mono HW.out.size)⟩
      · have HYES : Hid (samB ts us ns ms = true) := samB_yes HL.out (fun i x y hi hx hy => HA.out i x y (by omega) hx hy)
        go_wp2
        go_ret
        exact ⟨ret_b HYES.out.symm, HWR.out⟩
  · have HNO : Hid (samB ts us ns ms = false) := samB_len hlen
    obtain ⟨w2, e2, hw, hs2, B0, C0⟩ := bx2 w #[.slice a2 ns.length c2] #[.slice a4 ms.length c4] 25 25
    have HB0 : Hid (Below w.heap.size w w2) := hw
    have HE2 : Hid ((w.alloc (.cells #[.slice a2 ns.length c2] 25)).alloc (.cells #[.slice a4 ms.length c4] 25) = w2) := e2
    have x0 := B0.one
    have x1 := C0.one
    have hne : ((ns.length : Int) != (ms.length : Int)) = true := by simp only [bne_iff_ne, ne_eq]; omega
    clear hw hs2 B0 C0 e2
    go_enter Tryd.func5, Tryd.ntmps5
    go_upto_region 1 with fail
    rw [HE2.out]
    go_wp2
    go_ret
    exact ⟨ret_b HNO.out.symm, HB0.out⟩
end Go.Proofs.YtijcfgeafgddkaaDoor
