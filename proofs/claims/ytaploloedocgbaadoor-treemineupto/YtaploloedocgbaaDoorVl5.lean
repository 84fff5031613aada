import Derived.Test.YtaploloedocgbaaDoorVl4
import Derived.Test.YtaploloedocgbaaDoorWk
import Derived.Test.YtaploloedocgbaaDoorAtsW
namespace Go.Proofs.YtaploloedocgbaaDoor
open Go.ChangeShapes Go.WideShapes Go.ChangeAt Go.RowKit
set_option linter.unusedVariables false

theorem wkl_mem (ns : List Nd) (e : Nat) (x : Int) : ∀ (d k : Nat), e - k ≤ d → (x ∈ wkl ns (fun _ => false) e k ↔ ∃ i : Nat, x = i ∧ k ≤ i ∧ i < e) := by
  intro d
  induction d with
  | zero =>
    intro k hd
    rw [wkl_end (by omega)]
    constructor
    · intro h; cases h
    · rintro ⟨i, _, h1, h2⟩; omega
  | succ d ih =>
    intro k hd
    by_cases hk : k < e
    · rw [wkl_one hk rfl, List.mem_cons, ih (k + 1) (by omega)]
      constructor
      · rintro (rfl | ⟨i, rfl, h1, h2⟩)
        · exact ⟨k, rfl, Nat.le_refl _, hk⟩
        · exact ⟨i, rfl, by omega, h2⟩
      · rintro ⟨i, rfl, h1, h2⟩
        by_cases e : i = k
        · left; rw [e]
        · right; exact ⟨i, rfl, by omega, h2⟩
    · rw [wkl_end hk]
      constructor
      · intro h; cases h
      · rintro ⟨i, _, h1, h2⟩; omega

/-- a walk without a skip through the whole of a tree -/
theorem wk_whole {ns : List Nd} (h : shB ns = true) (x : Int) : x ∈ wk ns (fun _ => false) 0 ↔ ∃ i : Nat, x = i ∧ i < ns.length := by
  unfold shB at h
  cases hx : ns[0]? with
  | none => rw [hx] at h; simp at h
  | some y =>
    rw [hx] at h
    simp only [Bool.and_eq_true, decide_eq_true_eq] at h
    have hl : 0 < ns.length := (List.getElem?_eq_some_iff.1 hx).1
    have hw : whl ns ((0 : Nat) : Int) = true := by rw [whl_at hx]; simp; omega
    have e : wk ns (fun _ => false) ((0 : Nat) : Int) = wkl ns (fun _ => false) (0 + ns.length) 0 := wk_at hx h.1 hw
    rw [show (0 : Int) = ((0 : Nat) : Int) from rfl, e, wkl_mem ns (0 + ns.length) x _ 0 (Nat.le_refl _)]
    constructor
    · rintro ⟨i, rfl, _, h2⟩; exact ⟨i, rfl, by omega⟩
    · rintro ⟨i, rfl, h2⟩; exact ⟨i, rfl, by omega, by omega⟩

theorem head_neg {xs : List Int} {q : Int → Bool} (hx : ∀ x ∈ xs, 0 ≤ x) : decide ((xs.filter q).headD (-1) < 0) = xs.all (fun x => !q x) := by
  cases hf : xs.filter q with
  | nil =>
    rw [decide_eq_true (show ([] : List Int).headD (-1) < 0 by decide)]
    symm
    rw [List.all_eq_true]
    intro x hm
    rw [List.filter_eq_nil_iff] at hf
    have := hf x hm
    simpa using this
  | cons y ys =>
    have hy : y ∈ xs.filter q := by rw [hf]; exact List.mem_cons_self
    rw [List.mem_filter] at hy
    rw [decide_eq_false (show ¬ (y :: ys).headD (-1) < 0 by have := hx y hy.1; show ¬ y < 0; omega)]
    symm
    rw [Bool.eq_false_iff]
    intro ha
    have := List.all_eq_true.1 ha y hy.1
    rw [hy.2] at this; cases this

def vlQ (ns : List Nd) (c : Int) (x : Int) : Bool := !vlN ns c x.toNat
theorem vlQ_all {ns : List Nd} {c : Int} (h : shB ns = true) : decide (((wk ns (fun _ => false) 0).filter (vlQ ns c)).headD (-1) < 0) = vlB ns c := by
  rw [head_neg (fun x hx => by obtain ⟨i, rfl, _⟩ := (wk_whole h x).1 hx; omega)]
  unfold vlB
  rw [h, Bool.true_and]
  rw [Bool.eq_iff_iff, List.all_eq_true, List.all_eq_true]
  constructor
  · intro ha i hi
    have := ha (i : Int) ((wk_whole h _).2 ⟨i, rfl, List.mem_range.1 hi⟩)
    simpa [vlQ] using this
  · intro ha x hx
    obtain ⟨i, rfl, hi⟩ := (wk_whole h x).1 hx
    simpa [vlQ] using ha i (List.mem_range.2 hi)

theorem walk_any (v : Value) (n : Int) (sv : Value) (hv : ∃ a l c, v = .agg #[.slice a l c]) (hs : sv = .nilFunc ∨ ∃ g c l, sv = .func g c l) (w : World) : Calls Tryd.prog 48 #[v, .int .i64 n, sv] w fun e w' =>
    e = .returned (.func (.func 60) #[] #[.pointer (some ⟨w.heap.size, 0, none⟩), .pointer (some ⟨w.heap.size + 1, 0, none⟩), .pointer (some ⟨w.heap.size + 2, 0, none⟩)]) ∧ ∃ a l c, v = .agg #[.slice a l c] ∧ w' = ((w.alloc (.cells #[.slice a l c] 25)).alloc (.cells #[.int .i64 n] 3)).alloc (.cells #[sv] 89) := by
  obtain ⟨a, l, c, rfl⟩ := hv
  rcases hs with rfl | ⟨g, cc, ll, rfl⟩
  · go_enter Tryd.func48, Tryd.ntmps48
    go_wp2
    go_ret
    exact ⟨by simp, a, l, c, rfl, rfl⟩
  · go_enter Tryd.func48, Tryd.ntmps48
    go_wp2
    go_ret
    exact ⟨by simp, a, l, c, rfl, rfl⟩

/-- the first of what an iterator gives of which a question is answered by yes -/
theorem first_asked (gs gq b1 b2 : Nat) (ls lq : Array Value) (xs : List Int) (q : Int → Bool) (w : World)
    (es : ∀ args w, (callFunc gs args).run Tryd.prog w = .ok (.enter gs args) w) (eq : ∀ args w, (callFunc gq args).run Tryd.prog w = .ok (.enter gq args) w) (h1 : b1 < w.heap.size) (h2 : b2 < w.heap.size)
    (c1 : w.cell? ⟨b1, 0, none⟩ = some (.func (.func gs) #[] ls)) (c2 : w.cell? ⟨b2, 0, none⟩ = some (.func (.func gq) #[] lq))
    (hseq : SeqO true Fence.wide 7 Tryd.prog gs ls w.heap.size xs w)
    (hq : ∀ x ∈ xs, ∀ W, Below w.heap.size w W → Calls Tryd.prog gq (#[.int .i64 x] ++ lq) W fun e W' => e = .returned (.bool (q x)) ∧ Below W.heap.size W W') :
    Calls Tryd.prog 40 #[.func (.func 57) #[] #[.pointer (some ⟨b1, 0, none⟩), .pointer (some ⟨b2, 0, none⟩)]] w fun e W' => e = .returned (.int .i64 ((xs.filter q).headD (-1))) ∧ Below w.heap.size w W' := by
  have hfn : ∀ j, Fence.wide.fn j := fun _ => trivial
  refine (callsIn_wide (n := 9)).1 (first_in Fence.wide 9 hfn rfl rfl (by omega) w.heap.size 57 _ _ w (enters_of Tryd.func57 (by kernel_rfl) rfl) (Nat.le_refl _) ?_)
  exact asked1_seq Fence.wide 8 hfn rfl rfl (by omega) b1 b2 w.heap.size gs gq ls lq xs q w es eq h1 h2 c1 c2 hseq (fun x hx m W hW hs => callsIn_wide.2 (hq x hx W hW))

set_option maxRecDepth 1000000 in
set_option maxHeartbeats 1000000 in
theorem valid_any (a : Option Addr) (cap : Nat) (ns : List Nd) (c : Int) (w : World) (h : LiesA w a ns) (hl : ns.length * 32 ≤ 140737488351232) (hf : ∀ e ∈ ns, NdFit e) :
    Calls Tryd.prog 21 #[.agg #[.slice a ns.length cap], .int .i64 c] w fun e w' => e = .returned (.bool (vlB ns c)) ∧ Below w.heap.size w w' := by
  have H : Hid (LiesA w a ns) := h
  have HFT : Hid (∀ e ∈ ns, NdFit e) := hf
  obtain ⟨w3, e3, b3, s3, x1, x2⟩ := bx2 w #[.slice a ns.length cap] #[.int .i64 c] 25 3
  have HE3 : Hid ((w.alloc (.cells #[.slice a ns.length cap] 25)).alloc (.cells #[.int .i64 c] 3) = w3) := e3
  have HB3 : Hid (Below w.heap.size w w3) := b3
  have HX1 : Hid (Bx w3 w.heap.size #[.slice a ns.length cap] 25) := x1
  have HX2 : Hid (Bx w3 (w.heap.size + 1) #[.int .i64 c] 3) := x2
  have HS3 : Hid (w3.heap.size = w.heap.size + 2) := s3
  have q1 := x1.one
  clear h hf e3 b3 s3 x1 x2
  cases hsh : shB ns with
  | false =>
    have HSH : Hid (shB ns = false) := hsh
    clear hsh
    go_enter Tryd.func21, Tryd.ntmps21
    go_upto_region 1 with fail
    rw [HE3.out]
    go_wp2_with (go_at_call 34; refine (nested_any _ cap ns _ (H.out.below HB3.out) hl HFT.out).mono ?_; rintro e wn ⟨rfl, hwn⟩; rw [HSH.out]; have HWN : Hid (Below w3.heap.size w3 wn) := hwn; clear hwn)
    go_ret
    exact ⟨retV (vlB_sh HSH.out).symm, HB3.out.trans (HWN.out.mono HB3.out.size)⟩
  | true =>
    have HSH : Hid (shB ns = true) := hsh
    clear hsh
    go_enter Tryd.func21, Tryd.ntmps21
    go_upto_region 1 with fail
    rw [HE3.out]
    go_upto_region 3 with (go_at_call 34; refine (nested_any _ cap ns _ (H.out.below HB3.out) hl HFT.out).mono ?_; rintro e wn ⟨rfl, hwn⟩; rw [HSH.out]; have HWN : Hid (Below w3.heap.size w3 wn) := hwn; clear hwn)
    have hwn := HWN.out
    have s3 := HS3.out
    have hns := hwn.size
    have x1 := HX1.out.below hwn (by omega)
    have x2 := HX2.out.below hwn (by omega)
    obtain ⟨w4, e4, b4, s4, y1, y2, y3⟩ := bx3 wn #[.slice a ns.length cap] #[.int .i64 0] #[.nilFunc] 25 3 89
    obtain ⟨w5, e5, b5, s5, z1, z2⟩ := bx2 w4 #[.func (.func 60) #[] #[.pointer (some ⟨wn.heap.size, 0, none⟩), .pointer (some ⟨wn.heap.size + 1, 0, none⟩), .pointer (some ⟨wn.heap.size + 2, 0, none⟩)]] #[.func (.func 46) #[] #[.pointer (some ⟨w.heap.size, 0, none⟩), .pointer (some ⟨w.heap.size + 1, 0, none⟩)]] 85 89
    have Bn : Below w.heap.size w wn := HB3.out.trans (hwn.mono HB3.out.size)
    have B5 : Below w.heap.size w w5 := (Bn.trans (b4.mono Bn.size)).trans (b5.mono (by omega))
    have F := first_asked 60 46 w4.heap.size (w4.heap.size + 1) _ _ (wk ns (fun _ => false) 0) (vlQ ns c) w5 (enters_of Tryd.func60 (by kernel_rfl) rfl) (enters_of Tryd.func46 (by kernel_rfl) rfl) (by omega) (by omega) z1.one z2.one
      (walk1n_seq Fence.wide rfl 7 (by omega) wn.heap.size (wn.heap.size + 1) (wn.heap.size + 2) a cap ns 0 w5 (by omega) (by omega) (by omega) (y1.below b5 (by omega)).one (y2.below b5 (by omega)).one (y3.below b5 (by omega)).one (H.out.below B5) hl (by omega) (by omega))
      (fun x hx W hW => by
        obtain ⟨i, rfl, hi⟩ := (wk_whole HSH.out x).1 hx
        obtain ⟨x, hx⟩ : ∃ e, ns[i]? = some e := ⟨_, List.getElem?_eq_getElem (by omega)⟩
        have hB : Below w.heap.size w W := B5.trans (hW.mono B5.size)
        have hBn : Below wn.heap.size wn W := (b4.trans (b5.mono b4.size)).trans (hW.mono (by omega))
        have hsz := hBn.size
        have := valid1_any a cap ns c i x w.heap.size (w.heap.size + 1) W hx (H.out.below hB) hl (x1.below hBn (by omega)).one (x2.below hBn (by omega)).one (by omega) (by omega)
        have e : vlQ ns c (i : Int) = !vlN ns c i := by simp [vlQ]
        rw [e]
        exact this)
    have HF : Hid (Calls Tryd.prog 40 #[.func (.func 57) #[] #[.pointer (some ⟨w4.heap.size, 0, none⟩), .pointer (some ⟨w4.heap.size + 1, 0, none⟩)]] w5 fun e W' => e = .returned (.int .i64 (((wk ns (fun _ => false) 0).filter (vlQ ns c)).headD (-1))) ∧ Below w5.heap.size w5 W') := F
    have HVQ : Hid (decide (((wk ns (fun _ => false) 0).filter (vlQ ns c)).headD (-1) < 0) = vlB ns c) := vlQ_all HSH.out
    have HB5 : Hid (Below w.heap.size w w5) := B5
    have HE4 : Hid (((wn.alloc (.cells #[.slice a ns.length cap] 25)).alloc (.cells #[.int .i64 0] 3)).alloc (.cells #[.nilFunc] 89) = w4) := e4
    have HE5 : Hid ((w4.alloc (.cells #[.func (.func 60) #[] #[.pointer (some ⟨wn.heap.size, 0, none⟩), .pointer (some ⟨wn.heap.size + 1, 0, none⟩), .pointer (some ⟨wn.heap.size + 2, 0, none⟩)]] 85)).alloc (.cells #[.func (.func 46) #[] #[.pointer (some ⟨w.heap.size, 0, none⟩), .pointer (some ⟨w.heap.size + 1, 0, none⟩)]] 89) = w5) := e5
    have q2 := x1.one
    generalize hhd : ((wk ns (fun _ => false) 0).filter (vlQ ns c)).headD (-1) = hd at HF HVQ
    clear hwn s3 hns x1 x2 e4 b4 s4 y1 y2 y3 e5 b5 s5 z1 z2 B5 F Bn q1 hhd
    go_wp2_with (first
      | (go_at_call 48; refine (walk_any _ _ _ ⟨_, _, _, rfl⟩ (.inl rfl) _).mono ?_; rintro e wd ⟨rfl, aa, ll, cc, hvv, hwd⟩; cases hvv; rw [HE4.out] at hwd; subst hwd)
      | (go_at_call 41; refine (asked_any _ _ _ _ _ _ rfl rfl _).mono ?_; rintro e we ⟨rfl, hwe⟩; rw [HE5.out] at hwe; subst hwe)
      | (go_at_call 40; refine HF.out.mono ?_; rintro e w' ⟨rfl, hb⟩))
    go_ret
    exact ⟨retV HVQ.out, HB5.out.trans (hb.mono HB5.out.size)⟩
end Go.Proofs.YtaploloedocgbaaDoor
