import Derived.Test.YtdalnofiiomgoaaAk
import Derived.Test.YtdalnofiiomgoaaWalksW
namespace Go.Proofs.Ytdalnofiiomgoaa
open Go.ChangeShapes Go.WideShapes Go.ChangeAt Go.RowKit
attribute [local go_sem] Oper.semAt_some
set_option linter.unusedVariables false

/-- what is written down of a walk -/
def lgL : List Int → List Int
  | [] => []
  | x :: l => x :: (-1 - x) :: lgL l
theorem lgL_app : ∀ (p q : List Int), lgL (p ++ q) = lgL p ++ lgL q := by
  intro p q
  induction p with
  | nil => rfl
  | cons x p ih => simp [lgL, ih]
theorem lgL_snoc (p : List Int) (x : Int) : lgL (p ++ [x]) = lgL p ++ [x] ++ [-1 - x] := by rw [lgL_app]; simp [lgL]
theorem lgM_snoc (p : List Int) (x : Int) : (lgL (p ++ [x])).dropLast = lgL p ++ [x] := by rw [lgL_snoc, List.dropLast_concat]
theorem lgL_len : ∀ (l : List Int), (lgL l).length = 2 * l.length := by
  intro l
  induction l with
  | nil => rfl
  | cons x l ih => simp [lgL, ih]; omega
theorem lgL_get : ∀ (l : List Int) (i : Nat) (x : Int), l[i]? = some x → (lgL l)[2 * i]? = some x ∧ (lgL l)[2 * i + 1]? = some (-1 - x) := by
  intro l
  induction l with
  | nil => intro i x h; simp at h
  | cons y l ih =>
    intro i x h
    cases i with
    | zero => simp at h; subst h; simp [lgL]
    | succ i =>
      rw [List.getElem?_cons_succ] at h
      obtain ⟨h1, h2⟩ := ih i x h
      rw [show 2 * (i + 1) = 2 * i + 1 + 1 by omega, show 2 * i + 1 + 1 + 1 = (2 * i + 1) + 1 + 1 by omega]
      simp only [lgL, List.getElem?_cons_succ]
      exact ⟨h1, h2⟩
theorem wkl_lt (ns : List Nd) (skp : Nat → Bool) (e : Nat) : ∀ (d k : Nat), e - k ≤ d → ∀ y ∈ wkl ns skp e k, ∃ i : Nat, y = i ∧ i < e := by
  intro d
  induction d with
  | zero => intro k hd y hy; rw [wkl_end (by omega)] at hy; cases hy
  | succ d ih =>
    intro k hd y hy
    by_cases hk : k < e
    · cases hs : skp k with
      | false =>
        rw [wkl_one hk hs] at hy
        rcases List.mem_cons.1 hy with rfl | hy
        · exact ⟨k, rfl, hk⟩
        · exact ih (k + 1) (by omega) y hy
      | true =>
        cases hx : ns[k]? with
        | none => rw [wkl, dif_pos hk, hs, hx] at hy; simp at hy; exact ⟨k, hy, hk⟩
        | some x =>
          by_cases h1 : 1 ≤ x.s ∧ x.s ≤ (e : Int) - k
          · rw [wkl_skip hk hs hx h1.1 h1.2] at hy
            rcases List.mem_cons.1 hy with rfl | hy
            · exact ⟨k, rfl, hk⟩
            · exact ih (k + x.s.toNat) (by omega) y hy
          · rw [wkl_bad hk hs hx h1] at hy
            simp at hy; exact ⟨k, hy, hk⟩
    · rw [wkl_end hk] at hy; cases hy
theorem wk_lt (ns : List Nd) (skp : Nat → Bool) (n : Int) : ∀ y ∈ wk ns skp n, ∃ i : Nat, y = i ∧ i < ns.length := by
  cases hw : whl ns n with
  | false => rw [wk_no hw]; intro y hy; cases hy
  | true =>
    obtain ⟨k, z, x, rfl, hx, hxz, hz, hzk⟩ := whl_yes hw
    rw [wk_at hx hxz hw]
    intro y hy
    obtain ⟨i, rfl, hi⟩ := wkl_lt ns skp (k + z) _ k (Nat.le_refl _) y hy
    exact ⟨i, rfl, by omega⟩

set_option maxRecDepth 1000000 in
set_option maxHeartbeats 4000000 in
theorem treeAsked_walk (s : ByteArray) (a1 a2 : Option Addr) (c1 c2 : Nat) (ts : List Tk) (ns : List Nd) (n u : Int) (w : World) (h1 : LiesA w a1 ts) (h2 : LiesA w a2 ns) (hn1 : a1 = none → ts.length = 0 ∧ c1 = 0) (hn2 : a2 = none → ns.length = 0 ∧ c2 = 0)
    (hl1 : ts.length * 24 ≤ 140737488351232) (hl2 : ns.length * 32 ≤ 140737488351232) (hs : s.size ≤ 140737488351232) (hf1 : ∀ e ∈ ts, TkFit e) (hf2 : ∀ e ∈ ns, NdFit e) (bn0 : -9223372036854775808 ≤ n) (bn1 : n ≤ 9223372036854775807) (bu0 : 0 ≤ u) (bu1 : u ≤ 18446744073709551615) :
    Calls Try.prog 3 #[.agg #[.string s, .slice a1 ts.length c1, .slice a2 ns.length c2], .int .i64 n, .int .u64 u] w fun e w' => e = .returned (.bool true) ∧ Below w.heap.size w w' := by
  obtain ⟨i0, hi, hz0, hz1, hz2⟩ := info_parts infoInt
  have H2 : Hid (LiesA w a2 ns) := h2
  have hbu : u < 18446744073709551616 := by omega
  obtain ⟨w3, e3, b3, s3, X1, X2, X3⟩ := bx3 w #[.string s, .slice a1 ts.length c1, .slice a2 ns.length c2] #[.int .u64 u] #[.slice none 0 0] 27 28 29
  obtain ⟨w5, e5, b5, s5, Y1, Y2, Y3⟩ := bx3 w3 #[.slice a2 ns.length c2] #[.int .i64 n] #[.func (.func 9) #[] #[.pointer (some ⟨w.heap.size + 2, 0, none⟩), .pointer (some ⟨w.heap.size + 1, 0, none⟩)]] 25 3 30
  have HE3 : Hid (((w.alloc (.cells #[.string s, .slice a1 ts.length c1, .slice a2 ns.length c2] 27)).alloc (.cells #[.int .u64 u] 28)).alloc (.cells #[.slice none 0 0] 29) = w3) := e3
  have HE5 : Hid (((w3.alloc (.cells #[.slice a2 ns.length c2] 25)).alloc (.cells #[.int .i64 n] 3)).alloc (.cells #[.func (.func 9) #[] #[.pointer (some ⟨w.heap.size + 2, 0, none⟩), .pointer (some ⟨w.heap.size + 1, 0, none⟩)]] 30) = w5) := e5
  have B5 : Below w.heap.size w w5 := b3.trans (b5.mono (by omega))
  have HB5 : Hid (Below w.heap.size w w5) := B5
  have HS5 : Hid (w5.heap.size = w.heap.size + 6) := by unfold Hid; omega
  have HFB : Hid (Bx w5 w.heap.size #[.string s, .slice a1 ts.length c1, .slice a2 ns.length c2] 27) := X1.below b5 (by omega)
  have HUB : Hid (Bx w5 (w.heap.size + 1) #[.int .u64 u] 28) := X2.below b5 (by omega)
  have HLB : Hid (Boxed w5 (w.heap.size + 2) 29 (.slice none 0 0)) := X3.below b5 (by omega)
  have HAB : Hid (∀ b o, a2 = some ⟨b, o, none⟩ → LiesA w a2 ns → ns ≠ [] → b < w.heap.size) := fun b o h hl hne => by
    rcases hl with h0 | ⟨b', o', e, hL⟩
    · exact absurd h0 hne
    · rw [h] at e; cases e; exact hL.1
  have HX2 : Hid (w3.cell? ⟨w.heap.size, 2, none⟩ = some (.slice a2 ns.length c2)) := X1.cell 2
  have q2 := HX2.out
  have HXL : Hid ((wk ns (chB u) n).length ≤ ns.length) := wk_len _ _ _
  have HLT : Hid (∀ y ∈ wk ns (chB u) n, ∃ i : Nat, y = i ∧ i < ns.length) := wk_lt _ _ _
  have HT1 : Hid (wkT ns (chB u) n (-1) = wk ns (chB u) n) := by unfold Hid wkT; rw [if_pos (by decide)]
  have HSQ : Hid (SeqS Fence.wide 8 Try.prog 23 #[.pointer (some ⟨w3.heap.size, 0, none⟩), .pointer (some ⟨w3.heap.size + 1, 0, none⟩), .pointer (some ⟨w3.heap.size + 2, 0, none⟩)] (w.heap.size + 2) w5.heap.size 9 #[.pointer (some ⟨w.heap.size + 2, 0, none⟩), .pointer (some ⟨w.heap.size + 1, 0, none⟩)] (chB u) (wk ns (chB u) n) w5) := by
    exact walk1a_seq (w.heap.size + 2) Fence.wide rfl 8 (by omega) _ _ _ a2 c2 ns n w5 (by omega) (by omega) (by omega) (by omega) (by omega) (by omega) Y1.one Y2.one _ _ (chB u) (enters_of Try.func9 (by kernel_rfl) rfl) Y3.one (fun hne b o h => by have := HAB.out b o h h2 hne; omega) (h2.below B5) hl2 bn0 bn1
  clear h1 h2 hn1 hn2 hf1 hf2 e3 b3 s3 X1 X2 X3 e5 b5 s5 Y1 Y2 Y3 B5
  refine callsIn_wide.1 (callsIn_of_wp_marks (n := 9) Try.func3 rfl trivial (wpIn_wide.2 ?_) rfl)
  simp only [Try.ntmps3, List.size_toArray, List.length_cons, List.length_nil, Nat.reduceAdd, Nat.reduceSub, Array.replicate_succ, Array.replicate_zero, List.push_toArray, List.append_toArray, List.nil_append, List.cons_append]
  go_upto_region 2 with fail
  rw [HE3.out]
  have hef := eql_fun
  go_wp2_with (go_at_call 11; refine (walk_any _ _ _ ⟨_, _, _, rfl⟩ (.inr ⟨_, _, _, rfl⟩) _).mono ?_; rintro e wd ⟨rfl, aa, ll, cc, hvv, hwd⟩; cases hvv; rw [HE5.out] at hwd; subst hwd)
  clear hef q2
  have hs5 : wd.heap.size = w.heap.size + 6 := HS5.out
  refine range_ask (gf := 23) (lb := #[.pointer (some ⟨w3.heap.size, 0, none⟩), .pointer (some ⟨w3.heap.size + 1, 0, none⟩), .pointer (some ⟨w3.heap.size + 2, 0, none⟩)]) rfl (enters_of Try.func23 (by kernel_rfl) rfl) HSQ.out (But.refl _ _ _) (Nat.le_refl _) rfl
    (fun pre V => (∃ v, Boxed V (w.heap.size + 2) 29 v ∧ V.ownsRow wd.heap.size 3 1 v (lgL pre).length (flat (lgL pre)) ∧ True) ∧ But (w.heap.size + 2) wd.heap.size wd V)
    (fun pre V => (∃ v, Boxed V (w.heap.size + 2) 29 v ∧ V.ownsRow wd.heap.size 3 1 v (lgL pre).dropLast.length (flat (lgL pre).dropLast) ∧ True) ∧ But (w.heap.size + 2) wd.heap.size wd V)
    ?own1 ?own2 ⟨⟨_, HLB.out, World.ownsRow_nil _ _ _ _, trivial⟩, But.refl _ _ _⟩ ?a1 ?assign ?body ?skip ?done
  case own1 => exact OwnFrom.and (Own.from (holdsRow_own wd.heap.size (w.heap.size + 2) 29 3 1 (fun pre => (lgL pre).length) (fun pre => flat (lgL pre)) (fun _ _ => True)) _) (But.own (Nat.le_refl _) (Nat.le_refl _))
  case own2 => exact OwnFrom.and (Own.from (holdsRow_own wd.heap.size (w.heap.size + 2) 29 3 1 (fun pre => (lgL pre).dropLast.length) (fun pre => flat (lgL pre).dropLast) (fun _ _ => True)) _) (But.own (Nat.le_refl _) (Nat.le_refl _))
  case assign =>
    intro l x V K hK
    gi_wp2
    exact hK
  case body =>
    rintro l pre x post V hx ⟨⟨v, hv, hrow, -⟩, hBw⟩
    have hxl := HXL.out
    rw [hx] at hxl
    simp at hxl
    have hll := lgL_len pre
    have HLL : Hid ((lgL pre).length = 2 * pre.length) := hll
    have hlb : (lgL pre).length ≤ 8796093022206 := by omega
    have hVs := hBw.size
    have hc := hv.cell
    have HMS : Hid ((lgL (pre ++ [x])).dropLast = lgL pre ++ [x]) := lgM_snoc pre x
    clear hll
    gi_wp2_with (gi_at_builtin; refine wpListIn_append_own _ rfl _ _ 29 rfl wd.heap.size 3 i0 (.int .i64 0) 1 8 Try.underlying29 hi hz0 hz1 hz2 rfl (by decide) _ _ _ rfl (hrow.alloc _) ⟨V.heap.size, 0, none⟩ 1 1 (flat [x]) rfl rfl (cells_new V (flat [x]) 3) (flat_oneCell _) (by unfold maxLen; omega) (by omega) (by simp; omega) ?_; intro v' w1' hown' hgrow _; obtain ⟨g', cap', rfl⟩ := ownsRow_succ hown'; obtain ⟨hv1, hv2, hr2, hk2, hb2⟩ := log_app hv hrow (by omega) (by omega) hown' hgrow; have hc1 := hv1.cell; have hf1 := hv1.frozen)
    exact ⟨Apart.of_keeps hk2, hb2, ⟨_, hv2, by rw [HMS.out, flat_append, List.length_append]; exact hr2, trivial⟩, hBw.trans hb2⟩
  case skip =>
    rintro pre x post V hx ⟨⟨v, hv, hrow, -⟩, hBw⟩ hb
    have hxl := HXL.out
    obtain ⟨i, hxi, hil⟩ := HLT.out (x : Int) (by rw [hx]; simp)
    rw [hx] at hxl
    simp at hxl
    have hll := lgL_len pre
    rw [lgM_snoc] at hrow
    have hVs := hBw.size
    refine (ask1_any u x (w.heap.size + 1) (w.heap.size + 2) wd.heap.size (lgL pre ++ [(x : Int)]) v V (by omega) (by simp; omega) hv hrow (by omega) (by omega) (hb.bx HUB.out (by omega) (by omega)).one (by omega) (by omega) bu0 hbu).mono ?_
    rintro e V' ⟨he, ⟨v', g1, g2⟩, g3, g4⟩
    exact ⟨he, ⟨⟨v', g1, by rw [lgL_snoc]; exact g2, trivial⟩, hBw.trans g3⟩, g3, Apart.of_keeps g4⟩
  case done =>
    rintro D V hD ⟨⟨v, hv, hrow, -⟩, hBw⟩ hK
    obtain ⟨a8, c8, rfl, q8, -, -⟩ := own_form hrow
    have HQ8 : Hid (LiesA V a8 (lgL (wk ns (chB u) n))) := q8
    have HBW : Hid (Below w.heap.size w V) := HB5.out.trans (hBw.below (by omega) (by omega))
    have HBX : Hid (Boxed V (w.heap.size + 2) 29 (.slice a8 (lgL (wk ns (chB u) n)).length c8)) := hv
    have hVl : w.heap.size + 2 < V.heap.size := hv.lt
    have hc := hv.cell
    have x2 : V.cell? ⟨w.heap.size, 2, none⟩ = some (.slice a2 ns.length c2) := (hBw.bx HFB.out (by omega) (by omega)).cell 2
    have xu : V.cell? ⟨w.heap.size + 1, 0, none⟩ = some (.int .u64 u) := (hBw.bx HUB.out (by omega) (by omega)).one
    have HMK : Hid (Mk wd.heap.size V [D]) := (Mk.nil wd.heap.size V).cons (W0 := wd) (Nat.le_refl _) (fun E h => by cases h) hD hK
    have hVs := hBw.size
    clear HSQ hrow q8 hBw hK HE3 HE5 HX2
    generalize hLL : wk ns (chB u) n = L at *
    have hll := lgL_len L
    have hLb : L.length ≤ ns.length := HXL.out
    have hlen : (((lgL L).length : Int) != 2 * (L.length : Int)) = false := by rw [hll]; simp
    have HLEN : Hid ((lgL L).length = 2 * L.length) := hll
    clear hll
    go_wp2_with (go_at_call 12; refine (rwalk_any a2 c2 ns n u (-1) _ (H2.out.below HBW.out) hl2 bn0 bn1 bu0 hbu (by decide)).mono ?_; rintro e V5 ⟨v5, rfl, o5, hb5⟩; rw [HT1.out] at o5; obtain ⟨a5, c5, rfl, q5, -, -⟩ := own_form o5; have HB5V : Hid (Below V.heap.size V V5) := hb5; have HQ5 : Hid (LiesA V5 a5 L) := q5; have z1 : V5.cell? ⟨w.heap.size + 2, 0, none⟩ = some (.slice a8 (lgL L).length c8) := (hb5.cell (p := ⟨w.heap.size + 2, 0, none⟩) hVl).trans hc; clear hb5 o5 q5)
    clear hc x2 xu
    go_loopw [41] (fun i wr => ∃ j : Nat, j ≤ L.length ∧ i = .int .i64 (j : Int) ∧ wr = V5) (fun i _ => L.length - (intOf i).toNat)
    case atStart => exact ⟨0, by omega, rfl, rfl⟩
    case round =>
      obtain ⟨j, hj, rfl, rfl⟩ := hrel
      by_cases hjl : j < L.length
      · obtain ⟨y, hy⟩ : ∃ y, L[j]? = some y := ⟨_, List.getElem?_eq_getElem hjl⟩
        obtain ⟨i, rfl, hil⟩ := HLT.out y (List.mem_of_getElem? hy)
        obtain ⟨g1, g2⟩ := lgL_get L j _ hy
        rcases HQ5.out with h0 | ⟨b5, o5, rfl, hL5⟩
        · rw [h0] at hjl; simp at hjl
        rcases HQ8.out with h0 | ⟨b8, o8, rfl, hL8⟩
        · rw [h0] at g1; simp at g1
        have t0 := hL5.int (Below.refl _ _) hy
        have t1 := hL8.int HB5V.out g1
        have t2 := hL8.int HB5V.out g2
        have hj1 : (j : Int) < (L.length : Int) := by omega
        have hj2 : (2 : Int) * (j : Int) < ((lgL L).length : Int) := by have := HLEN.out; omega
        have hj3 : (2 : Int) * (j : Int) + 1 < ((lgL L).length : Int) := by have := HLEN.out; omega
        have hj4 : ((2 : Int) * (j : Int)).toNat = 2 * j := by omega
        have hj5 : ((2 : Int) * (j : Int) + 1).toNat = 2 * j + 1 := by omega
        clear hy g1 g2 hL5 hL8
        go_wp2
        go_roundw
        case rel => exact ⟨j + 1, by omega, by simp, by trivial⟩
        case measure => simp [intOf]; omega
      · have hje : ¬ (j : Int) < (L.length : Int) := by omega
        go_wp2
        exact leaves_marks (B := wd.heap.size) rfl [D] _ (by have := HB5V.out.size; omega) (HMK.out.below HB5V.out) (fun W' h => ⟨rfl, HBW.out.trans ((HB5V.out.mono (by omega)).trans (h.mono (by omega)))⟩)
end Go.Proofs.Ytdalnofiiomgoaa
