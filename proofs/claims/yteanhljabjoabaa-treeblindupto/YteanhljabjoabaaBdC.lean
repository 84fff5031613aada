import Derived.Test.YteanhljabjoabaaBdD
namespace Go.Proofs.Yteanhljabjoabaa
open Go.ChangeShapes Go.WideShapes Go.ChangeAt Go.RowKit
set_option linter.unusedVariables false

/-- what stands behind TreeBlind's second loop -/
noncomputable def bdLast : Code := match bdRest with | .seq _ (.seq _ (.seq _ c)) => c | _ => .skip

theorem wv_fit {ts : List Tk} (h : ∀ e ∈ ts, TkFit e) (c : Nat → Bool) : ∀ n, ∀ e ∈ wvn c ts n, TkFit e
  | 0, e, he => by cases he
  | n + 1, e, he => by
    rw [wvn] at he
    rcases List.mem_append.1 he with he | he
    · rcases List.mem_append.1 he with he | he
      · exact wv_fit h c n e he
      · unfold gp at he
        split at he
        · rcases List.mem_cons.1 he with rfl | he
          · refine ⟨⟨?_, ?_⟩, ⟨?_, ?_⟩, ⟨?_, ?_⟩⟩ <;> decide
          · rw [List.mem_singleton] at he; subst he; refine ⟨⟨?_, ?_⟩, ⟨?_, ?_⟩, ⟨?_, ?_⟩⟩ <;> decide
        · cases he
    · cases hp : ts[n]? with
      | none => rw [hp] at he; cases he
      | some p => rw [hp] at he; rw [List.mem_singleton] at he; subst he; exact h _ (List.mem_of_getElem? hp)

theorem mv_fit {ns : List Nd} {L : Nat} (hL : L ≤ 1048576) (hv : vlB ns L = true) (h : ∀ e ∈ ns, NdFit e) (c : Nat → Bool) : ∀ e ∈ ns.map (mv c L), NdFit e := by
  intro e he
  obtain ⟨x, hx, rfl⟩ := List.mem_map.1 he
  obtain ⟨i, hi⟩ := List.getElem?_of_mem hx
  obtain ⟨f0, f1, f2⟩ := fit_of hv i x hi
  have hq := h x hx
  have ht := plc_top c L x.f.toNat
  have hc := cn_le c L
  have he2 : mvE c L x ≤ L + 2 * cn c L := by
    unfold mvE; split
    · have := pl_end c (i := x.e.toNat - 1) (L := L) (by omega); omega
    · exact ht
  obtain ⟨hk, -, -, hs⟩ := hq
  refine ⟨hk, ⟨?_, ?_⟩, ⟨?_, ?_⟩, hs⟩
  · show (-9223372036854775808 : Int) ≤ ((plc c L x.f.toNat : Nat) : Int); omega
  · show ((plc c L x.f.toNat : Nat) : Int) ≤ 9223372036854775807; omega
  · show (-9223372036854775808 : Int) ≤ ((mvE c L x : Nat) : Int); omega
  · show ((mvE c L x : Nat) : Int) ≤ 9223372036854775807; omega

set_option maxRecDepth 1000000 in
set_option maxHeartbeats 4000000 in
theorem blind_last {x0 x1 x3 x6 x7 x8 x10 x11 x12 x13 x14 x15 x16 x17 x18 x19 x20 x21 x22 x23 x24 x25 x26 x27 x28 x29 x30 x31 x32 x33 x34 x35 x36 x37 x38 x39 x40 x41 x42 x43 x44 x45 x46 x47 x48 x49 x50 x51 x52 x53 x54 x55 x56 x57 x58 x59 x60 x61 x62 x63 x64 x65 x66 x67 x68 x69 x70 x71 x72 x73 x74 x75 x76 x77 x78 x79 x80 x81 x82 x83 x84 x85 x86 x87 x88 x89 x90 x91 x92 x93 x94 x95 x96 x97 x98 x99 x100 x101 x102 x103 x104 x105 x106 x107 x108 x109 x110 x111 x112 x113 x114 x115 x116 x117 x118 x119 x120 x121 x122 x123 x124 x125 x126 x127 x128 x129 x130 x131 x132 x133 x134 x135 x136 x137 x138 x139 x140 x141 x142 x143 x144 x145 x146 x147 x148 x149 x150 x151 : Value} (s : ByteArray) (a1 a2 a8 : Option Addr) (c1 c2 c8 c9 N B T gn : Nat) (ts : List Tk) (ns : List Nd) (cc : Nat → Bool) (w v : World) (hN : N = (wvn cc ts ts.length).length)
    (hb : Below w.heap.size w v) (hbx : Bx v B #[.string s, .slice a1 ts.length c1, .slice a2 ns.length c2] 27) (htx : Bx v T #[.slice (some ⟨gn, 0, none⟩) ns.length c9] 25)
    (h1 : LiesA v a1 ts) (h2 : LiesA v a2 ns) (h3 : LiesA v a8 (wvn cc ts ts.length)) (h4 : LiesA v (some ⟨gn, 0, none⟩) (ns.map (mv cc ts.length))) (hl1 : ts.length ≤ 1048576) (hl2 : ns.length ≤ 1048576) (hs : s.size ≤ 1048576)
    (hf1 : ∀ e ∈ ts, TkFit e) (hf2 : ∀ e ∈ ns, NdFit e) (hc1 : ts.length ≤ c1) (hc8 : N ≤ c8) (hvl : vlB ns (ts.length : Int) = true) :
    Code.wp Try.prog bdLast (bodyPost Try.prog Try.f6 fun e w' => e = .returned (.bool true) ∧ Below w.heap.size w w') { tmps := #[x0, x1, .pointer (some ⟨B, 0, none⟩), x3, .bool false, .slice a8 N c8, x6, x7, x8, .pointer (some ⟨T, 0, none⟩), x10, x11, x12, x13, x14, x15, x16, x17, x18, x19, x20, x21, x22, x23, x24, x25, x26, x27, x28, x29, x30, x31, x32, x33, x34, x35, x36, x37, x38, x39, x40, x41, x42, x43, x44, x45, x46, x47, x48, x49, x50, x51, x52, x53, x54, x55, x56, x57, x58, x59, x60, x61, x62, x63, x64, x65, x66, x67, x68, x69, x70, x71, x72, x73, x74, x75, x76, x77, x78, x79, x80, x81, x82, x83, x84, x85, x86, x87, x88, x89, x90, x91, x92, x93, x94, x95, x96, x97, x98, x99, x100, x101, x102, x103, x104, x105, x106, x107, x108, x109, x110, x111, x112, x113, x114, x115, x116, x117, x118, x119, x120, x121, x122, x123, x124, x125, x126, x127, x128, x129, x130, x131, x132, x133, x134, x135, x136, x137, x138, x139, x140, x141, x142, x143, x144, x145, x146, x147, x148, x149, x150, x151], defers := [] } v := by
  have hcn := cn_le cc ts.length
  have hlen := wvn_len cc ts ts.length (Nat.le_refl _)
  have hNb : N ≤ 3145728 := by omega
  obtain ⟨us, hus⟩ : ∃ us, wvn cc ts ts.length = us := ⟨_, rfl⟩
  obtain ⟨ms, hms⟩ : ∃ ms, ns.map (mv cc ts.length) = ms := ⟨_, rfl⟩
  have hml : ms.length = ns.length := by rw [← hms]; simp
  have HV : Hid (vlB ms (N : Int) = true) := by unfold Hid; rw [← hms, hN, hlen]; exact vlB_mv cc hvl
  have HSM : Hid (samB ts us ns ms = true) := by unfold Hid; rw [← hus, ← hms]; exact samB_mv cc hvl
  have HTX : Hid (∀ n : Nat, n < ns.length → tex s us ms n = tex s ts ns n) := fun n hn => by rw [← hus, ← hms]; exact tex_mv cc s hvl hn
  have HF3 : Hid (∀ e ∈ us, TkFit e) := by unfold Hid; rw [← hus]; exact wv_fit hf1 cc _
  have HF4 : Hid (∀ e ∈ ms, NdFit e) := by unfold Hid; rw [← hms]; exact mv_fit hl1 hvl hf2 cc
  have HF1 : Hid (∀ e ∈ ts, TkFit e) := hf1
  have HF2 : Hid (∀ e ∈ ns, NdFit e) := hf2
  rw [hus] at h3 hN
  rw [hms] at h4
  have HML : Hid (ms.length = ns.length) := hml
  have HNL : Hid (N = us.length) := hN
  have HB : Hid (Below w.heap.size w v) := hb
  have H1 : Hid (LiesA v a1 ts) := h1
  have H2 : Hid (LiesA v a2 ns) := h2
  have H3 : Hid (LiesA v a8 us) := h3
  have H4 : Hid (LiesA v (some ⟨gn, 0, none⟩) ms) := h4
  have HX : Hid (Bx v B #[.string s, .slice a1 ts.length c1, .slice a2 ns.length c2] 27) := hbx
  have HT : Hid (Bx v T #[.slice (some ⟨gn, 0, none⟩) ns.length c9] 25) := htx
  have HC : Hid (∀ x, Below v.heap.size v x → x.cell? ⟨B, 0, none⟩ = some (.string s) ∧ x.cell? ⟨B, 1, none⟩ = some (.slice a1 ts.length c1) ∧ x.cell? ⟨B, 2, none⟩ = some (.slice a2 ns.length c2) ∧ x.cell? ⟨T, 0, none⟩ = some (.slice (some ⟨gn, 0, none⟩) ns.length c9)) := fun x hx =>
    ⟨(hbx.below hx hbx.lt).cell 0, (hbx.below hx hbx.lt).cell 1, (hbx.below hx hbx.lt).cell 2, (htx.below hx htx.lt).one⟩
  obtain ⟨q0, q1, q2, q3⟩ := HC.out v (Below.refl _ _)
  have HVA : Hid (∀ x, Below v.heap.size v x → Calls Try.prog 13 #[.agg #[.slice (some ⟨gn, 0, none⟩) ns.length c9], .int .i64 (N : Int)] x fun e w' => e = .returned (.bool true) ∧ Below x.heap.size x w') := fun x hx => by
    have := valid_any (some ⟨gn, 0, none⟩) c9 ms (N : Int) x (H4.out.below hx) (by omega) HF4.out
    rw [HML.out, HV.out] at this; exact this
  have HSA : Hid (∀ x, Below v.heap.size v x → Calls Try.prog 19 #[.slice a1 ts.length c1, .agg #[.slice a2 ns.length c2], .slice a8 N c8, .agg #[.slice (some ⟨gn, 0, none⟩) ns.length c9]] x fun e w' => e = .returned (.bool true) ∧ Below x.heap.size x w') := fun x hx => by
    have := same_any a1 a2 a8 (some ⟨gn, 0, none⟩) c1 c2 c8 c9 ts us ns ms x (H1.out.below hx) (H2.out.below hx) (H3.out.below hx) (H4.out.below hx) (by omega) (by omega) (by rw [← HNL.out]; omega) (by omega) HF1.out HF2.out HF3.out HF4.out
    rw [HSM.out, HML.out, ← HNL.out] at this; exact this
  clear hus hms hml hvl hf1 hf2 hN hb hbx htx h1 h2 h3 h4 hlen hcn
  dsimp only [bdLast, bdRest, Try.f6]
  go_wp2_with (first
    | (go_at_call 13; (with_reducible refine (HVA.out _ (Below.refl _ _)).mono ?_); rintro e w3 ⟨rfl, hb3⟩; have HB3 : Hid (Below v.heap.size v w3) := hb3; obtain ⟨z0, z1, z2, z3⟩ := HC.out w3 hb3; clear hb3)
    | (go_at_call 19; (with_reducible refine (HSA.out _ HB3.out).mono ?_); rintro e w4 ⟨rfl, hb4⟩; have HB4 : Hid (Below v.heap.size v w4) := HB3.out.trans (hb4.mono HB3.out.size); obtain ⟨y0, y1, y2, y3⟩ := HC.out w4 HB4.out; clear hb4))
  clear z0 z1 z2 z3 q0 q1 q2 q3 y0 y1 y2 y3
  go_loopw [133] (fun i wr => ∃ k : Nat, k ≤ ns.length ∧ i = .int .i64 (k : Int) ∧ Below v.heap.size v wr) (fun i _ => ns.length - (intOf i).toNat)
  case atStart => exact ⟨0, by omega, rfl, HB4.out⟩
  case round =>
    obtain ⟨k, hk, rfl, hbel⟩ := hrel
    have HBR : Hid (Below v.heap.size v wr) := hbel
    clear hbel
    by_cases hkl : k < ns.length
    · have hk1 : (k : Int) < (ns.length : Int) := by omega
      obtain ⟨R, hR⟩ : ∃ R : ByteArray, R = ⟨(tex s ts ns k).toArray⟩ := ⟨_, rfl⟩
      obtain ⟨X, F, hX, hF, onto⟩ := class_of (fun x => Below v.heap.size v x) HBR.out
      have HF : Hid (∀ y, Below v.heap.size v (F y)) := hF
      have HO : Hid (∀ x, Below v.heap.size v x → ∃ y, x = F y) := fun x h => by obtain ⟨y, hy⟩ := onto x h; exact ⟨y, hy.symm⟩
      have f0 : ∀ y, (F y).cell? ⟨B, 0, none⟩ = some (.string s) := fun y => (HC.out _ (hF y)).1
      have f1 : ∀ y, (F y).cell? ⟨B, 1, none⟩ = some (.slice a1 ts.length c1) := fun y => (HC.out _ (hF y)).2.1
      have f2 : ∀ y, (F y).cell? ⟨B, 2, none⟩ = some (.slice a2 ns.length c2) := fun y => (HC.out _ (hF y)).2.2.1
      have f3 : ∀ y, (F y).cell? ⟨T, 0, none⟩ = some (.slice (some ⟨gn, 0, none⟩) ns.length c9) := fun y => (HC.out _ (hF y)).2.2.2
      have HT1 : Hid (∀ x, Below v.heap.size v x → Calls Try.prog 20 #[.string s, .slice a1 ts.length c1, .agg #[.slice a2 ns.length c2], .int .i64 (k : Int)] x fun e w' => e = .returned (.string R) ∧ Below x.heap.size x w') := fun x hx => by
        have := text_any s a1 a2 c1 c2 ts ns k x (H1.out.below hx) (H2.out.below hx) (by omega) (by omega) hs HF1.out HF2.out (by omega) (by omega) hc1
        rw [hR]; exact this
      have HT2 : Hid (∀ x, Below v.heap.size v x → Calls Try.prog 20 #[.string s, .slice a8 N c8, .agg #[.slice (some ⟨gn, 0, none⟩) ns.length c9], .int .i64 (k : Int)] x fun e w' => e = .returned (.string R) ∧ Below x.heap.size x w') := fun x hx => by
        have := text_any s a8 (some ⟨gn, 0, none⟩) c8 c9 us ms k x (H3.out.below hx) (H4.out.below hx) (by rw [← HNL.out]; omega) (by rw [HML.out]; omega) hs HF3.out HF4.out (by omega) (by omega) (by rw [← HNL.out]; exact hc8)
        rw [HTX.out k hkl, HML.out, ← HNL.out] at this
        rw [hR]; exact this
      clear hF onto hR
      go_upto_region 28 with fail
      refine region_class F (by kernel_rfl) (by kernel_rfl) (by obtain ⟨x, hx⟩ := HO.out _ HBR.out.drew; exact ⟨x, hx.symm⟩) ?_
      repeat (go_big_quiet_step (first
        | (go_at_call 20; (with_reducible refine (HT1.out _ (HF.out _)).mono ?_); rintro e w5 ⟨rfl, hb5⟩; exact ⟨rfl, HO.out _ ((HF.out _).trans (hb5.mono (HF.out _).size))⟩)
        | (go_at_call 20; (with_reducible refine (HT2.out _ (HF.out _)).mono ?_); rintro e w5 ⟨rfl, hb5⟩; exact ⟨rfl, HO.out _ ((HF.out _).trans (hb5.mono (HF.out _).size))⟩)))
      refine wpQuiet_nil ?_
      rintro _ ⟨nq, rfl⟩
      go_wp2
      go_roundw
      case rel => exact ⟨k + 1, by omega, by simp, HF.out _⟩
      case measure => simp [intOf]; omega
    · have hk1 : ¬ (k : Int) < (ns.length : Int) := by omega
      go_wp2
      go_ret
      exact ⟨rfl, HB.out.trans (HBR.out.mono HB.out.size)⟩
end Go.Proofs.Yteanhljabjoabaa
