import Derived.Test.YtniamjbieciilaaMm
import Derived.Laws.OwnMore
import Derived.Deep.RegionWith
namespace Go.Proofs.Ytniamjbieciilaa
open Go.ChangeShapes Go.WideShapes Go.ChangeAt Go.RowKit
set_option linter.unusedVariables false

/-- what stands behind the reference's first loop -/
noncomputable def rmRest : Code := match Try.f15.body with | some (.seq _ (.seq _ (.seq _ (.seq _ (.seq _ (.seq _ (.seq _ (.seq _ c)))))))) => c | _ => .skip

theorem flat_last_t (p : List Ed) (c : Ed) (v : Int) : (flat (p ++ [c])).set (p.length * 3 + 1) (.int .i64 v) = flat (p ++ [⟨c.f, v, c.s⟩]) := by
  rw [flat_append, flat_append, List.set_append_right _ _ (by rw [flat_length]; omega), flat_length, Nat.add_sub_cancel_left]; rfl
theorem flat_last_s (p : List Ed) (c : Ed) (v : ByteArray) : (flat (p ++ [c])).set (p.length * 3 + 2) (.string v) = flat (p ++ [⟨c.f, c.t, v⟩]) := by
  rw [flat_append, flat_append, List.set_append_right _ _ (by rw [flat_length]; omega), flat_length, Nat.add_sub_cancel_left]; rfl
theorem tots_app (a b : List Ed) : tots (a ++ b) = tots a + tots b := by
  induction a with
  | nil => simp [tots]
  | cons x r ih => rw [List.cons_append, tots, tots, ih]; omega

theorem own_capE {w : World} {base e k n cap m : Nat} {a : Option Addr} {xs : List Value} (h : w.ownsRow base e k (.slice a m cap) n xs) : n ≤ cap := by
  rcases h.2 with ⟨h1, h2⟩ | ⟨g, cp, cur, h1, _, _, h4, _⟩
  · omega
  · simp only [Value.slice.injEq] at h1
    omega

set_option maxRecDepth 1000000 in
set_option maxHeartbeats 4000000 in
theorem rm_rest {x0 x1 x2 x3 x4 x5 x6 x7 x8 x10 x11 x12 x13 x14 x15 x16 x17 x18 x19 x20 x21 x22 x23 x24 x25 x26 x27 x28 x29 x30 x31 x32 x33 x34 x35 x36 x37 x38 x39 x40 x41 x42 x43 x44 x45 x46 x47 x48 x49 x50 x51 x52 x53 x54 x55 x56 x57 x58 x59 x60 x61 x62 x63 x64 x65 x66 x67 x68 x69 x70 x71 x72 x73 x74 x75 x76 x77 x78 x79 x80 x81 x82 x83 x84 x85 x86 x87 x88 x89 x90 x91 x92 x93 x94 x95 x96 x97 x98 x99 x100 x101 x102 x103 x104 x105 x106 x107 x108 x109 x110 x111 x112 x113 x114 x115 x116 x117 x118 x119 x120 x121 x122 x123 x124 x125 x126 x127 x128 x129 x130 x131 x132 x133 x134 x135 x136 x137 x138 x139 x140 x141 x142 x143 x144 x145 x146 x147 x148 x149 x150 x151 x152 x153 x154 x155 x156 x157 x158 x159 x160 x161 x162 x163 x164 x165 x166 x167 x168 x169 x170 x171 x172 x173 x174 x175 x176 x177 x178 x179 x180 x181 x182 x183 x184 x185 x186 x187 x188 x189 : Value} (a9 : Option Addr) (c9 : Nat) (all : List Ed) (w v : World) (hb : Below w.heap.size w v) (h : EdsA v a9 all) (hl : all.length ≤ 131072) (hT : tots all ≤ 1048576) (R : List Ed) (E : Int) (hR : R = if 65536 < (jn all).length then [] else jn all) (hE : E = if 65536 < (jn all).length then 2 else 0) :
    Code.wp Try.prog rmRest (bodyPost Try.prog Try.f15 fun e w' => ∃ a' cap', e = .returned (.tuple #[.slice a' R.length cap', .int .i64 E]) ∧ EdsA w' a' R ∧ (a' = none → R.length = 0 ∧ cap' = 0) ∧ Below w.heap.size w w') { tmps := #[x0, x1, x2, x3, x4, x5, x6, x7, x8, .slice a9 all.length c9, x10, x11, x12, x13, x14, x15, x16, x17, x18, x19, x20, x21, x22, x23, x24, x25, x26, x27, x28, x29, x30, x31, x32, x33, x34, x35, x36, x37, x38, x39, x40, x41, x42, x43, x44, x45, x46, x47, x48, x49, x50, x51, x52, x53, x54, x55, x56, x57, x58, x59, x60, x61, x62, x63, x64, x65, x66, x67, x68, x69, x70, x71, x72, x73, x74, x75, x76, x77, x78, x79, x80, x81, x82, x83, x84, x85, x86, x87, x88, x89, x90, x91, x92, x93, x94, x95, x96, x97, x98, x99, x100, x101, x102, x103, x104, x105, x106, x107, x108, x109, x110, x111, x112, x113, x114, x115, x116, x117, x118, x119, x120, x121, x122, x123, x124, x125, x126, x127, x128, x129, x130, x131, x132, x133, x134, x135, x136, x137, x138, x139, x140, x141, x142, x143, x144, x145, x146, x147, x148, x149, x150, x151, x152, x153, x154, x155, x156, x157, x158, x159, x160, x161, x162, x163, x164, x165, x166, x167, x168, x169, x170, x171, x172, x173, x174, x175, x176, x177, x178, x179, x180, x181, x182, x183, x184, x185, x186, x187, x188, x189], defers := [] } v := by
  obtain ⟨i0, hi0, hz0, hz1, hz2⟩ := info_parts infoEd
  have H : Hid (EdsA v a9 all) := h
  have HB : Hid (Below w.heap.size w v) := hb
  have HR : Hid (R = if 65536 < (jn all).length then [] else jn all) := hR
  have HEE : Hid (E = if 65536 < (jn all).length then 2 else 0) := hE
  clear h hb hR hE
  dsimp only [rmRest, Try.f15]
  go_wp2
  go_loopg [14, 15] all.length (fun gk sv si wr => ∃ (k : Nat) (p : List Ed), gk = all.length - k ∧ k ≤ all.length ∧ si = .int .i64 (k : Int) ∧ Below v.heap.size v wr ∧ wr.ownsRow v.heap.size 33 3 sv p.length (flat p) ∧ p.length ≤ k ∧ tots p + tots (all.drop k) ≤ 1048576 ∧ (k = 0 → p = []) ∧ (1 ≤ k → ∃ p' c, p = p' ++ [c] ∧ p' ++ jn1 c (all.drop k) = jn all))
  case atStart => exact ⟨0, [], by omega, Nat.zero_le _, rfl, Below.refl _ _, World.ownsRow_nil _ _ _ _, Nat.le_refl _, by simpa [tots] using hT, fun _ => rfl, fun h => by omega⟩
  case round =>
    obtain ⟨k, p, rfl, hk, rfl, hbel, hown, hpk, htt, hp0, hps⟩ := hrel
    have HBR : Hid (Below v.heap.size v wr) := hbel
    have HO : Hid (wr.ownsRow v.heap.size 33 3 u14 p.length (flat p)) := hown
    have HP0 : Hid (k = 0 → p = []) := hp0
    have HPS : Hid (1 ≤ k → ∃ p' c, p = p' ++ [c] ∧ p' ++ jn1 c (all.drop k) = jn all) := hps
    have HLT : Hid (∀ g, u14.ownBlock = some g → v.heap.size ≤ g ∧ g < wr.heap.size) := hown.lt
    have hsz := hbel.size
    clear hbel hown hp0 hps
    by_cases hkl : k < all.length
    · obtain ⟨e, he⟩ : ∃ e, all[k]? = some e := ⟨_, List.getElem?_eq_getElem hkl⟩
      rcases H.out with h0 | ⟨b, o, rfl, hE⟩
      · rw [h0] at hkl; simp at hkl
      have HE : Hid (Eds v b o all) := hE
      have HKE : Hid (all[k]? = some e) := he
      have hbw : b < v.heap.size := hE.1
      obtain ⟨c0, c1, c2⟩ := hE.cells HBR.out he
      have HTD : Hid (tots (all.drop k) = e.s.size + tots (all.drop (k + 1))) := by unfold Hid; rw [drop_get he]; rfl
      have hte : tots p + (e.s.size + tots (all.drop (k + 1))) ≤ 1048576 := by have := HTD.out; omega
      have hk1 : (k : Int) < (all.length : Int) := by omega
      clear he hE
      obtain ⟨a10, c10, rfl, hA10, -, -⟩ := own_form HO.out
      have hcap10 := own_capE HO.out
      by_cases hk0 : k = 0
      · have hpn := HP0.out hk0
        have HNX : Hid (p ++ jn1 e (all.drop (k + 1)) = jn all) := by
          unfold Hid; rw [hpn, ← jn_drop HKE.out, hk0]; simp
        have hp0 : p.length = 0 := by rw [hpn]; rfl
        have HPL : Hid (p.length = 0) := hp0
        rw [hp0] at HO
        rw [hp0]
        clear hpn hp0 hA10 hk0
        go_upto_region 30 with fail
        go_quiet (fail)
        obtain ⟨wq, ewq⟩ : ∃ wq, wr.drewN nq = wq := ⟨_, rfl⟩
        have hbq : Below wr.heap.size wr wq := by rw [← ewq]; exact below_drewN (Below.refl _ _) _
        have hsq : wr.heap.size ≤ wq.heap.size := hbq.size
        have HBQ : Hid (Below v.heap.size v wq) := HBR.out.trans (hbq.mono hsz)
        have HOQ : Hid (wq.ownsRow v.heap.size 33 3 (.slice a10 (0) c10) (0) (flat p)) := ownsRow_below HO.out hbq (Nat.le_refl _)
        obtain ⟨r0, r1, r2⟩ := HE.out.cells HBQ.out HKE.out
        rw [ewq]
        clear ewq hbq c0 c1 c2 
        go_wp2_with (at_builtin; (refine wpList_append_own_any _ rfl (.tmp 179) (.tmp 184) 22 rfl v.heap.size 33 i0 (.agg #[.int .i64 0, .int .i64 0, .string ⟨#[]⟩]) 3 32 Try.underlying22 hi0 hz0 hz1 hz2 rfl (by decide) _ _ _ rfl (HOQ.out.alloc _) (some ⟨wq.heap.size, 0, none⟩) 1 1 (flat [e]) rfl (by rfl) (fun h => by cases h) (fun ad had => by cases had; exact cells_new wq (flat [e]) 33) (flat_oneCell _) ?c2 ?c3 ?c4 ?_))
        case c2 => unfold maxLen; omega
        case c3 => omega
        case c4 => simp; omega
        intro v9 w9 hown9 hgrow9
        have HB9 : Hid (Below v.heap.size v w9) := (HBQ.out.alloc HBQ.out.size _).grown hgrow9 (by simp; omega) (fun g h => (HOQ.out.lt g h).1)
        have HO9 : Hid (w9.ownsRow v.heap.size 33 3 v9 (p ++ [e]).length (flat (p ++ [e]))) := by
          unfold Hid; rw [flat_append, List.length_append, HPL.out]; exact hown9
        clear hown9 hgrow9
        go_wp2
        go_roundg (all.length - (k + 1))
        case measure => omega
        case rel => exact ⟨k + 1, p ++ [e], rfl, by omega, by go_num, HB9.out, HO9.out, by rw [List.length_append, List.length_singleton, HPL.out]; omega, by rw [tots_app]; simp [tots]; omega, fun h => by omega, fun _ => ⟨p, e, rfl, HNX.out⟩⟩
      · obtain ⟨p', c, hpc, hpj⟩ := HPS.out (by omega)
        have hpl' : p.length = p'.length + 1 := by rw [hpc]; simp
        obtain ⟨go, rfl⟩ : ∃ go, a10 = some ⟨go, 0, none⟩ := by
          rcases HO.out.2 with ⟨h, h'⟩ | ⟨go, cap, cur, h, _⟩
          · omega
          · simp only [Value.slice.injEq] at h; exact ⟨go, h.1⟩
        have hgo := HLT.out go rfl
        have hEo : Eds wr go 0 p := Eds.own HO.out
        obtain ⟨g0, g1, g2⟩ := hEo.2 p'.length c (by rw [hpc, List.getElem?_append_right (Nat.le_refl _), Nat.sub_self]; rfl)
        simp only [Nat.zero_add] at g0 g1 g2
        obtain ⟨L, hL⟩ : ∃ L, p'.length = L := ⟨_, rfl⟩
        rw [hL] at g0 g1 g2 hpl'
        have HPL : Hid (p.length = L + 1) := hpl'
        have HLL : Hid (p'.length = L) := hL
        have HPC : Hid (p = p' ++ [c]) := hpc
        have HPJ : Hid (p' ++ jn1 c (all.drop k) = jn all) := hpj
        have hLb : L + 1 ≤ k := by omega
        have hcs : tots p = tots p' + c.s.size := by rw [hpc, tots_app]; simp [tots]
        have m1 : IntKind.i64.wrap ((L : Int) + 1 - 1) = (L : Int) := by rw [show (L : Int) + 1 - 1 = L by omega]; exact IntWalk.i64_in _ ⟨by omega, by omega⟩
        have m2 : IntKind.i64.wrap (L : Int) = (L : Int) := IntWalk.i64_in _ ⟨by omega, by omega⟩
        have m3 : (0 : Int) ≤ (L : Int) := by omega
        have m4 : (L : Int) < (L : Int) + 1 := by omega
        have m5 : (0 : Int) < (L : Int) + 1 := by omega
        rw [hpl'] at HO
        rw [hpl']
        clear hpl' hL hpc hpj hEo hA10
        by_cases htc : e.f = c.t
        · have htc' : (c.t == e.f) = true := by simp [htc]
          have HTC : Hid (e.f = c.t) := htc
          clear htc
          go_upto_region 30 with fail
          go_quiet (fail)
          obtain ⟨wq, ewq⟩ : ∃ wq, wr.drewN nq = wq := ⟨_, rfl⟩
          have hbq : Below wr.heap.size wr wq := by rw [← ewq]; exact below_drewN (Below.refl _ _) _
          have hsq : wr.heap.size ≤ wq.heap.size := hbq.size
          have HBQ : Hid (Below v.heap.size v wq) := HBR.out.trans (hbq.mono hsz)
          have HOQ : Hid (wq.ownsRow v.heap.size 33 3 (.slice (some ⟨go, 0, none⟩) (L + 1) c10) (L + 1) (flat p)) := ownsRow_below HO.out hbq (Nat.le_refl _)
          obtain ⟨r0, r1, r2⟩ := HE.out.cells HBQ.out HKE.out
          rw [ewq]
          clear ewq hbq c0 c1 c2 g0 g1 g2
          have hEq : Eds wq go 0 p := Eds.own HOQ.out
          obtain ⟨g0, g1, g2⟩ := hEq.2 L c (by rw [HPC.out, List.getElem?_append_right (by rw [HLL.out]; exact Nat.le_refl _), HLL.out, Nat.sub_self]; rfl)
          simp only [Nat.zero_add] at g0 g1 g2
          have f1 := HOQ.out.frozenAt (L * 3 + 1)
          obtain ⟨w6, e6⟩ : ∃ w6, wq.setCell ⟨go, L * 3 + 1, none⟩ (.int .i64 e.t) = w6 := ⟨_, rfl⟩
          have HE6 : Hid (wq.setCell ⟨go, L * 3 + 1, none⟩ (.int .i64 e.t) = w6) := e6
          have HB6 : Hid (Below v.heap.size v w6) := by unfold Hid; rw [← e6]; exact HBQ.out.setCell (p := ⟨go, L * 3 + 1, none⟩) hgo.1 _
          have HO6 : Hid (w6.ownsRow v.heap.size 33 3 (.slice (some ⟨go, 0, none⟩) (L + 1) c10) (L + 1) (flat (p' ++ [⟨c.f, e.t, c.s⟩]))) := by
            unfold Hid
            rw [← e6, ← flat_last_t p' c e.t, ← HPC.out, HLL.out]
            exact (HOQ.out.stored (L * 3 + 1) (.int .i64 e.t)).1
          clear e6 hEq r0 r2
          go_upto_region 32 with fail
          rw [HE6.out]
          have hE6 : Eds w6 go 0 (p' ++ [⟨c.f, e.t, c.s⟩]) := Eds.own HO6.out
          obtain ⟨s0, s1, s2⟩ := hE6.2 L ⟨c.f, e.t, c.s⟩ (by rw [List.getElem?_append_right (by rw [HLL.out]; exact Nat.le_refl _), HLL.out, Nat.sub_self]; rfl)
          simp only [Nat.zero_add] at s0 s1 s2
          have f2 := HO6.out.frozenAt (L * 3 + 2)
          obtain ⟨t0, t1, t2⟩ := HE.out.cells HB6.out HKE.out
          obtain ⟨cs, hcs'⟩ : ∃ cs, c.s = cs := ⟨_, rfl⟩
          obtain ⟨es, hes'⟩ : ∃ es, e.s = es := ⟨_, rfl⟩
          rw [hcs'] at s2
          rw [hes'] at t2
          obtain ⟨w7, e7⟩ : ∃ w7, (w6.setCell ⟨go, L * 3 + 2, none⟩ (.string (cs ++ es))).drew = w7 := ⟨_, rfl⟩
          have HE7 : Hid ((w6.setCell ⟨go, L * 3 + 2, none⟩ (.string (cs ++ es))).drew = w7) := e7
          have HB7 : Hid (Below v.heap.size v w7) := by unfold Hid; rw [← e7]; exact (HB6.out.setCell (p := ⟨go, L * 3 + 2, none⟩) hgo.1 _).drew
          have HO7 : Hid (w7.ownsRow v.heap.size 33 3 (.slice (some ⟨go, 0, none⟩) (L + 1) c10) (L + 1) (flat (p' ++ [⟨c.f, e.t, c.s ++ e.s⟩]))) := by
            unfold Hid
            have := (HO6.out.stored (L * 3 + 2) (.string (cs ++ es))).1.drew
            rw [← HLL.out, flat_last_s p' ⟨c.f, e.t, c.s⟩ (cs ++ es), HLL.out] at this
            rw [← e7, hcs', hes']
            exact this
          have hgob : go ≠ b := by omega
          have HNX : Hid (p' ++ jn1 ⟨c.f, e.t, c.s ++ e.s⟩ (all.drop (k + 1)) = jn all) := by
            unfold Hid; rw [← HPJ.out, jn1_touch HKE.out HTC.out]
          have hsz1 : cs.size + es.size ≤ 1048576 := by rw [← hcs', ← hes']; omega
          have HTT : Hid (tots (p' ++ [⟨c.f, e.t, c.s ++ e.s⟩]) + tots (all.drop (k + 1)) ≤ 1048576) := by
            unfold Hid; rw [tots_app]; simp [tots, ByteArray.size_append]; omega
          clear e7 hE6 hcs' hes' s0 s1 t0 t1 g0 g1 g2 f1
          go_region_with (fail)
          all_goals rw [HE7.out]
          all_goals clear s2 t2 f2
          all_goals go_wp2
          all_goals go_roundg (all.length - (k + 1))
          all_goals first
            | omega
            | exact ⟨k + 1, p' ++ [⟨c.f, e.t, c.s ++ e.s⟩], rfl, by omega, by go_num, HB7.out, by rw [List.length_append, List.length_singleton, HLL.out]; exact HO7.out, by rw [List.length_append, List.length_singleton, HLL.out]; omega, HTT.out, fun h => by omega, fun _ => ⟨p', _, rfl, HNX.out⟩⟩
        · have htc' : (c.t == e.f) = false := beq_eq_false_iff_ne.2 (fun h => htc h.symm)
          have HNX : Hid (p ++ jn1 e (all.drop (k + 1)) = jn all) := by
            unfold Hid; rw [← HPJ.out, jn1_apart HKE.out htc, jn_drop HKE.out, HPC.out]; simp
          clear htc
          go_upto_region 30 with fail
          go_quiet (fail)
          obtain ⟨wq, ewq⟩ : ∃ wq, wr.drewN nq = wq := ⟨_, rfl⟩
          have hbq : Below wr.heap.size wr wq := by rw [← ewq]; exact below_drewN (Below.refl _ _) _
          have hsq : wr.heap.size ≤ wq.heap.size := hbq.size
          have HBQ : Hid (Below v.heap.size v wq) := HBR.out.trans (hbq.mono hsz)
          have HOQ : Hid (wq.ownsRow v.heap.size 33 3 (.slice (some ⟨go, 0, none⟩) (L + 1) c10) (L + 1) (flat p)) := ownsRow_below HO.out hbq (Nat.le_refl _)
          obtain ⟨r0, r1, r2⟩ := HE.out.cells HBQ.out HKE.out
          rw [ewq]
          clear ewq hbq c0 c1 c2 g0 g1 g2
          go_wp2_with (at_builtin; (refine wpList_append_own_any _ rfl (.tmp 179) (.tmp 184) 22 rfl v.heap.size 33 i0 (.agg #[.int .i64 0, .int .i64 0, .string ⟨#[]⟩]) 3 32 Try.underlying22 hi0 hz0 hz1 hz2 rfl (by decide) _ _ _ rfl (HOQ.out.alloc _) (some ⟨wq.heap.size, 0, none⟩) 1 1 (flat [e]) rfl (by rfl) (fun h => by cases h) (fun ad had => by cases had; exact cells_new wq (flat [e]) 33) (flat_oneCell _) ?c2 ?c3 ?c4 ?_))
          case c2 => unfold maxLen; omega
          case c3 => omega
          case c4 => simp; omega
          intro v9 w9 hown9 hgrow9
          have HB9 : Hid (Below v.heap.size v w9) := (HBQ.out.alloc HBQ.out.size _).grown hgrow9 (by simp; omega) (fun g h => (HOQ.out.lt g h).1)
          have HO9 : Hid (w9.ownsRow v.heap.size 33 3 v9 (p ++ [e]).length (flat (p ++ [e]))) := by
            unfold Hid; rw [flat_append, List.length_append, HPL.out]; exact hown9
          clear hown9 hgrow9
          go_wp2
          go_roundg (all.length - (k + 1))
          case measure => omega
          case rel => exact ⟨k + 1, p ++ [e], rfl, by omega, by go_num, HB9.out, HO9.out, by rw [List.length_append, List.length_singleton, HPL.out]; omega, by rw [tots_app]; simp [tots]; omega, fun h => by omega, fun _ => ⟨p, e, rfl, HNX.out⟩⟩
    · have hke : k = all.length := by omega
      have hk1 : ¬ (k : Int) < (all.length : Int) := by omega
      have HJ : Hid (p = jn all) := by
        unfold Hid
        by_cases h0 : k = 0
        · rw [HP0.out h0, List.eq_nil_of_length_eq_zero (show all.length = 0 by omega)]; rfl
        · obtain ⟨p', c, h1, h2⟩ := HPS.out (by omega)
          rw [h1, ← h2, List.drop_eq_nil_iff.2 (by omega)]; rfl
      obtain ⟨a10, c10, rfl, hA10, -, hn10⟩ := own_form HO.out
      have HA10 : Hid (EdsA wr a10 p) := hA10
      have HN10 : Hid (a10 = none → p.length = 0 ∧ c10 = 0) := hn10
      clear hA10 hn10 hke
      by_cases hmn : 65536 < p.length
      · have hmn' : (65536 : Int) < (p.length : Int) := by omega
        have hr : Hid (R = []) := by unfold Hid; rw [HR.out, ← HJ.out, if_pos hmn]
        have hee : Hid (E = 2) := by unfold Hid; rw [HEE.out, ← HJ.out, if_pos hmn]
        go_wp2
        go_ret2
        rw [hr.out, hee.out]
        exact ⟨none, 0, rfl, .inl rfl, by simp, HB.out.trans (HBR.out.mono HB.out.size)⟩
      · have hmn' : ¬ (65536 : Int) < (p.length : Int) := by omega
        have hr : Hid (R = p) := by unfold Hid; rw [HR.out, ← HJ.out, if_neg hmn]
        have hee : Hid (E = 0) := by unfold Hid; rw [HEE.out, ← HJ.out, if_neg hmn]
        go_wp2
        go_ret2
        rw [hr.out, hee.out]
        exact ⟨a10, c10, rfl, HA10.out, (fun h => ⟨List.eq_nil_of_length_eq_zero (HN10.out h).1, (HN10.out h).2⟩), HB.out.trans (HBR.out.mono HB.out.size)⟩
end Go.Proofs.Ytniamjbieciilaa
