import Derived.Test.YtkfdlccacddbfaaGq4
import Derived.Test.YtkfdlccacddbfaaGq2
import Derived.Test.YtkfdlccacddbfaaGr7
namespace Go.Proofs.Ytkfdlccacddbfaa
open Go.ChangeShapes Go.WideShapes Go.ChangeAt Go.RowKit Go.Sort
set_option linter.unusedVariables false
set_option linter.unusedSimpArgs false

theorem rreach_bad (n x : Int) (a : Option Addr) (cap : Nat) (ps : List Pr) (w : World) (hL : LiesA w a ps) (hm : ps.length ≤ 8796093022208) (h : (things n ps && thg n x) = false) :
    Calls Try.prog 7 #[.int .i64 n, .slice a ps.length cap, .int .i64 x] w fun e w' => e = .returned (.tuple #[.slice none 0 0, .int .i64 1]) ∧ w' = w := by
  have BD : Hid (Calls Try.prog 18 #[.int .i64 n, .slice a ps.length cap] w fun e w' => e = .returned (.bool (!things n ps)) ∧ w' = w) := rbad_any n a cap ps w hL (by omega)
  cases ht : things n ps with
  | false =>
    rw [ht] at BD
    go_enter Try.func7, Try.ntmps7
    go_wp2_with (go_at_call 18; (with_reducible refine BD.out.mono ?_); rintro e v1 ⟨rfl, rfl⟩)
    go_ret2
    exact ⟨rfl, rfl⟩
  | true =>
    rw [ht] at BD h
    have hx : thg n x = false := by simpa using h
    unfold thg at hx
    by_cases h0 : x < 0
    · go_enter Try.func7, Try.ntmps7
      go_wp2_with (go_at_call 18; (with_reducible refine BD.out.mono ?_); rintro e v1 ⟨rfl, rfl⟩)
      go_ret2
      exact ⟨rfl, rfl⟩
    · have h1 : n ≤ x := by
        rw [decide_eq_true (show 0 ≤ x by omega)] at hx
        simp at hx
        exact hx
      clear hx h
      go_enter Try.func7, Try.ntmps7
      go_wp2_with (go_at_call 18; (with_reducible refine BD.out.mono ?_); rintro e v1 ⟨rfl, rfl⟩)
      go_ret2
      exact ⟨rfl, rfl⟩
theorem reach_bad (n x : Int) (a : Option Addr) (cap : Nat) (ps : List Pr) (w : World) (hL : LiesA w a ps) (hm : ps.length ≤ 8796093022208) (h : (things n ps && thg n x) = false) :
    Calls Try.prog 6 #[.int .i64 n, .slice a ps.length cap, .int .i64 x] w fun e w' => e = .returned (.tuple #[.slice none 0 0, .int .i64 1]) ∧ Below w.heap.size w w' := by
  have AT : Hid (Calls Try.prog 12 #[.int .i64 n, .slice a ps.length cap] w fun e w' => e = .returned (.bool (things n ps)) ∧ Below w.heap.size w w') := areThings_any n a cap ps w hL (by omega)
  cases ht : things n ps with
  | false =>
    rw [ht] at AT
    go_enter Try.func6, Try.ntmps6
    go_wp2_with (go_at_call 12; (with_reducible refine AT.out.mono ?_); rintro e v1 ⟨rfl, hb1⟩; have HB1 : Hid (Below w.heap.size w v1) := hb1; clear hb1)
    go_ret2
    exact ⟨rfl, HB1.out⟩
  | true =>
    rw [ht] at AT h
    have hx : thg n x = false := by simpa using h
    go_enter Try.func6, Try.ntmps6
    go_wp2_with (first
      | (go_at_call 12; (with_reducible refine AT.out.mono ?_); rintro e v1 ⟨rfl, hb1⟩; have HB1 : Hid (Below w.heap.size w v1) := hb1; clear hb1)
      | (go_at_call 13; (with_reducible refine (isThing_any n x _).mono ?_); rintro e v2 ⟨rfl, hv⟩; have hv2 := hv.symm; clear hv; subst hv2; rw [hx]))
    go_ret2
    exact ⟨rfl, HB1.out⟩

set_option maxRecDepth 1000000 in
set_option maxHeartbeats 4000000 in
theorem rreach_ok (n x cap : Nat) (a : Option Addr) (ps : List Pr) (w : World) (hL : LiesA w a ps) (hm : ps.length ≤ 8796093022208) (ht : things (n : Int) ps = true) (hx : x < n) :
    Calls Try.prog 7 #[.int .i64 (n : Int), .slice a ps.length cap, .int .i64 (x : Int)] w fun e w' => ∃ v, e = .returned (.tuple #[v, .int .i64 0]) ∧ Below w.heap.size w w' ∧ ∃ zs, w'.ownsRow w.heap.size 3 1 v zs.length (ivs zs) ∧ RL n ps x zs := by
  obtain ⟨i0, hi, hz0, hz1, hz2⟩ := info_parts infoInt
  obtain ⟨hn, hps⟩ := things_spec ht
  have BD : Hid (Calls Try.prog 18 #[.int .i64 (n : Int), .slice a ps.length cap] w fun e w' => e = .returned (.bool false) ∧ w' = w) := by have h9 := rbad_any (n : Int) a cap ps w hL (by omega); rw [ht] at h9; exact h9
  have RW : Hid (Calls Try.prog 20 #[.int .i64 (n : Int), .slice a ps.length cap, .int .i64 1] w fun e w' => e = .returned (.slice (some ⟨w.heap.size, 0, none⟩) n n) ∧ ∃ rs, Lw w.heap.size w.heap.size n w w' rs ∧ Ad .i64 ps rs) := rows1_any n cap a ps w hL hn hm hps
  have HPS : Hid (∀ p ∈ ps, 0 ≤ p.b ∧ p.b < (n : Int)) := fun p hp => (hps p hp).2
  have h0 : ¬ (x : Int) < 0 := by omega
  have h1 : ¬ (n : Int) ≤ (x : Int) := by omega
  obtain ⟨B, hB⟩ : ∃ B, w.heap.size = B := ⟨_, rfl⟩
  have HBq : Hid (w.heap.size = B) := hB
  rw [hB] at RW
  clear hL hps hB
  go_enter Try.func7, Try.ntmps7
  go_upto_region 6 with (first
    | (go_at_call 18; (with_reducible refine BD.out.mono ?_); rintro e v1 ⟨rfl, hv⟩; have hv2 := hv.symm; clear hv; subst hv2)
    | (go_at_call 20; (with_reducible refine RW.out.mono ?_); rintro e w1 ⟨rfl, rs, hl1, ha1⟩; have L1 : Hid (Lw B B n w w1 rs) := hl1; have A1 : Hid (Ad .i64 ps rs) := ha1; clear hl1 ha1)
    | (go_at_call 19; (with_reducible refine (reached_any B B n x w w1 rs ps hn hx L1.out A1.out HPS.out hm).mono ?_); rintro e w2 ⟨rfl, hb2, m, ho2, hl2, hr2⟩; have HB2 : Hid (Below w1.heap.size w1 w2) := hb2; have O2 : Hid (w2.ownsRow w1.heap.size 4 1 (.slice (some ⟨w1.heap.size, 0, none⟩) n n) n (m.map Value.bool)) := ho2; have M2 : Hid (m.length = n ∧ ∀ y : Nat, m[y]? = some true ↔ Rch ps x y) := ⟨hl2, hr2⟩; clear hb2 ho2 hl2 hr2))
  obtain ⟨C, hC⟩ : ∃ C, w2.heap.size = C := ⟨_, rfl⟩
  obtain ⟨gm, hgm⟩ : ∃ g, w1.heap.size = g := ⟨_, rfl⟩
  have HC : Hid (w2.heap.size = C ∧ w1.heap.size = gm) := ⟨hC, hgm⟩
  rw [hgm] at O2 ⊢
  have HBW : Hid (Below B w w2) := L1.out.bel.trans (HB2.out.mono (by rw [← HBq.out] at L1 ⊢; exact L1.out.base))
  have HBC : Hid (B ≤ C) := by have h1 := L1.out.base; have h2 := HB2.out.size; unfold Hid; omega
  have CM : Hid (∀ z (k : Nat) b, Below C w2 z → m[k]? = some b → z.cell? ⟨gm, k, none⟩ = some (.bool b)) := by
    intro z k b hz hk
    have h1 := O2.out.cells rfl k (.bool b) (by rw [List.getElem?_map, hk]; rfl)
    rw [addr_add, Nat.zero_add] at h1
    exact (hz.cell (p := ⟨gm, k, none⟩) (by rw [← hC]; exact (O2.out.lt gm rfl).2)).trans h1
  clear hC hgm BD RW
  go_loopg [9, 10] n (fun gk s9 s10 wr => ∃ (i : Nat) (v9 : Value) (zs : List Int), s9 = v9 ∧ s10 = .int .i64 (i : Int) ∧ gk = n - i ∧ i ≤ n ∧ wr.ownsRow C 3 1 v9 zs.length (ivs zs) ∧ Below C w2 wr ∧ C ≤ wr.heap.size ∧ zs.Pairwise (· < ·) ∧ zs.length ≤ i ∧ ∀ y : Int, y ∈ zs ↔ ∃ k : Nat, y = (k : Int) ∧ k < i ∧ m[k]? = some true)
  case atStart => exact ⟨0, _, [], rfl, rfl, rfl, Nat.zero_le _, World.ownsRow_nil _ _ _ _, Below.refl _ _, by rw [HC.out.1]; exact Nat.le_refl _, List.Pairwise.nil, Nat.le_refl _, fun y => by simp⟩
  case round =>
    obtain ⟨i, v9, zs, hv9, rfl, hgk, hin, ho, hb, hc, hp, hl, hmem⟩ := hrel
    have hv9' := hv9.symm
    clear hv9
    subst hv9'
    obtain ⟨a9, c9, hv, -, -⟩ := own_slice ho
    subst hv
    have HO : Hid (wr.ownsRow C 3 1 (.slice a9 zs.length c9) zs.length (ivs zs)) := ho
    have HB : Hid (Below C w2 wr ∧ C ≤ wr.heap.size) := ⟨hb, hc⟩
    have HZ : Hid (zs.Pairwise (· < ·) ∧ zs.length ≤ i ∧ ∀ y : Int, y ∈ zs ↔ ∃ k : Nat, y = (k : Int) ∧ k < i ∧ m[k]? = some true) := ⟨hp, hl, hmem⟩
    have hzl : zs.length ≤ 131072 := by omega
    clear ho hb hc hp hl hmem
    by_cases hin2 : i < n
    · have hin2' : (i : Int) < (n : Int) := by omega
      obtain ⟨b, hb⟩ : ∃ b, m[i]? = some b := ⟨_, List.getElem?_eq_getElem (by rw [M2.out.1]; exact hin2)⟩
      have HMI : Hid (m[i]? = some b) := hb
      have cm := CM.out wr i b HB.out.1 hb
      clear hb
      cases b with
      | false =>
        go_wp2
        go_roundg (n - (i + 1))
        case measure => omega
        case rel =>
          refine ⟨i + 1, _, zs, rfl, by go_num, rfl, by omega, HO.out, HB.out.1, HB.out.2, HZ.out.1, by have := HZ.out.2.1; omega, fun y => ?_⟩
          rw [HZ.out.2.2 y]
          constructor
          · rintro ⟨k, h1, h2, h3⟩; exact ⟨k, h1, by omega, h3⟩
          · rintro ⟨k, h1, h2, h3⟩
            refine ⟨k, h1, ?_, h3⟩
            rcases Nat.lt_succ_iff_lt_or_eq.1 h2 with h | h
            · exact h
            · subst h; exact (tf h3 HMI.out).elim
      | true =>
        obtain ⟨zA, eA, hbA, hsA, BA⟩ := bx1 wr #[.int .i64 (i : Int)] 3
        have OA : Hid (zA.ownsRow C 3 1 (.slice a9 zs.length c9) zs.length (ivs zs)) := ownsRow_below HO.out hbA (Nat.le_refl _)
        have NA : Hid (∀ j u, [Value.int .i64 (i : Int)][j]? = some u → zA.cell? ((⟨wr.heap.size, 0, none⟩ : Addr).add j) = some u) := by unfold Hid; rw [← eA]; exact cells_newR wr [Value.int .i64 (i : Int)] 3
        have HSA : Hid (zA.heap.size = wr.heap.size + 1) := hsA
        have HEA : Hid (wr.alloc (.cells #[.int .i64 (i : Int)] 3) = zA) := eA
        have HBA : Hid (Below C w2 zA ∧ C ≤ zA.heap.size) := ⟨HB.out.1.trans (hbA.mono HB.out.2), Nat.le_trans HB.out.2 hbA.size⟩
        clear eA hbA hsA BA
        go_wp2_with (at_builtin; rw [HEA.out]; refine wpList_append_lies _ rfl _ _ 24 rfl C 3 i0 (.int .i64 0) 1 8 Try.underlying24 hi hz0 hz1 hz2 rfl (by decide) (.slice a9 zs.length c9) zs.length (ivs zs) rfl OA.out ⟨wr.heap.size, 0, none⟩ 1 1 [Value.int .i64 (i : Int)] rfl rfl NA.out (by intro u hu; simp at hu; subst hu; rfl) (by decide) (by unfold maxLen; omega) (by omega) HBA.out.2 (wr.heap.size + 1) HSA.out ?_; intro gg cp w9 hown9 hgrow9 hat9 hlt9; have O9 : Hid (w9.ownsRow C 3 1 (.slice (some ⟨gg, 0, none⟩) (zs.length + 1) cp) (zs.length + 1) (ivs zs ++ [Value.int .i64 (i : Int)])) := hown9; have B9 : Hid (Below C w2 w9 ∧ C ≤ w9.heap.size) := ⟨HBA.out.1.grown hgrow9 HBA.out.2 (fun k hk => (OA.out.lt k hk).1), Nat.le_trans HBA.out.2 hgrow9.size⟩; clear hown9 hgrow9 hat9 hlt9)
        go_roundg (n - (i + 1))
        case measure => omega
        case rel =>
          refine ⟨i + 1, _, zs ++ [(i : Int)], rfl, by go_num, rfl, by omega, ?_, B9.out.1, B9.out.2, ?_, ?_, fun y => ?_⟩
          · have h9 := O9.out
            rw [List.length_append, show ivs (zs ++ [(i : Int)]) = ivs zs ++ [Value.int .i64 (i : Int)] by simp [ivs]]
            exact h9
          · refine List.pairwise_append.2 ⟨HZ.out.1, by simp, fun p hp q hq => ?_⟩
            rw [List.mem_singleton] at hq
            obtain ⟨k, h1, h2, _⟩ := (HZ.out.2.2 p).1 hp
            omega
          · have := HZ.out.2.1; simp; omega
          · rw [List.mem_append, List.mem_singleton, HZ.out.2.2 y]
            constructor
            · rintro (⟨k, h1, h2, h3⟩ | h)
              · exact ⟨k, h1, by omega, h3⟩
              · exact ⟨i, h, by omega, HMI.out⟩
            · rintro ⟨k, h1, h2, h3⟩
              rcases Nat.lt_succ_iff_lt_or_eq.1 h2 with h | h
              · exact .inl ⟨k, h1, h, h3⟩
              · subst h; exact .inr h1
    · have hin2' : ¬ (i : Int) < (n : Int) := by omega
      go_wp2
      go_ret2
      refine ⟨_, rfl, ?_, zs, ?_, HZ.out.1, by have := HZ.out.2.1; omega, fun y => ?_⟩
      · rw [HBq.out]; exact HBW.out.trans (HB.out.1.mono HBC.out)
      · rw [HBq.out]; exact own_lower HO.out HBC.out
      · rw [HZ.out.2.2 y]
        constructor
        · rintro ⟨k, h1, h2, h3⟩; exact ⟨k, h1, (M2.out.2 k).1 h3⟩
        · rintro ⟨k, h1, h2⟩
          have h3 := (M2.out.2 k).2 h2
          refine ⟨k, h1, ?_, h3⟩
          have := (List.getElem?_eq_some_iff.1 h3).1
          rw [M2.out.1] at this
          omega
end Go.Proofs.Ytkfdlccacddbfaa
