import Derived.Test.YteafgddfcohclaaDp
namespace Go.Proofs.Yteafgddfcohclaa
open Go.ChangeShapes Go.WideShapes Go.ChangeAt Go.RowKit
set_option linter.unusedVariables false

theorem ret_ib {a b : Int} {c d : Bool} (h : a = b) (h2 : c = d) : Ending.returned (.tuple #[.int .i64 a, .bool c]) = .returned (.tuple #[.int .i64 b, .bool d]) := by rw [h, h2]

set_option maxRecDepth 1000000 in
set_option maxHeartbeats 2000000 in
theorem below_any (b o cap : Nat) (ns : List Nd) (w : World) (hL : Lies w b o ns) (hl : ns.length * 32 ≤ 140737488351232) : ∀ (zz n z : Nat) (x : Nd), z ≤ zz → ns[n]? = some x → x.s = z → 1 ≤ z → z + n ≤ ns.length →
    Calls Try.prog 24 #[.slice (some ⟨b, o, none⟩) ns.length cap, .int .i64 n] w fun e w' => e = .returned (.tuple #[.int .i64 ((dp1 (dp ns (n + 1) (n + z)) : Nat) : Int), .bool (dp ns (n + 1) (n + z)).isSome]) ∧ w = w' := by
  intro zz
  induction zz with
  | zero => intro n z x h1 _ _ h4; omega
  | succ zz ih =>
    intro n z x hzz hx hxz hz1 hzn
    have IH : Hid (∀ (n z : Nat) (x : Nd), z ≤ zz → ns[n]? = some x → x.s = z → 1 ≤ z → z + n ≤ ns.length →
      Calls Try.prog 24 #[.slice (some ⟨b, o, none⟩) ns.length cap, .int .i64 n] w fun e w' => e = .returned (.tuple #[.int .i64 ((dp1 (dp ns (n + 1) (n + z)) : Nat) : Int), .bool (dp ns (n + 1) (n + z)).isSome]) ∧ w = w') := ih
    have HL : Hid (Lies w b o ns) := hL
    have hb : b < w.heap.size := hL.1
    have y1 := (hL.nd (Below.refl _ _) hx).2.2.2
    rw [hxz] at y1
    have hn' : (n : Int) < (ns.length : Int) := by omega
    clear ih hx hxz hL
    go_enter Try.func24, Try.ntmps24
    go_wp2_with fail
    go_loopw [7, 8] (fun v i wr => ∃ (m k : Nat), n < k ∧ k ≤ n + z ∧ m < k ∧ v = .int .i64 m ∧ i = .int .i64 k ∧ w = wr ∧ dp ns (n + 1) (n + z) = (dp ns k (n + z)).map (fun c => max m c)) (fun _ i _ => n + z - (intOf i).toNat)
    case atStart => exact ⟨0, n + 1, by omega, by omega, by omega, rfl, by go_num, rfl, by simp⟩
    case round =>
      obtain ⟨m, k, hk0, hk1, hmk, rfl, rfl, rfl, heq⟩ := hrel
      have HEQ : Hid (dp ns (n + 1) (n + z) = (dp ns k (n + z)).map (fun c => max m c)) := heq
      clear heq y1
      by_cases hlt : k < n + z
      · obtain ⟨e, he⟩ : ∃ e, ns[k]? = some e := ⟨_, List.getElem?_eq_getElem (by omega)⟩
        have y2 := (HL.out.nd (Below.refl _ _) he).2.2.2
        have HE : Hid (ns[k]? = some e) := he
        clear he
        have hk' : (k : Int) < (ns.length : Int) := by omega
        by_cases g1 : 1 ≤ e.s
        · by_cases g2 : e.s ≤ ((n + z : Nat) : Int) - k
          · obtain ⟨q, hq⟩ : ∃ q : Nat, e.s = q := ⟨e.s.toNat, by omega⟩
            have HQ : Hid (e.s = q) := hq
            have HST := dp_step hlt HE.out hq (by omega) (by omega)
            rw [hq] at y2 g1 g2
            clear hq
            have hcall := IH.out k q e (by omega) HE.out HQ.out (by omega) (by omega)
            cases hd : dp ns (k + 1) (k + q) with
            | none =>
              have HR : Hid (dp ns (n + 1) (n + z) = none) := by
                unfold Hid; rw [HEQ.out, HST, hd]; rfl
              rw [hd] at hcall
              have HC : Hid (Calls Try.prog 24 #[.slice (some ⟨b, o, none⟩) ns.length cap, .int .i64 k] w fun e w' => e = .returned (.tuple #[.int .i64 0, .bool false]) ∧ w = w') := hcall
              clear hcall HST hd
              go_wp2_with (first | (go_at_call 24; refine HC.out.mono ?_; rintro e w3 ⟨rfl, rfl⟩) | fail)
              go_ret2
              exact ⟨ret_ib (by rw [HR.out]; rfl) (by rw [HR.out]; rfl), rfl⟩
            | some a =>
              have ha := dp_le ns _ (k + 1) (k + q) (Nat.le_refl _) a hd
              have HR : Hid (dp ns (n + 1) (n + z) = (dp ns (k + q) (n + z)).map (fun c => max (max m (a + 1)) c)) := by
                unfold Hid; rw [HEQ.out, HST, hd]
                simp only [Option.bind_some, Option.map_map]
                congr 1
                funext c
                simp only [Function.comp_apply]
                omega
              rw [hd] at hcall
              have HC : Hid (Calls Try.prog 24 #[.slice (some ⟨b, o, none⟩) ns.length cap, .int .i64 k] w fun e w' => e = .returned (.tuple #[.int .i64 ((a + 1 : Nat) : Int), .bool true]) ∧ w = w') := hcall
              clear hcall HST hd
              by_cases g3 : m < a + 1
              · go_wp2_with (first | (go_at_call 24; refine HC.out.mono ?_; rintro e w3 ⟨rfl, rfl⟩) | fail)
                go_roundw
                case rel => exact ⟨a + 1, k + q, by omega, by omega, by omega, rfl, by go_num, by trivial, by rw [HR.out, Nat.max_eq_right (by omega)]⟩
                case measure => simp [intOf]; omega
              · go_wp2_with (first | (go_at_call 24; refine HC.out.mono ?_; rintro e w3 ⟨rfl, rfl⟩) | fail)
                go_roundw
                case rel => exact ⟨m, k + q, by omega, by omega, by omega, rfl, by go_num, by trivial, by rw [HR.out, Nat.max_eq_left (by omega)]⟩
                case measure => simp [intOf]; omega
          · have HR : Hid (dp ns (n + 1) (n + z) = none) := by
              unfold Hid; rw [HEQ.out, dp_bad hlt HE.out (by omega)]; rfl
            go_wp2_with fail
            go_ret2
            exact ⟨ret_ib (by rw [HR.out]; rfl) (by rw [HR.out]; rfl), rfl⟩
        · have HR : Hid (dp ns (n + 1) (n + z) = none) := by
            unfold Hid; rw [HEQ.out, dp_bad hlt HE.out (by omega)]; rfl
          go_wp2_with fail
          go_ret2
          exact ⟨ret_ib (by rw [HR.out]; rfl) (by rw [HR.out]; rfl), rfl⟩
      · have HR : Hid (dp ns (n + 1) (n + z) = some m) := by
          unfold Hid; rw [HEQ.out, dp_end hlt]; simp
        go_wp2_with fail
        go_ret2
        exact ⟨ret_ib (by rw [HR.out]; rfl) (by rw [HR.out]; rfl), rfl⟩
end Go.Proofs.Yteafgddfcohclaa
