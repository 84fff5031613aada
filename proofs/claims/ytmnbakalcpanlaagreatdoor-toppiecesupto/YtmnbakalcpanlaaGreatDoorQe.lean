import Derived.Test.YtmnbakalcpanlaaGreatDoorRows
import Derived.WalkKit
import Derived.ProofKit
import Derived.OpenShut
import Derived.ShutString
import Derived.ChangeOld
import Derived.Below
import Derived.Handy
import Derived.Deep.Slices
import Derived.Deep.Strs
import Derived.Deep.LoopGhost
import Derived.Deep.QuietTactic
import Derived.BigQuiet
import Derived.WalkSpells
import Derived.WalkMore
import Derived.WalkSmall
import Derived.Lib.Strings
import Derived.Lib.IndexBytes
import Derived.Lib.AppendStr
import Derived.Laws.IdiomStrings
import Derived.SizedLaws
import Derived.JoinedCond
import Derived.Lib.Walk
import Derived.Lib.BufferWrite
import Derived.Lib.UnsafeStr
import Derived.Laws.MakeOwn
import Derived.Deep.RegionHeld3
import Derived.Deep.AppendLies
import Derived.Deep.DrawnRows
import Derived.Deep.DeepCutAuto
import Derived.Laws.OwnMore
import Derived.Lib.OthersKept
namespace Go.Proofs.YtmnbakalcpanlaaGreatDoor.Q
open Go.ChangeShapes Go.WideShapes Go.ChangeAt Go.RowKit
set_option linter.unusedVariables false
structure Ed where
  f : Int
  t : Int
  s : ByteArray
/-- the cells of a list of edits, from a place on -/
def Eds (w : World) (b o : Nat) (xs : List Ed) : Prop :=
  b < w.heap.size ∧ ∀ i (e : Ed), xs[i]? = some e → w.cell? ⟨b, o + i * 3, none⟩ = some (.int .i64 e.f) ∧ w.cell? ⟨b, o + i * 3 + 1, none⟩ = some (.int .i64 e.t) ∧ w.cell? ⟨b, o + i * 3 + 2, none⟩ = some (.string e.s)
def EdFit (e : Ed) : Prop := -9223372036854775808 ≤ e.f ∧ e.f ≤ 9223372036854775807 ∧ -9223372036854775808 ≤ e.t ∧ e.t ≤ 9223372036854775807 ∧ e.s.size ≤ 140737488351232
/-- .. or nothing, wherever it lies -/
def EdsA (w : World) (a : Option Addr) (xs : List Ed) : Prop := xs = [] ∨ ∃ b o, a = some ⟨b, o, none⟩ ∧ Eds w b o xs
/-- the check of a list of edits, behind its length -/
def chk (size : Int) : Int → List Ed → Int
  | _, [] => 0
  | least, e :: r => if 0 ≤ e.f ∧ e.f ≤ e.t ∧ e.t ≤ size then (if e.f < least then 11 else chk size (e.t + 1) r) else 10
def vld (size : Int) (xs : List Ed) : Int := if 65536 < xs.length then 2 else chk size 0 xs
theorem drop_get {α : Type} {xs : List α} {k : Nat} {e : α} (h : xs[k]? = some e) : xs.drop k = e :: xs.drop (k + 1) := by
  obtain ⟨hk, he⟩ := List.getElem?_eq_some_iff.1 h
  rw [List.drop_eq_getElem_cons hk, he]
theorem Eds.below {B : Nat} {w w' : World} {b o : Nat} {xs : List Ed} (h : Eds w b o xs) (hb : Below B w w') (hB : b < B) : Eds w' b o xs := by
  refine ⟨Nat.lt_of_lt_of_le h.1 hb.size, fun i e he => ?_⟩
  obtain ⟨h0, h1, h2⟩ := h.2 i e he
  exact ⟨(hb.cell (p := ⟨b, _, none⟩) hB).trans h0, (hb.cell (p := ⟨b, _, none⟩) hB).trans h1, (hb.cell (p := ⟨b, _, none⟩) hB).trans h2⟩
theorem EdsA.below {w w' : World} {a : Option Addr} {xs : List Ed} (h : EdsA w a xs) (hb : Below w.heap.size w w') : EdsA w' a xs := by
  rcases h with h | ⟨b, o, ha, h⟩
  · exact .inl h
  · exact .inr ⟨b, o, ha, h.below hb h.1⟩
/-- the cells of a list, one behind the other -/
def flat (xs : List Ed) : List Value := xs.flatMap fun e => [.int .i64 e.f, .int .i64 e.t, .string e.s]
theorem flat_cons (e : Ed) (r : List Ed) : flat (e :: r) = .int .i64 e.f :: .int .i64 e.t :: .string e.s :: flat r := by simp [flat]
theorem flat_length (xs : List Ed) : (flat xs).length = xs.length * 3 := by
  induction xs with
  | nil => rfl
  | cons e r ih => rw [flat_cons]; simp [ih]; omega
theorem flat_append (xs ys : List Ed) : flat (xs ++ ys) = flat xs ++ flat ys := by simp [flat]
theorem flat_get (xs : List Ed) (i r : Nat) (hr : r < 3) : (flat xs)[i * 3 + r]? = (xs[i]?).map fun e => if r = 0 then .int .i64 e.f else if r = 1 then .int .i64 e.t else .string e.s := by
  induction xs generalizing i with
  | nil => simp [flat]
  | cons e t ih =>
    rw [flat_cons]
    match i with
    | 0 => match r, hr with
      | 0, _ => simp
      | 1, _ => simp
      | 2, _ => simp
    | i + 1 =>
      rw [show (i + 1) * 3 + r = (i * 3 + r) + 3 by omega]
      simpa using ih i
theorem flat_oneCell (xs : List Ed) : ∀ u ∈ flat xs, u.oneCell' = true := by
  intro u hu
  simp only [flat, List.mem_flatMap] at hu
  obtain ⟨e, _, h⟩ := hu
  simp at h
  rcases h with rfl | rfl | rfl <;> rfl
theorem Eds.flat {w : World} {b o : Nat} {xs : List Ed} (h : Eds w b o xs) : ∀ j u, (flat xs)[j]? = some u → w.cell? ((⟨b, o, none⟩ : Addr).add j) = some u := by
  intro j u hj
  have e : j = j / 3 * 3 + j % 3 := by omega
  rw [e, flat_get xs _ _ (by omega)] at hj
  obtain ⟨x, hx, hu⟩ := Option.map_eq_some_iff.1 hj
  obtain ⟨h0, h1, h2⟩ := h.2 _ _ hx
  have ha : (⟨b, o, none⟩ : Addr).add j = ⟨b, o + j, none⟩ := by
    unfold Addr.add; by_cases hz : j = 0 <;> simp [hz]
  rw [ha]
  have h3 : j % 3 < 3 := by omega
  generalize j / 3 = q at *
  generalize j % 3 = r at *
  subst e
  match r, h3 with
  | 0, _ => simp at hu; subst hu; simpa using h0
  | 1, _ => simp at hu; subst hu; simpa [Nat.add_assoc] using h1
  | 2, _ => simp at hu; subst hu; simpa [Nat.add_assoc] using h2
theorem Eds.of_flat {w : World} {b o : Nat} {xs : List Ed} (hb : b < w.heap.size) (h : ∀ j u, (_root_.Go.Proofs.YtmnbakalcpanlaaGreatDoor.Q.flat xs)[j]? = some u → w.cell? ((⟨b, o, none⟩ : Addr).add j) = some u) : Eds w b o xs := by
  refine ⟨hb, fun i e he => ?_⟩
  have ha : ∀ j, (⟨b, o, none⟩ : Addr).add j = ⟨b, o + j, none⟩ := by
    intro j; unfold Addr.add; by_cases hz : j = 0 <;> simp [hz]
  refine ⟨?_, ?_, ?_⟩
  · have := h (i * 3 + 0) (.int .i64 e.f) (by rw [flat_get xs i 0 (by omega), he]; rfl)
    rw [ha] at this; simpa using this
  · have := h (i * 3 + 1) (.int .i64 e.t) (by rw [flat_get xs i 1 (by omega), he]; rfl)
    rw [ha] at this; simpa [Nat.add_assoc] using this
  · have := h (i * 3 + 2) (.string e.s) (by rw [flat_get xs i 2 (by omega), he]; rfl)
    rw [ha] at this; simpa [Nat.add_assoc] using this
/-- a row of the call's own, as a list of edits -/
theorem Eds.own {w : World} {base e n cap g : Nat} {xs : List Ed} (h : w.ownsRow base e 3 (.slice (some ⟨g, 0, none⟩) n cap) n (_root_.Go.Proofs.YtmnbakalcpanlaaGreatDoor.Q.flat xs)) : Eds w g 0 xs :=
  Eds.of_flat (h.lt g rfl).2 (h.cells rfl)
theorem cells_new (w : World) (l : List Value) (t : TypeId) : ∀ j u, l[j]? = some u → (w.alloc (.cells l.toArray t)).cell? ((⟨w.heap.size, 0, none⟩ : Addr).add j) = some u := by
  intro j u hj
  have ha : (⟨w.heap.size, 0, none⟩ : Addr).add j = ⟨w.heap.size, j, none⟩ := by
    unfold Addr.add; by_cases hz : j = 0 <;> simp [hz]
  rw [ha, World.cell?_alloc_at _ _ _ _ rfl]
  simpa using hj
def room : ByteArray := ⟨#[114, 111, 111, 109]⟩
theorem Eds.pre {w : World} {b o : Nat} {xs ys : List Ed} (h : Eds w b o (xs ++ ys)) : Eds w b o xs := by
  refine ⟨h.1, fun i e he => h.2 i e ?_⟩
  rw [List.getElem?_append_left (List.getElem?_eq_some_iff.1 he).1]
  exact he
theorem ownsRow_below {w w' : World} {base e size n B : Nat} {v : Value} {xs : List Value} (h : w.ownsRow base e size v n xs) (hb : Below B w w') (hB : w.heap.size ≤ B) : w'.ownsRow base e size v n xs := by
  obtain ⟨h1, h2⟩ := h
  refine ⟨h1, ?_⟩
  rcases h2 with h2 | ⟨g, cap, cur, hv, hg, hh, r⟩
  · exact .inl h2
  · exact .inr ⟨g, cap, cur, hv, hg, (hb.block g (Nat.lt_of_lt_of_le (lt_of_block hh) hB)).trans hh, r⟩
/-- what the call has built, as a slice of edits -/
theorem own_form {w : World} {base e n : Nat} {v : Value} {xs : List Ed} (h : w.ownsRow base e 3 v n (flat xs)) : ∃ a cap, v = .slice a n cap ∧ EdsA w a xs ∧ n = xs.length ∧ (a = none → n = 0 ∧ cap = 0) := by
  have hn : n = xs.length := by have := h.1; rw [flat_length] at this; omega
  rcases h.2 with ⟨h1, h2⟩ | ⟨g, cap, cur, hv, hg, hh, r⟩
  · refine ⟨none, 0, by rw [h1, h2], .inl (List.eq_nil_of_length_eq_zero (by omega)), hn, fun _ => ⟨h2, rfl⟩⟩
  · subst hv
    exact ⟨some ⟨g, 0, none⟩, cap, rfl, .inr ⟨g, 0, rfl, Eds.own h⟩, hn, fun h => by cases h⟩
theorem chk_bad {size least : Int} {xs : List Ed} {k : Nat} {e : Ed} (hm : ¬ 65536 < (xs.length : Int)) (hc : chk size 0 xs = chk size least (xs.drop k)) (he : xs[k]? = some e) (h : ¬ (0 ≤ e.f ∧ e.f ≤ e.t ∧ e.t ≤ size)) : vld size xs = 10 := by
  rw [vld, if_neg (by omega), hc, drop_get he, chk, if_neg h]
theorem chk_ord {size least : Int} {xs : List Ed} {k : Nat} {e : Ed} (hm : ¬ 65536 < (xs.length : Int)) (hc : chk size 0 xs = chk size least (xs.drop k)) (he : xs[k]? = some e) (h : 0 ≤ e.f ∧ e.f ≤ e.t ∧ e.t ≤ size) (h2 : e.f < least) : vld size xs = 11 := by
  rw [vld, if_neg (by omega), hc, drop_get he, chk, if_pos h, if_pos h2]
theorem chk_step {size least : Int} {xs : List Ed} {k : Nat} {e : Ed} (hc : chk size 0 xs = chk size least (xs.drop k)) (he : xs[k]? = some e) (h : 0 ≤ e.f ∧ e.f ≤ e.t ∧ e.t ≤ size) (h2 : ¬ e.f < least) : chk size 0 xs = chk size (e.t + 1) (xs.drop (k + 1)) := by
  rw [hc, drop_get he, chk, if_pos h, if_neg h2]
theorem chk_end {size least : Int} {xs : List Ed} {k : Nat} (hm : ¬ 65536 < (xs.length : Int)) (hc : chk size 0 xs = chk size least (xs.drop k)) (h : ¬ k < xs.length) : vld size xs = 0 := by
  rw [vld, if_neg (by omega), hc, List.drop_eq_nil_of_le (by omega), chk]
theorem ret_i64 {a b : Int} (h : a = b) : Ending.returned (.int .i64 a) = .returned (.int .i64 b) := by rw [h]
theorem Eds.cells {w : World} {b o : Nat} {xs : List Ed} (h : Eds w b o xs) {w' : World} (hb : Below w.heap.size w w') {i : Nat} {e : Ed} (he : xs[i]? = some e) :
    w'.cell? ⟨b, o + i * 3, none⟩ = some (.int .i64 e.f) ∧ w'.cell? ⟨b, o + i * 3 + 1, none⟩ = some (.int .i64 e.t) ∧ w'.cell? ⟨b, o + i * 3 + 2, none⟩ = some (.string e.s) :=
  (h.below hb h.1).2 i e he
set_option maxHeartbeats 400000 in
theorem wrong_any (size : Int) (b o cap : Nat) (xs : List Ed) (w : World) (hs0 : -9223372036854775808 ≤ size) (hs1 : size < 9223372036854775807)
    (hx : Eds w b o xs) (hl : xs.length ≤ maxLen) :
    Calls Tryz.prog 17 #[.int .i64 size, .slice (some ⟨b, o, none⟩) xs.length cap] w fun e w' => e = .returned (.int .i64 (vld size xs)) ∧ Below w.heap.size w w' := by
  unfold maxLen at hl
  have HX : Hid (Eds w b o xs) := hx
  have hbw : b < w.heap.size := hx.1
  clear hx
  by_cases hm : 65536 < (xs.length : Int)
  · go_enter Tryz.func17, Tryz.ntmps17
    go_wp2
    go_step3
    go_wp2
    rw [Exit.noGoto_ret]
    go_ret
    exact ⟨by simp [vld]; omega, Below.refl _ _⟩
  · go_enter Tryz.func17, Tryz.ntmps17
    go_wp2
    go_step3
    go_wp2
    go_step3
    go_wp2
    go_loopw [5, 15] (fun le i wr => ∃ k : Nat, k ≤ xs.length ∧ i = .int .i64 k ∧ Below w.heap.size w wr ∧ ∃ least : Int, le = .int .i64 least ∧ chk size 0 xs = chk size least (xs.drop k)) (fun _ i _ => xs.length - (intOf i).toNat)
    case atStart => exact ⟨0, Nat.zero_le _, rfl, Below.refl _ _, 0, rfl, by simp⟩
    case round =>
      obtain ⟨k, hk, rfl, hbel, least, rfl, hc⟩ := hrel
      have HC : Hid (chk size 0 xs = chk size least (xs.drop k)) := hc
      have hsz := hbel.size
      clear hc
      by_cases hlt : k < xs.length
      · obtain ⟨e, he⟩ : ∃ e, xs[k]? = some e := ⟨_, List.getElem?_eq_getElem hlt⟩
        obtain ⟨c0, c1, c2⟩ := HX.out.cells hbel he
        have HE : Hid (xs[k]? = some e) := he
        clear he
        by_cases hok : 0 ≤ e.f ∧ e.f ≤ e.t ∧ e.t ≤ size
        · obtain ⟨k1, k2, k3⟩ := hok
          by_cases hor : e.f < least
          · have hv := chk_ord (by omega) HC.out HE.out ⟨k1, k2, k3⟩ hor
            have HV : Hid (vld size xs = 11) := hv
            clear hv
            go_wp2
            refine wp_loop_rounds 3 ?_
            rw [rounds_succ]
            go_wp2
            go_quiet (fail)
            go_wp2
            rw [rounds_succ]
            go_wp2
            go_quiet (fail)
            go_wp2
            rw [rounds_succ]
            go_wp2
            go_quiet (fail)
            go_wp2
            rw [Exit.noGoto_ret]
            go_ret
            exact ⟨ret_i64 HV.out.symm, by (repeat (with_reducible refine below_drewN ?_ _)); go_grown⟩
          · have hst := chk_step HC.out HE.out ⟨k1, k2, k3⟩ hor
            have HS : Hid (chk size 0 xs = chk size (e.t + 1) (xs.drop (k + 1))) := hst
            clear hst
            go_wp2
            refine wp_loop_rounds 3 ?_
            rw [rounds_succ]
            go_wp2
            go_quiet (fail)
            go_wp2
            rw [rounds_succ]
            go_wp2
            go_quiet (fail)
            go_wp2
            rw [rounds_succ]
            go_wp2
            go_quiet (fail)
            go_wp2
            go_roundw
            case rel => exact ⟨k + 1, by omega, by go_num, by (repeat (with_reducible refine below_drewN ?_ _)); go_grown, e.t + 1, rfl, HS.out⟩
            case measure => simp [intOf]; omega
        · have hv := chk_bad (by omega) HC.out HE.out hok
          have HV : Hid (vld size xs = 10) := hv
          clear hv
          by_cases g1 : e.f < 0
          · go_wp2
            refine wp_loop_rounds 3 ?_
            rw [rounds_succ]
            go_wp2
            go_quiet (fail)
            go_wp2
            rw [Exit.noGoto_ret]
            go_ret
            exact ⟨ret_i64 HV.out.symm, by (repeat (with_reducible refine below_drewN ?_ _)); go_grown⟩
          · by_cases g2 : e.t < e.f
            · go_wp2
              refine wp_loop_rounds 3 ?_
              rw [rounds_succ]
              go_wp2
              go_quiet (fail)
              go_wp2
              rw [rounds_succ]
              go_wp2
              go_quiet (fail)
              go_wp2
              rw [Exit.noGoto_ret]
              go_ret
              exact ⟨ret_i64 HV.out.symm, by (repeat (with_reducible refine below_drewN ?_ _)); go_grown⟩
            · have g3 : size < e.t := by omega
              go_wp2
              refine wp_loop_rounds 3 ?_
              rw [rounds_succ]
              go_wp2
              go_quiet (fail)
              go_wp2
              rw [rounds_succ]
              go_wp2
              go_quiet (fail)
              go_wp2
              rw [rounds_succ]
              go_wp2
              go_quiet (fail)
              go_wp2
              rw [Exit.noGoto_ret]
              go_ret
              exact ⟨ret_i64 HV.out.symm, by (repeat (with_reducible refine below_drewN ?_ _)); go_grown⟩
      · go_wp2
        rw [Exit.noGoto_ret]
        go_ret
        exact ⟨ret_i64 (chk_end (by omega) HC.out hlt).symm, by go_grown⟩
theorem infoEd : (Tryz.prog.info? 38).map (fun i => (i.zero, i.size, i.bytes)) = some (some (.agg #[.int .i64 0, .int .i64 0, .string ⟨#[]⟩]), 3, 32) := by kernel_rfl
set_option maxHeartbeats 400000 in
theorem wrong_all (size : Int) (a : Option Addr) (cap : Nat) (xs : List Ed) (w : World) (hs0 : -9223372036854775808 ≤ size) (hs1 : size < 9223372036854775807) (h : EdsA w a xs) (hl : xs.length ≤ maxLen) :
    Calls Tryz.prog 17 #[.int .i64 size, .slice a xs.length cap] w fun e w' => e = .returned (.int .i64 (vld size xs)) ∧ Below w.heap.size w w' := by
  rcases h with rfl | ⟨b, o, rfl, h⟩
  · rw [List.length_nil]
    go_enter Tryz.func17, Tryz.ntmps17
    go_wp2
    go_step3
    go_wp2
    go_step3
    go_wp2
    refine wp_loop_rounds 1 ?_
    rw [rounds_succ]
    go_wp2
    rw [Exit.noGoto_ret]
    go_ret
    exact ⟨by simp [vld, chk], Below.refl _ _⟩
  · exact wrong_any size b o cap xs w hs0 hs1 h hl
def val62 (size : Int) (xs : List Ed) : Int := if 0 ≤ size ∧ size ≤ 4611686018427387904 then vld size xs else 1
set_option maxHeartbeats 400000 in
theorem valid_all (size : Int) (a : Option Addr) (cap : Nat) (xs : List Ed) (w : World) (hs0 : -9223372036854775808 ≤ size) (hs1 : size ≤ 9223372036854775807) (h : EdsA w a xs) (hl : xs.length ≤ maxLen) :
    Calls Tryz.prog 6 #[.int .i64 size, .slice a xs.length cap] w fun e w' => e = .returned (.int .i64 (val62 size xs)) ∧ Below w.heap.size w w' := by
  have H : Hid (EdsA w a xs) := h
  have HL : Hid (xs.length ≤ maxLen) := hl
  clear h hl
  by_cases h0 : 0 ≤ size
  · by_cases h1 : size ≤ 4611686018427387904
    · have HV : Hid (vld size xs = val62 size xs) := by unfold Hid val62; rw [if_pos ⟨h0, h1⟩]
      go_enter Tryz.func6, Tryz.ntmps6
      go_wp2_with (first | (go_at_call 17; refine (wrong_all size a cap xs _ (by omega) (by omega) H.out HL.out).mono ?_; rintro e w' ⟨rfl, hb⟩) | go_in)
      go_ret
      exact ⟨ret_i64 HV.out, hb⟩
    · have HV : Hid (1 = val62 size xs) := by unfold Hid val62; rw [if_neg (by omega)]
      go_enter Tryz.func6, Tryz.ntmps6
      go_wp2
      go_ret
      exact ⟨ret_i64 HV.out, Below.refl _ _⟩
  · have HV : Hid (1 = val62 size xs) := by unfold Hid val62; rw [if_neg (by omega)]
    go_enter Tryz.func6, Tryz.ntmps6
    go_wp2
    go_ret
    exact ⟨ret_i64 HV.out, Below.refl _ _⟩
theorem chk_ok {size least : Int} {xs : List Ed} (h : chk size least xs = 0) : ∀ e ∈ xs, 0 ≤ e.f ∧ e.f ≤ e.t ∧ e.t ≤ size := by
  induction xs generalizing least with
  | nil => simp
  | cons e r ih =>
    rw [chk] at h
    by_cases h1 : 0 ≤ e.f ∧ e.f ≤ e.t ∧ e.t ≤ size
    · rw [if_pos h1] at h
      by_cases h2 : e.f < least
      · rw [if_pos h2] at h; omega
      · rw [if_neg h2] at h
        intro x hx
        rcases List.mem_cons.1 hx with rfl | hx
        · exact h1
        · exact ih h x hx
    · rw [if_neg h1] at h; omega
theorem vld_chk {size : Int} {xs : List Ed} (h : vld size xs = 0) : chk size 0 xs = 0 ∧ xs.length ≤ 65536 := by
  unfold vld at h
  by_cases hl : 65536 < xs.length
  · rw [if_pos hl] at h; omega
  · rw [if_neg hl] at h; exact ⟨h, by omega⟩
theorem wrap64_zero : wrap64 0 = 0 := by unfold wrap64; omega
theorem wrap64_left (a b : Int) : wrap64 (wrap64 a + b) = wrap64 (a + b) := by unfold wrap64; omega
/-- a variable of the kind Edit, in a block of its own -/
def Box (w : World) (g : Nat) (f t : Int) (s : ByteArray) : Prop := w.heap[g]? = some (.cells #[.int .i64 f, .int .i64 t, .string s] 38 (0, 0))
theorem Box.lt {w : World} {g : Nat} {f t : Int} {s : ByteArray} (h : Box w g f t s) : g < w.heap.size := lt_of_block h
theorem Box.c0 {w : World} {g : Nat} {f t : Int} {s : ByteArray} (h : Box w g f t s) : w.cell? ⟨g, 0, none⟩ = some (.int .i64 f) := by simp [World.cell?, show w.heap[g]? = _ from h]
theorem Box.c1 {w : World} {g : Nat} {f t : Int} {s : ByteArray} (h : Box w g f t s) : w.cell? ⟨g, 1, none⟩ = some (.int .i64 t) := by simp [World.cell?, show w.heap[g]? = _ from h]
theorem Box.c2 {w : World} {g : Nat} {f t : Int} {s : ByteArray} (h : Box w g f t s) : w.cell? ⟨g, 2, none⟩ = some (.string s) := by simp [World.cell?, show w.heap[g]? = _ from h]
theorem Box.drew {w : World} {g : Nat} {f t : Int} {s : ByteArray} (h : Box w g f t s) : Box w.drew g f t s := h
theorem Box.below {B : Nat} {w w' : World} {g : Nat} {f t : Int} {s : ByteArray} (h : Box w g f t s) (hb : Below B w w') (hg : g < B) : Box w' g f t s := (hb.block g hg).trans h
theorem Box.alloc {w : World} {g : Nat} {f t : Int} {s : ByteArray} (h : Box w g f t s) (o : Obj) : Box (w.alloc o) g f t s := (Below.heap_alloc w o g h.lt).trans h
theorem Box.new (w : World) (f t : Int) (s : ByteArray) : Box (w.alloc (.cells #[.int .i64 f, .int .i64 t, .string s] 38)) w.heap.size f t s := heap_alloc_new w _
theorem bytes_len (s : ByteArray) : s.data.toList.length = s.size := by rw [Array.length_toList]; rfl
theorem bytes_ext {a b : ByteArray} (h : a.data.toList = b.data.toList) : a = b := by
  cases a; cases b; simp only at h; congr 1; exact Array.toList_inj.1 h
def bc (l : List UInt8) : List Value := l.map fun b => Value.int .u8 b.toNat
theorem bc_str (s : ByteArray) : Lib.strCells s = bc s.data.toList := rfl
theorem bc_append (a b : List UInt8) : bc (a ++ b) = bc a ++ bc b := by simp [bc]
theorem bc_length (l : List UInt8) : (bc l).length = l.length := by simp [bc]
/-- by how much a list of edits makes a text longer -/
def grw : List Ed → Int
  | [] => 0
  | e :: r => ((e.s.size : Int) - (e.t - e.f)) + grw r
def tots : List Ed → Nat
  | [] => 0
  | e :: r => e.s.size + tots r
/-- the text behind the edits, from a place on -/
def appF (tx : List UInt8) : Nat → List Ed → List UInt8
  | a, [] => tx.drop a
  | a, e :: r => (tx.drop a).take (e.f.toNat - a) ++ (e.s.data.toList ++ appF tx e.t.toNat r)
theorem chk_cons {size least : Int} {e : Ed} {r : List Ed} (h : chk size least (e :: r) = 0) : 0 ≤ e.f ∧ e.f ≤ e.t ∧ e.t ≤ size ∧ least ≤ e.f ∧ chk size (e.t + 1) r = 0 := by
  rw [chk] at h
  by_cases h1 : 0 ≤ e.f ∧ e.f ≤ e.t ∧ e.t ≤ size
  · rw [if_pos h1] at h
    by_cases h2 : e.f < least
    · rw [if_pos h2] at h; omega
    · rw [if_neg h2] at h; exact ⟨h1.1, h1.2.1, h1.2.2, by omega, h⟩
  · rw [if_neg h1] at h; omega
theorem app_len {tx : List UInt8} {xs : List Ed} {L : Int} {a : Nat} (h : chk tx.length L xs = 0) (ha : (a : Int) ≤ L) (hs : a ≤ tx.length) : ((appF tx a xs).length : Int) = tx.length - a + grw xs := by
  induction xs generalizing L a with
  | nil => simp only [appF, grw, List.length_drop]; omega
  | cons e r ih =>
    obtain ⟨h1, h2, h3, h4, h5⟩ := chk_cons h
    have := ih (a := e.t.toNat) h5 (by omega) (by omega)
    simp only [appF, grw, List.length_append, List.length_take, List.length_drop, bytes_len]
    omega
theorem grw_le (xs : List Ed) (h : ∀ e ∈ xs, e.f ≤ e.t) : grw xs ≤ tots xs := by
  induction xs with
  | nil => simp [grw, tots]
  | cons e r ih =>
    have h1 := h e (List.mem_cons_self ..)
    have h2 := ih fun x hx => h x (List.mem_cons_of_mem _ hx)
    simp only [grw, tots]
    omega
theorem grw_drop {xs : List Ed} {k : Nat} {e : Ed} (he : xs[k]? = some e) : grw (xs.drop k) = ((e.s.size : Int) - (e.t - e.f)) + grw (xs.drop (k + 1)) := by
  rw [drop_get he, grw]
theorem app_bound {tx : ByteArray} {xs : List Ed} (h : chk tx.size 0 xs = 0) : ((appF tx.data.toList 0 xs).length : Int) = tx.size + grw xs ∧ grw xs ≤ tots xs := by
  have hl := bytes_len tx
  refine ⟨?_, grw_le xs fun e he => (chk_ok h e he).2.1⟩
  have := app_len (tx := tx.data.toList) (L := 0) (a := 0) (by rw [hl]; exact h) (by omega) (by omega)
  rw [hl] at this
  simpa using this
theorem app_step {tx : ByteArray} {xs : List Ed} {k a f t : Nat} {s : ByteArray} {p : List UInt8} (he : xs[k]? = some ⟨f, t, s⟩) (hp : p ++ appF tx.data.toList a (xs.drop k) = appF tx.data.toList 0 xs) :
    (p ++ (tx.extract a f).data.toList ++ s.data.toList) ++ appF tx.data.toList t (xs.drop (k + 1)) = appF tx.data.toList 0 xs := by
  rw [← hp, drop_get he, appF, Lib.extract_data]
  simp [List.append_assoc]
theorem app_end {tx : ByteArray} {xs : List Ed} {k a : Nat} {p : List UInt8} (hk : ¬ k < xs.length) (hp : p ++ appF tx.data.toList a (xs.drop k) = appF tx.data.toList 0 xs) :
    p ++ (tx.extract a tx.size).data.toList = appF tx.data.toList 0 xs := by
  rw [← hp, List.drop_eq_nil_of_le (by omega), appF, Lib.extract_to_end]
theorem nat_ed2 {size : Nat} {e : Ed} (h : 0 ≤ e.f ∧ e.f ≤ e.t ∧ e.t ≤ (size : Int)) : ∃ f t : Nat, e = ⟨f, t, e.s⟩ ∧ f ≤ t ∧ t ≤ size := by
  obtain ⟨f, hf⟩ := Int.eq_ofNat_of_zero_le h.1
  obtain ⟨t, ht⟩ := Int.eq_ofNat_of_zero_le (Int.le_trans h.1 h.2.1)
  refine ⟨f, t, ?_, by omega, by omega⟩
  cases e
  simp only at hf ht
  rw [hf, ht]
theorem own_ne_box {w : World} {base e size n g : Nat} {v : Value} {xs : List Value} {f t : Int} {s : ByteArray} (h : w.ownsRow base e size v n xs) (hb : Box w g f t s) (he : e ≠ 38) : v.ownBlock ≠ some g := by
  rcases h.2 with ⟨rfl, _⟩ | ⟨g', cap, cur, rfl, _, hh, _⟩
  · intro h; cases h
  · intro h
    have : g' = g := by simpa [Value.ownBlock] using h
    subst this
    rw [show w.heap[g']? = _ from hb] at hh
    simp only [Option.some.injEq, Obj.cells.injEq] at hh
    exact he hh.2.1.symm
theorem Box.grown {w w' : World} {g : Nat} {f t : Int} {s : ByteArray} {row : Option Nat} (h : Box w g f t s) (hg : w.grownBy w' row) (hne : row ≠ some g) : Box w' g f t s :=
  (hg.block g h.lt (fun e => hne e.symm)).trans h
/-- the bytes of a row of the call's own, made a text -/
theorem own_string {w : World} {base n cap g : Nat} {l : List UInt8} (h : w.ownsRow base 5 1 (.slice (some ⟨g, 0, none⟩) n cap) n (bc l)) :
    (convert 51 9 (.slice (some ⟨g, 0, none⟩) n cap)).run Tryz.prog w = .ok (.string ⟨l.toArray⟩) w := by
  have hn : n = l.length := by have := h.1; rw [bc_length] at this; omega
  subst hn
  exact run_convert_bytes_back (P := Tryz.prog) w 51 9 5 ⟨g, 0, none⟩ cap l Tryz.underlying51 Tryz.underlying5 Tryz.underlying9 (fun j hj => h.cells rfl j _ (by simp [bc, hj]))
theorem nil_string (w : World) : (convert 51 9 (.slice none 0 0)).run Tryz.prog w = .ok (.string ⟨#[]⟩) w := by kernel_rfl
theorem own_string_any {w : World} {base n : Nat} {v : Value} {l : List UInt8} (h : w.ownsRow base 5 1 v n (bc l)) : (convert 51 9 v).run Tryz.prog w = .ok (.string ⟨l.toArray⟩) w := by
  rcases h.2 with ⟨rfl, h2⟩ | ⟨g, cp, cur, rfl, _⟩
  · have hl : l = [] := List.eq_nil_of_length_eq_zero (by have := h.1; rw [bc_length] at this; omega)
    subst hl
    exact nil_string w
  · exact own_string h
theorem infoU8 : (Tryz.prog.info? 5).map (fun i => (i.zero, i.size, i.bytes)) = some (some (.int .u8 0), 1, 1) := by kernel_rfl
set_option maxHeartbeats 800000 in
theorem growth_any (b o cap : Nat) (xs : List Ed) (w : World) (h : Eds w b o xs) (hl : xs.length ≤ maxLen) (hF : ∀ e ∈ xs, EdFit e) (hK : ∀ e ∈ xs, 0 ≤ e.f ∧ e.f ≤ e.t ∧ e.t ≤ 4611686018427387904) :
    Calls Tryz.prog 18 #[.slice (some ⟨b, o, none⟩) xs.length cap] w fun e w' => e = .returned (.int .i64 (wrap64 (grw xs))) ∧ Below w.heap.size w w' := by
  have HX : Hid (Eds w b o xs) := h
  have HF : Hid (∀ e ∈ xs, EdFit e) := hF
  have HK : Hid (∀ e ∈ xs, 0 ≤ e.f ∧ e.f ≤ e.t ∧ e.t ≤ 4611686018427387904) := hK
  have hbw : b < w.heap.size := h.1
  unfold maxLen at hl
  clear h hF hK
  go_enter Tryz.func18, Tryz.ntmps18
  go_wp2
  go_loopw [3, 8] (fun mv i wr => ∃ k : Nat, k ≤ xs.length ∧ i = .int .i64 k ∧ Below w.heap.size w wr ∧ ∃ m : Int, mv = .int .i64 (wrap64 m) ∧ grw xs = m + grw (xs.drop k)) (fun _ i _ => xs.length - (intOf i).toNat)
  case atStart => exact ⟨0, Nat.zero_le _, rfl, Below.refl _ _, 0, by rw [wrap64_zero], by simp⟩
  case round =>
    obtain ⟨k, hk, rfl, hbel, m, rfl, hc⟩ := hrel
    have HC : Hid (grw xs = m + grw (xs.drop k)) := hc
    have hsz := hbel.size
    clear hc
    by_cases hlt : k < xs.length
    · obtain ⟨e, he⟩ : ∃ e, xs[k]? = some e := ⟨_, List.getElem?_eq_getElem hlt⟩
      obtain ⟨c0, c1, c2⟩ := HX.out.cells hbel he
      have hmem : e ∈ xs := List.mem_of_getElem? he
      obtain ⟨q1, q2, q3⟩ := HK.out e hmem
      have q4 := (HF.out e hmem).2.2.2.2
      have HS : Hid (grw xs = (m + ((e.s.size : Int) - (e.t - e.f))) + grw (xs.drop (k + 1))) := by
        unfold Hid; rw [HC.out, grw_drop he]; omega
      clear he hmem
      go_wp2
      go_roundw
      case rel => exact ⟨k + 1, by omega, by go_num, by (repeat (with_reducible refine below_drewN ?_ _)); go_grown, m + ((e.s.size : Int) - (e.t - e.f)), by rw [wrap64_left], HS.out⟩
      case measure => simp [intOf]; omega
    · have HG : Hid (grw xs = m) := by unfold Hid; rw [HC.out, List.drop_eq_nil_of_le (by omega), grw]; omega
      go_wp2
      go_ret
      exact ⟨ret_i64 (by rw [HG.out]), by (repeat (with_reducible refine below_drewN ?_ _)); go_grown⟩
set_option maxRecDepth 1000000 in
set_option maxHeartbeats 2000000 in
theorem apply_any (tx : ByteArray) (b o cap : Nat) (xs : List Ed) (w : World) (hx : tx.size ≤ 140737488351232) (h : Eds w b o xs) (hl : xs.length ≤ maxLen) (hF : ∀ e ∈ xs, EdFit e) (hv : vld tx.size xs = 0) (hB : tx.size + tots xs ≤ 70368744177664) :
    Calls Tryz.prog 7 #[.string tx, .slice (some ⟨b, o, none⟩) xs.length cap] w fun e w' => e = .returned (.tuple #[.string ⟨(appF tx.data.toList 0 xs).toArray⟩, .int .i64 0]) ∧ Below w.heap.size w w' := by
  obtain ⟨i0, hi, hz0, hz1, hz2⟩ := info_parts infoU8
  have hck := (vld_chk hv).1
  obtain ⟨hlen, hgr⟩ := app_bound hck
  have hlen0 := (vld_chk hv).2
  have HX : Hid (Eds w b o xs) := h
  have HF : Hid (∀ e ∈ xs, EdFit e) := hF
  have hbw : b < w.heap.size := h.1
  have HV : Hid (val62 tx.size xs = 0) := by unfold Hid val62; rw [if_pos (by omega)]; exact hv
  have HK : Hid (∀ e ∈ xs, 0 ≤ e.f ∧ e.f ≤ e.t ∧ e.t ≤ (tx.size : Int)) := chk_ok hck
  have HCK : Hid (chk tx.size 0 xs = 0) := hck
  have HL : Hid (xs.length ≤ maxLen) := hl
  obtain ⟨N, hN⟩ : ∃ N : Nat, N = (appF tx.data.toList 0 xs).length := ⟨_, rfl⟩
  have HG : Hid (wrap64 (grw xs) = (N : Int) - tx.size) := by
    unfold Hid; rw [hN, hlen, IntWalk.wrap64_in _ ⟨by omega, by omega⟩]; omega
  have hNb : N ≤ 70368744177664 := by omega
  have HNe : Hid (N = (appF tx.data.toList 0 xs).length) := hN
  clear h hF hv hlen hgr hck hN hl hB
  go_enter Tryz.func7, Tryz.ntmps7
  go_wp2_with (first | (go_at_call 6; refine (valid_all tx.size _ cap xs _ (by omega) (by omega) (.inr ⟨b, o, rfl, HX.out⟩) HL.out).mono ?_; rintro e w1 ⟨rfl, hb1⟩; rw [HV.out]) | (go_at_call 18; refine (growth_any b o cap xs _ (HX.out.below hb1 HX.out.1) HL.out HF.out (fun e he => ⟨(HK.out e he).1, (HK.out e he).2.1, Int.le_trans (HK.out e he).2.2 (by omega)⟩)).mono ?_; rintro e w2 ⟨rfl, hb2⟩; rw [HG.out]) | (at_make; refine wpList_make_own _ rfl _ _ 51 rfl w.heap.size 5 i0 (.int .u8 0) 1 Tryz.underlying51 hi hz0 hz1 _ _ _ N rfl rfl ?_ ?_ ?_ ?_ ?_) | go_in)
  case refine_1 => omega
  case refine_2 => rw [hz2]; omega
  case refine_3 => unfold maxLen; omega
  case refine_4 => exact Nat.le_trans hb1.size hb2.size
  intro w3 hown3 hgrow3
  have hb12 : Below w.heap.size w w2 := hb1.trans (hb2.mono hb1.size)
  have hb3 : Below w.heap.size w w3 := hb12.grown hgrow3 hb12.size (fun k h => by cases h)
  clear hgrow3 hb1 hb2 hb12
  go_wp2
  go_loopg [7, 8, 26] xs.length (fun gk v sa i wr => ∃ (k a : Nat) (p : List UInt8) (L : Int), gk = xs.length - k ∧ k ≤ xs.length ∧ i = .int .i64 k ∧ sa = .int .i64 a ∧ a ≤ tx.size ∧ (a : Int) ≤ L ∧ chk tx.size L (xs.drop k) = 0 ∧ Below w.heap.size w wr ∧ wr.ownsRow w.heap.size 5 1 v p.length (bc p) ∧ p ++ appF tx.data.toList a (xs.drop k) = appF tx.data.toList 0 xs)
  case atStart => exact ⟨0, 0, [], 0, by omega, Nat.zero_le _, rfl, rfl, Nat.zero_le _, by omega, by simpa using HCK.out, hb3, hown3, by simp⟩
  case round =>
    clear hown3 hb3
    obtain ⟨k, a, p, L, rfl, hk, rfl, rfl, ha, haL, hck, hbel, hown, hp⟩ := hrel
    have hsz := hbel.size
    have hlt1 : Hid (∀ k, u7.ownBlock = some k → w.heap.size ≤ k ∧ k < wr.heap.size) := hown.lt
    have HO : Hid (wr.ownsRow w.heap.size 5 1 u7 p.length (bc p)) := hown
    have HP : Hid (p ++ appF tx.data.toList a (xs.drop k) = appF tx.data.toList 0 xs) := hp
    have HC : Hid (chk tx.size L (xs.drop k) = 0) := hck
    clear hown hp hck
    by_cases hlt : k < xs.length
    · obtain ⟨e, he⟩ : ∃ e, xs[k]? = some e := ⟨_, List.getElem?_eq_getElem hlt⟩
      obtain ⟨c0, c1, c2⟩ := HX.out.cells hbel he
      have hmem : e ∈ xs := List.mem_of_getElem? he
      obtain ⟨_, _, _, hLe, hnext⟩ := chk_cons (by rw [← drop_get he]; exact HC.out)
      obtain ⟨f, t, hee, hft, ht⟩ := nat_ed2 (HK.out e hmem)
      generalize e.s = s at *
      subst hee
      simp only at c0 c1 c2 hLe hnext
      have HS : Hid ((p ++ (tx.extract a f).data.toList ++ s.data.toList) ++ appF tx.data.toList t (xs.drop (k + 1)) = appF tx.data.toList 0 xs) := app_step he HP.out
      have haf : a ≤ f := by omega
      have e1 : (tx.extract a f).size = f - a := by simp; omega
      have hbd : p.length + (f - a) + s.size ≤ N := by
        have h1 := congrArg List.length HS.out
        rw [← HNe.out] at h1
        simp only [List.length_append, bytes_len, e1] at h1
        omega
      have HNX : Hid (chk tx.size ((t : Int) + 1) (xs.drop (k + 1)) = 0) := hnext
      clear he hmem hnext
      have haf' : (a : Int) ≤ (f : Int) := by omega
      have hft' : (f : Int) ≤ (tx.size : Int) := by omega
      go_wp2_with (at_builtin; (refine Lib.wpList_append_own_string _ rfl (.tmp 30) (.tmp 35) 51 9 rfl w.heap.size 5 i0 Tryz.underlying51 Tryz.underlying9 hi hz0 hz1 hz2 _ _ _ rfl (HO.out.alloc _) (tx.extract a f) rfl ?_ ?_ ?_ ?_))
      case refine_1 => unfold maxLen; omega
      case refine_2 => omega
      case refine_3 => omega
      intro v4 w4 hown4 hgrow4 _
      rw [bc_str, ← bc_append] at hown4
      have hbx4 : Box w4 wr.heap.size f t s := (Box.new wr f t s).grown hgrow4 (fun h => by have := (hlt1.out _ h).2; omega)
      have hbel4 : Below w.heap.size w w4 := (hbel.alloc hsz _).grown hgrow4 (by simp; omega) (fun k h => (hlt1.out k h).1)
      have hne4 : Hid (v4.ownBlock ≠ some wr.heap.size) := own_ne_box hown4 hbx4 (by decide)
      have hlt4 : Hid (∀ k, v4.ownBlock = some k → w.heap.size ≤ k ∧ k < w4.heap.size) := hown4.lt
      have HO4 : Hid (w4.ownsRow w.heap.size 5 1 v4 (p.length + (f - a)) (bc (p ++ (tx.extract a f).data.toList))) := hown4
      have HBX4 : Hid (Box w4 wr.heap.size f t s) := hbx4
      have HB4 : Hid (Below w.heap.size w w4) := hbel4
      have d2 := hbx4.c2
      have hsz4 := hbel4.size
      clear hown4 hgrow4 hbx4 hbel4 c0 c1 c2
      go_wp2_with (at_builtin; (refine Lib.wpList_append_own_string _ rfl (.tmp 37) (.tmp 39) 51 9 rfl w.heap.size 5 i0 Tryz.underlying51 Tryz.underlying9 hi hz0 hz1 hz2 _ _ _ rfl HO4.out s rfl ?_ ?_ ?_ ?_))
      case refine_1 => unfold maxLen; omega
      case refine_2 => omega
      case refine_3 => omega
      intro v5 w5 hown5 hgrow5 _
      rw [bc_str, ← bc_append] at hown5
      have hbx5 : Box w5 wr.heap.size f t s := HBX4.out.grown hgrow5 hne4.out
      have hbel5 : Below w.heap.size w w5 := HB4.out.grown hgrow5 hsz4 (fun k h => (hlt4.out k h).1)
      have d1 := hbx5.c1
      have hl5 : p.length + (f - a) + s.size = (p ++ (tx.extract a f).data.toList ++ s.data.toList).length := by
        simp only [List.length_append, bytes_len, e1]
      have HO5 : Hid (w5.ownsRow w.heap.size 5 1 v5 (p ++ (tx.extract a f).data.toList ++ s.data.toList).length (bc (p ++ (tx.extract a f).data.toList ++ s.data.toList))) := by unfold Hid; rw [← hl5, Lib.extract_data]; exact hown5
      have HB5 : Hid (Below w.heap.size w w5) := hbel5
      clear hown5 hgrow5 hbx5 hbel5 hl5 e1 HO4 HB4 HBX4
      go_wp2
      go_roundg (xs.length - (k + 1))
      case measure => omega
      case rel => exact ⟨k + 1, t, _, (t : Int) + 1, rfl, by omega, by go_num, rfl, ht, by omega, HNX.out, HB5.out, HO5.out, HS.out⟩
    · have hend := app_end hlt HP.out
      have hEL : (tx.extract a tx.size).size = tx.size - a := by simp
      have hbd : p.length + (tx.size - a) ≤ N := by
        have h1 := congrArg List.length hend
        rw [← HNe.out, List.length_append, bytes_len, hEL] at h1
        omega
      have HE : Hid (p ++ (tx.extract a tx.size).data.toList = appF tx.data.toList 0 xs) := hend
      clear hend
      go_wp2_with (at_builtin; (refine Lib.wpList_append_own_string _ rfl (.tmp 44) (.tmp 47) 51 9 rfl w.heap.size 5 i0 Tryz.underlying51 Tryz.underlying9 hi hz0 hz1 hz2 _ _ _ rfl HO.out (tx.extract a tx.size) rfl ?_ ?_ ?_ ?_))
      case refine_1 => unfold maxLen; omega
      case refine_2 => omega
      case refine_3 => omega
      intro v4 w4 hown4 hgrow4 _
      rw [bc_str, ← bc_append, HE.out] at hown4
      have hbel4 : Below w.heap.size w w4 := hbel.grown hgrow4 hsz (fun k h => (hlt1.out k h).1)
      have hconv : (convert 51 9 v4).run Tryz.prog w4 = .ok (.string ⟨(appF tx.data.toList 0 xs).toArray⟩) w4 := own_string_any hown4
      clear hown4 hgrow4
      go_wp2
      go_ret2
      exact ⟨rfl, hbel4⟩
open Go.ChangeShapes Go.WideShapes Go.ChangeAt Go.RowKit Go.Deep
theorem own : ownKnob Tryz.prog.godebug = none := by kernel_rfl
theorem laidOut : laidOutB Tryz.prog = true := by kernel_rfl
theorem cellsEd : Tryz.prog.cellsOf 38 = 3 := by kernel_rfl
theorem cellsInt : Tryz.prog.cellsOf 3 = 1 := by kernel_rfl
theorem cellsStr : Tryz.prog.cellsOf 9 = 1 := by kernel_rfl
/-- what an edit reads as -/
def edData {H : Type} (e : Ed) : DataW H := .agg [.lit (.int .i64 e.f), .lit (.int .i64 e.t), .lit (.string e.s.data.toList)]
def EdFit0 (e : Ed) : Prop := -9223372036854775808 ≤ e.f ∧ e.f ≤ 9223372036854775807 ∧ -9223372036854775808 ≤ e.t ∧ e.t ≤ 9223372036854775807 ∧ e.s.size ≤ maxLen
def tot : List Ed → Nat
  | [] => 0
  | e :: r => e.s.size + tot r
theorem bulk_all {H : Type} (xs : List Ed) : Rows.uptoBulkAll (H := H) (xs.map edData) = xs.length * 4 + tot xs := by
  induction xs with
  | nil => rfl
  | cons e r ih =>
    have e2 : e.s.data.toList.length = e.s.size := by rw [Array.length_toList]; rfl
    rw [List.map_cons, Rows.uptoBulkAll, ih]
    unfold edData
    simp only [Rows.uptoBulk, Rows.uptoBulkAll, tot, List.length_cons, e2]
    omega
theorem bulk_edits {H : Type} {d : DataW H} {xs : List Ed} (hD : (d = .nil ∧ xs = []) ∨ ∃ sp, d = .slice (xs.map edData) sp) : 4 * xs.length + tot xs ≤ Rows.uptoBulk d := by
  rcases hD with ⟨_, rfl⟩ | ⟨sp, rfl⟩
  · simp [tot]
  · rw [Rows.uptoBulk, bulk_all]; omega
set_option maxRecDepth 100000 in
/-- A list of edits that came in: its edits, where they lie, what they fit in, what they read as. -/
theorem open_edits {H : Type} {enc : TypeId × Value → H} {w : World} {fuel : Nat} {a : Option Addr} {len cap : Nat} {x : DataW H × List MemPlace}
    (h : DataW.trod enc Tryz.prog w 0 (fun _ => true) true fuel 22 [.slice a len cap] = some x) :
    ∃ xs : List Ed, xs.length = len ∧ EdsA w a xs ∧ (∀ e ∈ xs, EdFit0 e) ∧ (a = none → len = 0 ∧ cap = 0) ∧
      ((x.1 = .nil ∧ xs = []) ∨ ∃ sp, x.1 = .slice (xs.map edData) sp) ∧ len ≤ cap := by
  rcases open_slice Tryz.underlying22 h with ⟨hcs, hx⟩ | ⟨ad, l, c, m, n, D, Pl, hcs, _, hl, hm, hmm, hx, hel⟩
  · simp only [List.cons.injEq, Value.slice.injEq, and_true] at hcs
    obtain ⟨rfl, rfl, rfl⟩ := hcs
    exact ⟨[], rfl, .inl rfl, by simp, fun _ => ⟨rfl, rfl⟩, .inl ⟨by rw [hx], rfl⟩, Nat.le_refl _⟩
  · simp only [List.cons.injEq, Value.slice.injEq, and_true] at hcs
    obtain ⟨rfl, rfl, rfl⟩ := hcs
    simp only [if_true] at hmm
    subst hmm
    have each : ∀ i, i < len → ∃ e : Ed, EdFit0 e ∧ D i = edData e ∧ w.cell? (ad.add (i * 3)) = some (.int .i64 e.f) ∧ w.cell? (ad.add (i * 3 + 1)) = some (.int .i64 e.t) ∧ w.cell? (ad.add (i * 3 + 2)) = some (.string e.s) := by
      intro i hi
      obtain ⟨cs', h1, h2⟩ := hel i (by omega)
      rw [cellsEd] at h1
      obtain ⟨_, hlen, hcell⟩ := World.cells?_some h1
      obtain ⟨y0, y1, y2, k, hxy, _, g0, g1, g2⟩ := trod_struct3 Tryz.underlying38 h2
      match cs', hlen with
      | [v0, v1, v2], _ =>
        simp only [cellsInt, cellsStr] at g0 g1 g2
        obtain ⟨f, e0, rfl, w0⟩ := DataW.trod_int Tryz.underlying3 g0
        obtain ⟨t, e1, rfl, w1⟩ := DataW.trod_int Tryz.underlying3 g1
        obtain ⟨s, e2, rfl, w2⟩ := DataW.trod_string Tryz.underlying9 g2
        simp at e0 e1 e2
        subst e0 e1 e2
        have c0 := hcell 0 (by omega)
        have c1 := hcell 1 (by omega)
        have c2 := hcell 2 (by omega)
        rw [add_add] at c0 c1 c2
        simp only [Prod.mk.injEq] at hxy
        have b0 := bounds_i64 w0
        have b1 := bounds_i64 w1
        exact ⟨⟨f, t, s⟩, ⟨b0.1, b0.2, b1.1, b1.2, w2⟩, hxy.1, by simpa using c0, by simpa using c1, by simpa using c2⟩
    have ne : Nonempty Ed := ⟨⟨0, 0, ⟨#[]⟩⟩⟩
    obtain ⟨E, hE⟩ : ∃ E : Nat → Ed, ∀ i, i < len → EdFit0 (E i) ∧ D i = edData (E i) ∧ w.cell? (ad.add (i * 3)) = some (.int .i64 (E i).f) ∧ w.cell? (ad.add (i * 3 + 1)) = some (.int .i64 (E i).t) ∧ w.cell? (ad.add (i * 3 + 2)) = some (.string (E i).s) := by
      have : ∀ i, ∃ e : Ed, i < len → EdFit0 e ∧ D i = edData e ∧ w.cell? (ad.add (i * 3)) = some (.int .i64 e.f) ∧ w.cell? (ad.add (i * 3 + 1)) = some (.int .i64 e.t) ∧ w.cell? (ad.add (i * 3 + 2)) = some (.string e.s) := by
        intro i
        by_cases hi : i < len
        · obtain ⟨e, he⟩ := each i hi
          exact ⟨e, fun _ => he⟩
        · exact ⟨⟨0, 0, ⟨#[]⟩⟩, fun h => absurd h hi⟩
      exact ⟨fun i => Classical.choose (this i), fun i => Classical.choose_spec (this i)⟩
    refine ⟨(List.range len).map E, by simp, ?_, ?_, by simp, .inr ⟨(List.range (m - len)).map fun j => D (len + j), ?_⟩, hl⟩
    · by_cases h0 : len = 0
      · exact .inl (by simp [h0])
      · obtain ⟨b, off, spot⟩ := ad
        have hspot : spot = none := by simpa [Addr.add] using World.cell?_spot (hE 0 (by omega)).2.2.1
        subst hspot
        have hb : b < w.heap.size := by
          have := (hE 0 (by omega)).2.2.1
          simp [Addr.add] at this
          exact World.block_lt_of_cell? _ _ this
        refine .inr ⟨b, off, rfl, hb, fun i e he => ?_⟩
        have hi : i < len := by
          have := (List.getElem?_eq_some_iff.1 he).1
          simpa using this
        have he' : E i = e := by simpa [hi] using he
        subst he'
        obtain ⟨_, _, c0, c1, c2⟩ := hE i hi
        have ha : ∀ j, (⟨b, off, none⟩ : Addr).add j = ⟨b, off + j, none⟩ := by
          intro j; unfold Addr.add; by_cases hz : j = 0 <;> simp [hz]
        rw [ha] at c0 c1 c2
        exact ⟨c0, by simpa [Nat.add_assoc] using c1, by simpa [Nat.add_assoc] using c2⟩
    · intro e he
      simp only [List.mem_map, List.mem_range] at he
      obtain ⟨i, hi, rfl⟩ := he
      exact (hE i hi).1
    · rw [hx]
      simp only [List.map_map]
      congr 1
      exact List.map_congr_left fun i hi => (hE i (List.mem_range.1 hi)).2.1
theorem tots_tot (xs : List Ed) : tots xs = tot xs := by
  induction xs with
  | nil => rfl
  | cons e r ih => rw [tots, tot, ih]
def appB (tx : ByteArray) (xs : List Ed) : ByteArray := if vld tx.size xs = 0 then ⟨(appF tx.data.toList 0 xs).toArray⟩ else ⟨#[]⟩
theorem infoU8b : (Tryz.prog.info? 5).map (fun i => (i.zero, i.size, i.bytes)) = some (some (.int .u8 0), 1, 1) := by kernel_rfl
set_option maxHeartbeats 400000 in
theorem growth_nil (a : Option Addr) (cap : Nat) (w : World) :
    Calls Tryz.prog 18 #[.slice a 0 cap] w fun e w' => e = .returned (.int .i64 0) ∧ w = w' := by
  go_enter Tryz.func18, Tryz.ntmps18
  go_wp2
  refine wp_loop_rounds 1 ?_
  rw [rounds_succ]
  go_wp2
  go_ret
  exact ⟨rfl, rfl⟩
set_option maxRecDepth 1000000 in
set_option maxHeartbeats 2000000 in
theorem apply_all (tx : ByteArray) (a : Option Addr) (cap : Nat) (xs : List Ed) (w : World) (hx : tx.size ≤ 140737488351232) (h : EdsA w a xs) (hl : xs.length ≤ maxLen) (hF : ∀ e ∈ xs, EdFit e) (hB : tx.size + tots xs ≤ 70368744177664) :
    Calls Tryz.prog 7 #[.string tx, .slice a xs.length cap] w fun e w' => e = .returned (.tuple #[.string (appB tx xs), .int .i64 (vld tx.size xs)]) ∧ Below w.heap.size w w' := by
  have HL : Hid (xs.length ≤ maxLen) := hl
  by_cases hv : vld tx.size xs = 0
  · have hA : appB tx xs = ⟨(appF tx.data.toList 0 xs).toArray⟩ := by unfold appB; rw [if_pos hv]
    rw [hA, hv]
    rcases h with rfl | ⟨b, o, rfl, h⟩
    · obtain ⟨i0, hi, hz0, hz1, hz2⟩ := info_parts infoU8b
      rw [List.length_nil]
      have htx : (⟨(appF tx.data.toList 0 []).toArray⟩ : ByteArray) = tx := by apply bytes_ext; simp [appF]
      rw [htx]
      have hN : tx.size ≤ 70368744177664 := by omega
      clear hA hF hB hv htx
      go_enter Tryz.func7, Tryz.ntmps7
      go_wp2_with fail
      refine (valid_all tx.size a cap [] _ (by omega) (by omega) (.inl rfl) HL.out).mono ?_
      rintro e w1 ⟨rfl, hb1⟩
      rw [show val62 (tx.size : Int) [] = 0 from by unfold val62; rw [if_pos (by omega)]; rfl]
      have hsz1 := hb1.size
      go_wp2_with fail
      refine (growth_nil a cap _).mono ?_
      rintro e w2 ⟨rfl, rfl⟩
      go_wp2_with (at_make; refine wpList_make_own _ rfl _ _ 51 rfl w.heap.size 5 i0 (.int .u8 0) 1 Tryz.underlying51 hi hz0 hz1 _ _ _ tx.size rfl rfl ?_ ?_ ?_ ?_ ?_)
      case refine_1 => omega
      case refine_2 => rw [hz2]; omega
      case refine_3 => unfold maxLen; omega
      case refine_4 => exact hsz1
      intro w3 hown3 hgrow3
      have hb3 : Below w.heap.size w w3 := hb1.grown hgrow3 hsz1 (fun k h => by cases h)
      have HO : Hid (w3.ownsRow w.heap.size 5 1 (.slice (some ⟨w1.heap.size, 0, none⟩) 0 tx.size) 0 []) := hown3
      have HB3 : Hid (Below w.heap.size w w3) := hb3
      have hsz3 := hb3.size
      clear hgrow3 hown3 hb3
      go_wp2
      refine wp_loop_rounds 1 ?_
      rw [rounds_succ]
      go_wp2_with (at_builtin; (refine Lib.wpList_append_own_string _ rfl (.tmp 44) (.tmp 47) 51 9 rfl w.heap.size 5 i0 Tryz.underlying51 Tryz.underlying9 hi hz0 hz1 hz2 _ _ _ rfl HO.out tx rfl ?_ ?_ ?_ ?_))
      case refine_1 => unfold maxLen; omega
      case refine_2 => omega
      case refine_3 => omega
      intro v4 w4 hown4 hgrow4 _
      have hbel4 : Below w.heap.size w w4 := HB3.out.grown hgrow4 hsz3 (fun k h => by cases h; exact hsz1)
      have hconv : (convert 51 9 v4).run Tryz.prog w4 = .ok (.string tx) w4 := by
        rw [bc_str] at hown4
        have := own_string_any hown4
        simpa using this
      clear hown4 hgrow4
      go_wp2
      go_ret2
      exact ⟨rfl, hbel4⟩
    · exact apply_any tx b o cap xs w hx h hl hF hv hB
  · have hA : appB tx xs = ⟨#[]⟩ := by unfold appB; rw [if_neg hv]
    have H : Hid (EdsA w a xs) := h
    have HV : Hid (val62 tx.size xs = vld tx.size xs) := by unfold Hid val62; rw [if_pos (by omega)]
    have HW : Hid ((vld tx.size xs != 0) = true) := by unfold Hid; simpa using hv
    rw [hA]
    clear h hv hA
    go_enter Tryz.func7, Tryz.ntmps7
    go_wp2_with fail
    refine (valid_all tx.size a cap xs _ (by omega) (by omega) H.out HL.out).mono ?_
    rintro e w1 ⟨rfl, hb1⟩
    rw [HV.out]
    have hne := HW.out
    go_wp2
    go_ret2
    exact ⟨rfl, hb1⟩
/-- the list that takes the edits back, where the ones ahead have moved the text by m -/
def invF (tx : ByteArray) : Int → List Ed → List Ed
  | _, [] => []
  | m, e :: r => ⟨e.f + m, e.f + m + e.s.size, tx.extract e.f.toNat e.t.toNat⟩ :: invF tx (m + ((e.s.size : Int) - (e.t - e.f))) r
theorem inv_step {tx : ByteArray} {xs p : List Ed} {k : Nat} {m : Int} {f t : Nat} {s : ByteArray} (he : xs[k]? = some ⟨f, t, s⟩) (hp : p ++ invF tx m (xs.drop k) = invF tx 0 xs) :
    (p ++ [⟨(f : Int) + m, (f : Int) + m + s.size, tx.extract f t⟩]) ++ invF tx (m + ((s.size : Int) - ((t : Int) - f))) (xs.drop (k + 1)) = invF tx 0 xs := by
  rw [← hp, drop_get he, invF]
  simp
theorem grw_take {xs : List Ed} {k : Nat} {e : Ed} (he : xs[k]? = some e) : grw (xs.take (k + 1)) = grw (xs.take k) + ((e.s.size : Int) - (e.t - e.f)) := by
  obtain ⟨hk, rfl⟩ := List.getElem?_eq_some_iff.1 he
  have happ : ∀ a b : List Ed, grw (a ++ b) = grw a + grw b := by
    intro a b
    induction a with
    | nil => simp [grw]
    | cons e r ih => rw [List.cons_append, grw, grw, ih]; omega
  rw [List.take_succ_eq_append_getElem hk, happ, grw, grw]
  omega
/-- what lies ahead of an edit is a valid list of the text up to it -/
theorem chk_take {size L : Int} {xs : List Ed} {k : Nat} {e : Ed} (h : chk size L xs = 0) (he : xs[k]? = some e) : chk e.f L (xs.take k) = 0 := by
  induction xs generalizing L k with
  | nil => simp at he
  | cons x r ih =>
    obtain ⟨h1, h2, h3, h4, h5⟩ := chk_cons h
    cases k with
    | zero => rfl
    | succ k =>
      rw [List.getElem?_cons_succ] at he
      have hle : x.t + 1 ≤ e.f := by
        have hd := drop_get he
        have : ∀ (ys : List Ed) (M : Int), chk size M ys = 0 → e ∈ ys → M ≤ e.f := by
          intro ys
          induction ys with
          | nil => intro M _ hm; cases hm
          | cons y z ihz =>
            intro M hM hm
            obtain ⟨g1, g2, g3, g4, g5⟩ := chk_cons hM
            rcases List.mem_cons.1 hm with rfl | hm
            · exact g4
            · have := ihz _ g5 hm; omega
        exact this r _ h5 (List.mem_of_getElem? he)
      rw [List.take_succ_cons, chk, if_pos ⟨h1, h2, by omega⟩, if_neg (by omega)]
      exact ih h5 he
theorem grw_bound {tx : ByteArray} {xs : List Ed} {k : Nat} {e : Ed} (h : chk tx.size 0 xs = 0) (he : xs[k]? = some e) : 0 ≤ e.f + grw (xs.take k) ∧ grw (xs.take k) ≤ tots xs ∧
    ((appF ((tx.extract 0 e.f.toNat).data.toList) 0 (xs.take k)).length : Int) = e.f + grw (xs.take k) := by
  have hK := chk_ok h e (List.mem_of_getElem? he)
  have h1 := chk_take h he
  have hsz : (tx.extract 0 e.f.toNat).size = e.f.toNat := by simp; omega
  have h2 := app_len (tx := (tx.extract 0 e.f.toNat).data.toList) (xs := xs.take k) (L := 0) (a := 0) (by rw [bytes_len, hsz, show ((e.f.toNat : Nat) : Int) = e.f by omega]; exact h1) (by omega) (by omega)
  rw [bytes_len, hsz] at h2
  have h3 := grw_le (xs.take k) (fun x hx => (chk_ok h x (List.mem_of_mem_take hx)).2.1)
  have h4 : tots (xs.take k) ≤ tots xs := by
    clear h1 h2 h3 hK h he
    induction xs generalizing k with
    | nil => simp
    | cons x r ih =>
      cases k with
      | zero => simp [tots]
      | succ k => rw [List.take_succ_cons, tots, tots]; have := ih (k := k); omega
  refine ⟨by omega, by omega, by omega⟩
theorem infoByte : (Tryz.prog.info? 5).map (fun i => (i.zero, i.size, i.bytes)) = some (some (.int .u8 0), 1, 1) := by kernel_rfl
theorem undPtr : Tryz.prog.underlying 102 = some (.pointer 5) := by kernel_rfl
set_option maxHeartbeats 4000000 in
set_option maxRecDepth 100000 in
theorem sliteClone_any (s : ByteArray) (w : World) (hlim : s.size ≤ 281474976710656) :
    Calls Tryz.prog 43 #[.string s] w fun e w' => e = .returned (.string s) ∧ Below w.heap.size w w' := by
  have tptr := undPtr
  by_cases h0 : s.size = 0
  · have hs : s = ⟨#[]⟩ := by
      apply ByteArray.ext
      exact Array.eq_empty_of_size_eq_zero h0
    subst hs
    go_enter Tryz.func43, Tryz.ntmps43
    go_wp2
    go_ret
    exact ⟨rfl, Below.refl _ _⟩
  · obtain ⟨i0, hi, hz0, hz1, hz2⟩ := info_parts infoByte
    have hinfo : (Tryz.prog.info? 5).map (·.size) = some 1 := by rw [hi]; simp [hz1]
    have hco : Tryz.prog.cellsOf 5 = 1 := by simp [Program.cellsOf, hi, hz1]
    obtain ⟨M, hM⟩ : ∃ M, M = madeCells (Value.int .u8 0).cells (((s.size : Nat) : Int).toNat * i0.size) := ⟨_, rfl⟩
    have hMs : M.size = s.size := by rw [hM, size_madeCells, hz1]; simp
    have hmk : ∀ W : World, (Instr.makeSlice 51 (.int .i64 (s.size : Int)) (.int .i64 (s.size : Int))).run Tryz.prog W = .ok (.slice (some ⟨W.heap.size, 0, none⟩) s.size s.size) (W.alloc (.cells M 5)) := fun W => by
      have h := run_make (P := Tryz.prog) W 51 5 i0 (.int .u8 0) Tryz.underlying51 hi hz0 .i64 .i64 (s.size : Int) (s.size : Int) (by omega) (by omega) (by rw [hz2]; omega) (by omega)
      rw [← hM] at h
      simpa using h
    clear hM
    have hcp := Lib.run_copy_row_string (P := Tryz.prog) (w.alloc (.cells M 5)) 51 9 3 5 w.heap.size 0 s.size s.size s M 5 Tryz.underlying51 hinfo (heap_alloc_new w _) (Nat.le_refl _) (by omega)
    obtain ⟨Y, hY⟩ : ∃ Y, Y = (M.toList.take 0 ++ Lib.byteCells s.data.toList ++ M.toList.drop (0 + s.size)).toArray := ⟨_, rfl⟩
    rw [← hY] at hcp
    have hYl : Y.toList = Lib.byteCells s.data.toList := by
      rw [hY, List.toList_toArray, List.take_zero, List.nil_append, List.drop_of_length_le (by rw [Array.length_toList]; omega), List.append_nil]
    have hYs : Y.size = s.size := by rw [← Array.length_toList, hYl, Lib.byteCells_length, ← Lib.size_eq]
    have hgY : ((w.alloc (.cells M 5)).setRow w.heap.size Y).heap[w.heap.size]? = some (.cells Y 5 (0, 0)) := setRow_heap _ _ M _ 5 (0, 0) (heap_alloc_new w _)
    have hne : s.data.toList ≠ [] := fun e => h0 (by rw [Lib.size_eq, e]; rfl)
    have hUS := Lib.run_unsafeString_row (P := Tryz.prog) ((w.alloc (.cells M 5)).setRow w.heap.size Y) 102 3 9 5 undPtr hco w.heap.size Y.size (by unfold World.shape?; rw [hgY]) s.data.toList hne (by rw [← Lib.size_eq]; omega) (by rw [← Lib.size_eq]; omega)
      (fun j x hx => Lib.cells_of_row hgY Y.size j _ (by rw [List.take_of_length_le (by rw [Array.length_toList]; exact Nat.le_refl _), hYl]; simp [Lib.byteCells, hx]))
    rw [← Lib.size_eq] at hUS
    clear hY
    go_enter Tryz.func43, Tryz.ntmps43
    go_wp2
    go_ret
    have hb1 : Below w.heap.size w (w.alloc (.cells M 5)) := (Below.refl _ w).alloc (Nat.le_refl _) _
    have hb2 : Below w.heap.size (w.alloc (.cells M 5)) ((w.alloc (.cells M 5)).setRow w.heap.size Y) := ⟨rfl, rfl, rfl, by simp, fun k hk => setRow_other _ _ _ _ (by omega)⟩
    exact ⟨rfl, Lib.below_freeze (hb1.trans hb2) (p := ⟨w.heap.size, 0, none⟩) (Nat.le_refl _) _⟩
set_option maxHeartbeats 400000 in
theorem clone_any (s : ByteArray) (w : World) (hlim : s.size ≤ 281474976710656) :
    Calls Tryz.prog 19 #[.string s] w fun e w' => e = .returned (.string s) ∧ Below w.heap.size w w' := by
  go_enter Tryz.func19, Tryz.ntmps19
  go_wp2_with fail
  refine (sliteClone_any s _ hlim).mono ?_
  rintro e w1 ⟨rfl, hb⟩
  go_wp2
  go_ret
  exact ⟨rfl, hb⟩
attribute [local go_sem ↓] Go.wp_at_zero Go.wp_at_succ
set_option maxRecDepth 1000000 in
set_option maxHeartbeats 4000000 in
theorem invert_any (tx : ByteArray) (b o cap : Nat) (xs : List Ed) (w : World) (hx : tx.size ≤ 140737488351232) (h : Eds w b o xs) (hl : xs.length * 32 ≤ 140737488351232) (hF : ∀ e ∈ xs, EdFit e) (hv : vld tx.size xs = 0) (hB : tx.size + tots xs ≤ 1048576) :
    Calls Tryz.prog 8 #[.string tx, .slice (some ⟨b, o, none⟩) xs.length cap] w fun e w' => ∃ v, e = .returned (.tuple #[v, .int .i64 0]) ∧ w'.ownsRow w.heap.size 38 3 v (invF tx 0 xs).length (flat (invF tx 0 xs)) ∧ Below w.heap.size w w' := by
  obtain ⟨i0, hi, hz0, hz1, hz2⟩ := info_parts infoEd
  have hck := (vld_chk hv).1
  have hlen0 := (vld_chk hv).2
  have HX : Hid (Eds w b o xs) := h
  have hbw : b < w.heap.size := h.1
  have HV : Hid (val62 tx.size xs = 0) := by unfold Hid val62; rw [if_pos (by omega)]; exact hv
  have HK : Hid (∀ e ∈ xs, 0 ≤ e.f ∧ e.f ≤ e.t ∧ e.t ≤ (tx.size : Int)) := chk_ok hck
  have HCK : Hid (chk tx.size 0 xs = 0) := hck
  have HF : Hid (∀ e ∈ xs, EdFit e) := hF
  have HL : Hid (xs.length ≤ maxLen) := by unfold Hid maxLen; omega
  clear h hv hck hF
  go_enter Tryz.func8, Tryz.ntmps8
  go_wp2_with (first | (go_at_call 6; refine (valid_all tx.size _ cap xs _ (by omega) (by omega) (.inr ⟨b, o, rfl, HX.out⟩) HL.out).mono ?_; rintro e w1 ⟨rfl, hb1⟩; rw [HV.out]) | (at_make; refine wpList_make_own _ rfl _ _ 22 rfl w.heap.size 38 i0 (.agg #[.int .i64 0, .int .i64 0, .string ⟨#[]⟩]) 3 Tryz.underlying22 hi hz0 hz1 _ _ _ xs.length rfl rfl ?_ ?_ ?_ ?_ ?_) | go_in)
  case refine_1 => omega
  case refine_2 => rw [hz2]; omega
  case refine_3 => unfold maxLen; omega
  case refine_4 => exact hb1.size
  intro w3 hown3 hgrow3
  have hb3 : Below w.heap.size w w3 := hb1.grown hgrow3 hb1.size (fun k h => by cases h)
  clear hgrow3 hb1
  go_wp2
  go_loopg [7, 8, 24] xs.length (fun gk v sm i wr => ∃ (k : Nat) (p : List Ed), gk = xs.length - k ∧ k ≤ xs.length ∧ i = .int .i64 k ∧ sm = .int .i64 (grw (xs.take k)) ∧ Below w.heap.size w wr ∧ wr.ownsRow w.heap.size 38 3 v p.length (flat p) ∧ p.length = k ∧ p ++ invF tx (grw (xs.take k)) (xs.drop k) = invF tx 0 xs)
  case atStart => exact ⟨0, [], by omega, Nat.zero_le _, rfl, rfl, hb3, hown3, rfl, by simp [grw]⟩
  case round =>
    clear hown3 hb3
    obtain ⟨k, p, rfl, hk, rfl, rfl, hbel, hown, hpk, hp⟩ := hrel
    have hsz := hbel.size
    have hlt1 : Hid (∀ k, u7.ownBlock = some k → w.heap.size ≤ k ∧ k < wr.heap.size) := hown.lt
    have HO : Hid (wr.ownsRow w.heap.size 38 3 u7 p.length (flat p)) := hown
    have HP : Hid (p ++ invF tx (grw (xs.take k)) (xs.drop k) = invF tx 0 xs) := hp
    have hpk' : p.length ≤ k := by omega
    have HPK : Hid (p.length = k) := hpk
    clear hown hp hpk
    by_cases hlt : k < xs.length
    · obtain ⟨e, he⟩ : ∃ e, xs[k]? = some e := ⟨_, List.getElem?_eq_getElem hlt⟩
      obtain ⟨c0, c1, c2⟩ := HX.out.cells hbel he
      have hmem : e ∈ xs := List.mem_of_getElem? he
      have q4 := (HF.out e hmem).2.2.2.2
      obtain ⟨q5, q6, q7⟩ := grw_bound HCK.out he
      clear q7
      have hgt := grw_take he
      obtain ⟨f, t, hee, hft, ht⟩ := nat_ed2 (HK.out e hmem)
      generalize e.s = s at *
      subst hee
      simp only at c0 c1 c2 q4 q5 hgt
      have HGT : Hid (grw (xs.take (k + 1)) = grw (xs.take k) + ((s.size : Int) - ((t : Int) - f))) := hgt
      have HS := inv_step he HP.out
      obtain ⟨m, hm⟩ : ∃ m, grw (xs.take k) = m := ⟨_, rfl⟩
      rw [hm] at q5 q6 HS HGT
      have HS2 : Hid ((p ++ [⟨(f : Int) + m, (f : Int) + m + s.size, tx.extract f t⟩]) ++ invF tx (m + ((s.size : Int) - ((t : Int) - f))) (xs.drop (k + 1)) = invF tx 0 xs) := HS
      have hsb : s.size ≤ 1048576 := by
        have : ∀ ys : List Ed, (⟨f, t, s⟩ : Ed) ∈ ys → s.size ≤ tots ys := by
          intro ys
          induction ys with
          | nil => intro h; cases h
          | cons y z ih =>
            intro h
            rw [tots]
            rcases List.mem_cons.1 h with rfl | h
            · simp only; omega
            · have := ih h; omega
        have := this xs hmem
        omega
      clear he hmem HS hgt
      obtain ⟨old, hold⟩ : ∃ old, tx.extract f t = old := ⟨_, rfl⟩
      have hos : old.size ≤ 1048576 := by rw [← hold]; simp; omega
      rw [hold] at HS2
      have hm1 : -1048576 ≤ m := by omega
      have hm2 : m ≤ 1048576 := by omega
      rw [hm]
      clear hm q5 q6
      have hft' : (f : Int) ≤ (t : Int) := by omega
      have ht' : (t : Int) ≤ (tx.size : Int) := by omega
      have hf0 : (0 : Int) ≤ (f : Int) := by omega
      clear hsz
      have hsz : w.heap.size ≤ wr.heap.size := hbel.size
      go_upto_region 10 with fail
      have hw1 : IntKind.i64.wrap ((f : Int) + m + s.size) = (f : Int) + m + s.size := IntWalk.i64_in _ ⟨by omega, by omega⟩
      have hne : Hid (some wr.heap.size ≠ u7.ownBlock) := fun h => by have := (hlt1.out _ h.symm).2; omega
      go_region_held3 (fun w' => w'.cell? ⟨wr.heap.size, 0, none⟩ = some (.int .i64 f) ∧ w'.cell? ⟨wr.heap.size, 1, none⟩ = some (.int .i64 t) ∧ w'.cell? ⟨wr.heap.size, 2, none⟩ = some (.string s))
        (first
          | go_keep
          | (refine ⟨?_, ?_, ?_⟩ <;> assumption))
        ((first
          | (go_at_call 19; refine (clone_any old _ (by omega)).mono ?_; rintro e w2 ⟨rfl, hb2⟩; have d0 : w2.cell? ⟨wr.heap.size, 0, none⟩ = some (.int .i64 f) := (hb2.cell (p := ⟨wr.heap.size, 0, none⟩) (by simp)).trans (by simp); have d1 : w2.cell? ⟨wr.heap.size, 1, none⟩ = some (.int .i64 t) := (hb2.cell (p := ⟨wr.heap.size, 1, none⟩) (by simp)).trans (by simp); have d2 : w2.cell? ⟨wr.heap.size, 2, none⟩ = some (.string s) := (hb2.cell (p := ⟨wr.heap.size, 2, none⟩) (by simp)).trans (by simp); have HO2 : Hid (w2.ownsRow w.heap.size 38 3 u7 p.length (flat p)) := ownsRow_below ((HO.out.alloc _).drew) hb2 (Nat.le_refl _); have HB2 : Hid (Below w.heap.size w w2) := ((hbel.alloc hsz _).drew).trans (hb2.mono (by simp; omega)); have hlt2 : Hid (wr.heap.size < w2.heap.size) := Nat.lt_of_lt_of_le (by simp) hb2.size; clear hb2)
          | (refine step_append_lies _ (by rfl) _ _ _ (by rfl) w.heap.size 38 i0 (.agg #[.int .i64 0, .int .i64 0, .string ⟨#[]⟩]) 3 32 Tryz.underlying22 hi hz0 hz1 hz2 rfl (by omega) u7 p.length (flat p) (by rfl) (HO2.out.alloc _) ⟨w2.heap.size, 0, none⟩ 1 1 (flat [⟨(f : Int) + m, (f : Int) + m + s.size, old⟩]) (by rfl) (by rfl) (cells_new w2 (flat [⟨(f : Int) + m, (f : Int) + m + s.size, old⟩]) 38) (flat_oneCell _) (by omega) (by unfold maxLen; omega) (by omega) (by have := HB2.out.size; simp; omega) (w2.heap.size + 1) (by simp) ?_; intro gg cp w4 hown4 hgrow4 hat hlt4; have x0 : w4.cell? ⟨wr.heap.size, 0, none⟩ = some (.int .i64 f) := hgrow4.cell ((World.cell?_alloc_past _ _ _ hlt2.out).trans d0) hne.out; have x1 : w4.cell? ⟨wr.heap.size, 1, none⟩ = some (.int .i64 t) := hgrow4.cell ((World.cell?_alloc_past _ _ _ hlt2.out).trans d1) hne.out; have x2 : w4.cell? ⟨wr.heap.size, 2, none⟩ = some (.string s) := hgrow4.cell ((World.cell?_alloc_past _ _ _ hlt2.out).trans d2) hne.out)))
      have hbel4 : Below w.heap.size w w4 := (HB2.out.alloc (HB2.out.size) _).grown hgrow4 (by have := HB2.out.size; simp; omega) (fun k h => (hlt1.out k h).1)
      have HO4 : Hid (w4.ownsRow w.heap.size 38 3 (.slice (some ⟨gg, 0, none⟩) (p.length + 1) cp) (p ++ ([⟨(f : Int) + m, (f : Int) + m + s.size, old⟩] : List Ed)).length (flat (p ++ [⟨(f : Int) + m, (f : Int) + m + s.size, old⟩]))) := by
        unfold Hid; rw [flat_append, List.length_append]; exact hown4
      have HB4 : Hid (Below w.heap.size w w4) := hbel4
      have hsz4 := hbel4.size
      clear hown4 hgrow4 hbel4 HO2 HB2 hat hlt4 d0 d1 d2 c0 c1 c2 hold hlt2 HO
      go_wp2
      go_roundg (xs.length - (k + 1))
      case measure => omega
      case rel => exact ⟨k + 1, _, rfl, by omega, by go_num, by rw [HGT.out], by have := HB4.out; go_grown, by (repeat (first | exact HO4.out | refine World.ownsRow.alloc ?_ _)), by rw [List.length_append, HPK.out]; rfl, by rw [HGT.out]; exact HS2.out⟩
    · have HE : Hid (p = invF tx 0 xs) := by
        unfold Hid; rw [← HP.out, List.drop_eq_nil_of_le (by omega), invF, List.append_nil]
      go_wp2
      go_ret2
      exact ⟨_, rfl, by rw [← HE.out]; exact HO.out, hbel⟩
structure Rn where
  old : Bool
  f : Int
  t : Int
  s : ByteArray
def Rns (w : World) (b o : Nat) (rs : List Rn) : Prop :=
  b < w.heap.size ∧ ∀ i (r : Rn), rs[i]? = some r → w.cell? ⟨b, o + i * 4, none⟩ = some (.bool r.old) ∧ w.cell? ⟨b, o + i * 4 + 1, none⟩ = some (.int .i64 r.f) ∧ w.cell? ⟨b, o + i * 4 + 2, none⟩ = some (.int .i64 r.t) ∧ w.cell? ⟨b, o + i * 4 + 3, none⟩ = some (.string r.s)
def RnA (w : World) (a : Option Addr) (rs : List Rn) : Prop := rs = [] ∨ ∃ b o, a = some ⟨b, o, none⟩ ∧ Rns w b o rs
theorem Rns.below {B : Nat} {w w' : World} {b o : Nat} {xs : List Rn} (h : Rns w b o xs) (hb : Below B w w') (hB : b < B) : Rns w' b o xs := by
  refine ⟨Nat.lt_of_lt_of_le h.1 hb.size, fun i e he => ?_⟩
  obtain ⟨h0, h1, h2, h3⟩ := h.2 i e he
  exact ⟨(hb.cell (p := ⟨b, _, none⟩) hB).trans h0, (hb.cell (p := ⟨b, _, none⟩) hB).trans h1, (hb.cell (p := ⟨b, _, none⟩) hB).trans h2, (hb.cell (p := ⟨b, _, none⟩) hB).trans h3⟩
theorem RnA.below {w w' : World} {a : Option Addr} {xs : List Rn} (h : RnA w a xs) (hb : Below w.heap.size w w') : RnA w' a xs := by
  rcases h with h | ⟨b, o, ha, h⟩
  · exact .inl h
  · exact .inr ⟨b, o, ha, h.below hb h.1⟩
def flatR (xs : List Rn) : List Value := xs.flatMap fun e => [.bool e.old, .int .i64 e.f, .int .i64 e.t, .string e.s]
theorem flatR_cons (e : Rn) (r : List Rn) : flatR (e :: r) = .bool e.old :: .int .i64 e.f :: .int .i64 e.t :: .string e.s :: flatR r := by simp [flatR]
theorem flatR_get (xs : List Rn) (i r : Nat) (hr : r < 4) : (flatR xs)[i * 4 + r]? = (xs[i]?).map fun e => if r = 0 then .bool e.old else if r = 1 then .int .i64 e.f else if r = 2 then .int .i64 e.t else .string e.s := by
  induction xs generalizing i with
  | nil => simp [flatR]
  | cons e t ih =>
    rw [flatR_cons]
    match i with
    | 0 => match r, hr with
      | 0, _ => simp
      | 1, _ => simp
      | 2, _ => simp
      | 3, _ => simp
    | i + 1 =>
      rw [show (i + 1) * 4 + r = (i * 4 + r) + 4 by omega]
      simpa using ih i
theorem add_none (b o j : Nat) : (⟨b, o, none⟩ : Addr).add j = ⟨b, o + j, none⟩ := by
  unfold Addr.add; by_cases hz : j = 0 <;> simp [hz]
theorem Rns.flat {w : World} {b o : Nat} {xs : List Rn} (h : Rns w b o xs) : ∀ j u, (flatR xs)[j]? = some u → w.cell? ((⟨b, o, none⟩ : Addr).add j) = some u := by
  intro j u hj
  have e : j = j / 4 * 4 + j % 4 := by omega
  rw [e, flatR_get xs _ _ (by omega)] at hj
  obtain ⟨x, hx, hu⟩ := Option.map_eq_some_iff.1 hj
  obtain ⟨h0, h1, h2, h3⟩ := h.2 _ _ hx
  rw [add_none]
  have h4 : j % 4 < 4 := by omega
  generalize j / 4 = q at *
  generalize j % 4 = r at *
  subst e
  match r, h4 with
  | 0, _ => simp at hu; subst hu; simpa using h0
  | 1, _ => simp at hu; subst hu; simpa [Nat.add_assoc] using h1
  | 2, _ => simp at hu; subst hu; simpa [Nat.add_assoc] using h2
  | 3, _ => simp at hu; subst hu; simpa [Nat.add_assoc] using h3
theorem Rns.of_flat {w : World} {b o : Nat} {xs : List Rn} (hb : b < w.heap.size) (h : ∀ j u, (flatR xs)[j]? = some u → w.cell? ((⟨b, o, none⟩ : Addr).add j) = some u) : Rns w b o xs := by
  refine ⟨hb, fun i e he => ⟨?_, ?_, ?_, ?_⟩⟩
  · have := h (i * 4 + 0) (.bool e.old) (by rw [flatR_get xs i 0 (by omega), he]; rfl)
    rw [add_none] at this; simpa using this
  · have := h (i * 4 + 1) (.int .i64 e.f) (by rw [flatR_get xs i 1 (by omega), he]; rfl)
    rw [add_none] at this; simpa [Nat.add_assoc] using this
  · have := h (i * 4 + 2) (.int .i64 e.t) (by rw [flatR_get xs i 2 (by omega), he]; rfl)
    rw [add_none] at this; simpa [Nat.add_assoc] using this
  · have := h (i * 4 + 3) (.string e.s) (by rw [flatR_get xs i 3 (by omega), he]; rfl)
    rw [add_none] at this; simpa [Nat.add_assoc] using this
theorem Eds.take {w : World} {b o : Nat} {xs : List Ed} (h : Eds w b o xs) (k : Nat) : Eds w b o (xs.take k) := by
  refine ⟨h.1, fun i e he => h.2 i e ?_⟩
  rw [List.getElem?_take] at he
  by_cases hi : i < k
  · rw [if_pos hi] at he; exact he
  · rw [if_neg hi] at he; cases he
def invA (tx : ByteArray) (xs : List Ed) : List Ed := if vld tx.size xs = 0 then invF tx 0 xs else []
set_option maxRecDepth 1000000 in
set_option maxHeartbeats 800000 in
theorem invert_all (tx : ByteArray) (a : Option Addr) (cap : Nat) (xs : List Ed) (w : World) (hx : tx.size ≤ 140737488351232) (h : EdsA w a xs) (hl : xs.length * 32 ≤ 140737488351232) (hF : ∀ e ∈ xs, EdFit e) (hB : tx.size + tots xs ≤ 1048576) :
    Calls Tryz.prog 8 #[.string tx, .slice a xs.length cap] w fun e w' => ∃ a' cap', e = .returned (.tuple #[.slice a' (invA tx xs).length cap', .int .i64 (vld tx.size xs)]) ∧ EdsA w' a' (invA tx xs) ∧ (a' = none → (invA tx xs).length = 0 ∧ cap' = 0) ∧ Below w.heap.size w w' := by
  have HL : Hid (xs.length ≤ maxLen) := by unfold Hid maxLen; omega
  by_cases hv : vld tx.size xs = 0
  · have hN : invA tx xs = invF tx 0 xs := by unfold invA; rw [if_pos hv]
    rw [hN, hv]
    rcases h with rfl | ⟨b, o, rfl, h⟩
    · obtain ⟨i0, hi, hz0, hz1, hz2⟩ := info_parts infoEd
      rw [List.length_nil]
      go_enter Tryz.func8, Tryz.ntmps8
      go_wp2_with fail
      refine (valid_all tx.size a cap [] _ (by omega) (by omega) (.inl rfl) HL.out).mono ?_
      rintro e w1 ⟨rfl, hb1⟩
      rw [show val62 (tx.size : Int) [] = 0 from by unfold val62; rw [if_pos (by omega)]; rfl]
      have hsz1 := hb1.size
      go_wp2_with (at_make; refine wpList_make_own _ rfl _ _ 22 rfl w.heap.size 38 i0 (.agg #[.int .i64 0, .int .i64 0, .string ⟨#[]⟩]) 3 Tryz.underlying22 hi hz0 hz1 _ _ _ 0 rfl rfl ?_ ?_ ?_ ?_ ?_)
      case refine_1 => rfl
      case refine_2 => omega
      case refine_3 => unfold maxLen; omega
      case refine_4 => exact hsz1
      intro w3 hown3 hgrow3
      have hb3 : Below w.heap.size w w3 := hb1.grown hgrow3 hsz1 (fun k h => by cases h)
      clear hgrow3 hown3
      go_wp2
      refine wp_loop_rounds 1 ?_
      rw [rounds_succ]
      go_wp2
      go_ret2
      exact ⟨_, _, rfl, .inl rfl, (fun h => by cases h), hb3⟩
    · refine (invert_any tx b o cap xs w hx h hl hF hv hB).mono ?_
      rintro e w' ⟨v, rfl, hown, hb⟩
      obtain ⟨a', cap', rfl, hE, _, hn⟩ := own_form hown
      exact ⟨a', cap', rfl, hE, hn, hb⟩
  · have hN : invA tx xs = [] := by unfold invA; rw [if_neg hv]
    rw [hN]
    have H : Hid (EdsA w a xs) := h
    have HV : Hid (val62 tx.size xs = vld tx.size xs) := by unfold Hid val62; rw [if_pos (by omega)]
    have HW : Hid ((vld tx.size xs != 0) = true) := by unfold Hid; simpa using hv
    clear h hv
    go_enter Tryz.func8, Tryz.ntmps8
    go_wp2_with fail
    refine (valid_all tx.size a cap xs _ (by omega) (by omega) H.out HL.out).mono ?_
    rintro e w1 ⟨rfl, hb1⟩
    rw [HV.out]
    have hne := HW.out
    go_wp2
    go_ret2
    exact ⟨none, 0, rfl, .inl rfl, by simp, hb1⟩
/-- all boxes of edits stand -/
def KB (w w' : World) : Prop := ∀ g f t s, Box w g f t s → Box w' g f t s
theorem KB.refl (w : World) : KB w w := fun _ _ _ _ h => h
theorem KB.trans {a b c : World} (h : KB a b) (k : KB b c) : KB a c := fun g f t s x => k g f t s (h g f t s x)
theorem KB.alloc {a b : World} (h : KB a b) (o : Obj) : KB a (b.alloc o) := fun g f t s x => (h g f t s x).alloc o
theorem KB.own {a b c : World} {base n : Nat} {v : Value} {xs : List Value} (h : KB a b) (ho : b.ownsRow base 5 1 v n xs) (hg : b.grownBy c v.ownBlock) : KB a c := fun g f t s x =>
  (h g f t s x).grown hg (own_ne_box ho (h g f t s x) (by decide))
theorem KB.below {a b c : World} (h : KB a b) (k : Below b.heap.size b c) : KB a c := fun g f t s x =>
  (k.block g (h g f t s x).lt).trans (h g f t s x)
/-- a list that lies below a mark -/
def EdsL (B : Nat) (w : World) (a : Option Addr) (xs : List Ed) : Prop := xs = [] ∨ ∃ b o, a = some ⟨b, o, none⟩ ∧ b < B ∧ Eds w b o xs
theorem EdsL.below {B : Nat} {w w' : World} {a : Option Addr} {xs : List Ed} (h : EdsL B w a xs) (hb : Below B w w') : EdsL B w' a xs := by
  rcases h with h | ⟨b, o, ha, hB, h⟩
  · exact .inl h
  · exact .inr ⟨b, o, ha, hB, h.below hb hB⟩
theorem Eds.first {w : World} {b o : Nat} {e : Ed} {r : List Ed} (h : Eds w b o (e :: r)) : w.cell? ⟨b, o, none⟩ = some (.int .i64 e.f) ∧ w.cell? ⟨b, o + 1, none⟩ = some (.int .i64 e.t) ∧ w.cell? ⟨b, o + 2, none⟩ = some (.string e.s) := by
  have := h.2 0 e rfl
  simpa using this
/-- a slice of edits with its room -/
def EdsC (w : World) (a : Option Addr) (c : Nat) (xs : List Ed) : Prop := xs = [] ∨ ∃ b o, a = some ⟨b, o, none⟩ ∧ xs.length ≤ c ∧ Eds w b o xs
theorem EdsC.all {w : World} {a : Option Addr} {c : Nat} {xs : List Ed} (h : EdsC w a c xs) : EdsA w a xs := by
  rcases h with h | ⟨b, o, ha, _, h⟩
  · exact .inl h
  · exact .inr ⟨b, o, ha, h⟩
theorem EdsA.room {w : World} {a : Option Addr} {c : Nat} {xs : List Ed} (h : EdsA w a xs) (hc : xs.length ≤ c) : EdsC w a c xs := by
  rcases h with h | ⟨b, o, ha, h⟩
  · exact .inl h
  · exact .inr ⟨b, o, ha, hc, h⟩
theorem EdsC.cap {w : World} {a : Option Addr} {c : Nat} {xs : List Ed} (h : EdsC w a c xs) : xs.length ≤ c := by
  rcases h with h | ⟨b, o, ha, hc, h⟩
  · rw [h]; exact Nat.zero_le _
  · exact hc
theorem EdsC.below {w w' : World} {a : Option Addr} {c : Nat} {xs : List Ed} (h : EdsC w a c xs) (hb : Below w.heap.size w w') : EdsC w' a c xs := by
  rcases h with h | ⟨b, o, ha, hc, h⟩
  · exact .inl h
  · exact .inr ⟨b, o, ha, hc, h.below hb h.1⟩
theorem Eds.front {w : World} {b o : Nat} {xs : List Ed} (h : Eds w b o xs) (i : Nat) : Eds w b o (xs.take i) := by
  have : Eds w b o (xs.take i ++ xs.drop i) := by rw [List.take_append_drop]; exact h
  exact this.pre
theorem Eds.drop {w : World} {b o : Nat} {xs : List Ed} (h : Eds w b o xs) (i : Nat) : Eds w b (o + i * 3) (xs.drop i) := by
  refine ⟨h.1, fun k e he => ?_⟩
  rw [List.getElem?_drop] at he
  have := h.2 (i + k) e he
  rw [show o + i * 3 + k * 3 = o + (i + k) * 3 by omega]
  exact this
theorem EdsA.take {w : World} {a : Option Addr} {xs : List Ed} (h : EdsA w a xs) (i : Nat) : EdsA w a (xs.take i) := by
  rcases h with h | ⟨b, o, ha, h⟩
  · rw [h]; exact .inl (by simp)
  · exact .inr ⟨b, o, ha, h.front i⟩
/-- where a slice lies behind its first elements -/
def cutA (a : Option Addr) (c i : Nat) : Option Addr := if c = i then a else Option.map (fun x => x.add (i * 3)) a
theorem EdsC.drop {w : World} {a : Option Addr} {c : Nat} {xs : List Ed} (h : EdsC w a c xs) (i : Nat) (hi : i ≤ xs.length) : EdsC w (cutA a c i) (c - i) (xs.drop i) := by
  rcases h with h1 | ⟨b, o, ha, hc, h⟩
  · subst h1
    exact .inl (by simp)
  · subst ha
    by_cases h0 : c = i
    · refine .inr ⟨b, o, by simp [cutA, h0], ?_, ?_⟩
      · rw [List.length_drop]; omega
      · rw [List.drop_eq_nil_of_le (by omega)]; exact ⟨h.1, fun k e he => by simp at he⟩
    · refine .inr ⟨b, o + i * 3, ?_, ?_, h.drop i⟩
      · rw [cutA, if_neg h0]
        show some ((⟨b, o, none⟩ : Addr).add (i * 3)) = _
        unfold Addr.add; by_cases hz : i * 3 = 0 <;> simp [hz]
      · rw [List.length_drop]; omega
theorem mem_tots {e : Ed} {xs : List Ed} (h : e ∈ xs) : e.s.size ≤ tots xs := by
  induction xs with
  | nil => cases h
  | cons y z ih =>
    rw [tots]
    rcases List.mem_cons.1 h with rfl | h
    · omega
    · have := ih h; omega
theorem EdsC.drew {w : World} {a : Option Addr} {c : Nat} {xs : List Ed} (h : EdsC w a c xs) : EdsC w.drew a c xs := h
theorem grw_ge {size L a : Int} {xs : List Ed} (h : chk size L xs = 0) (ha : a ≤ L) (hs : a ≤ size) : a - size ≤ grw xs := by
  induction xs generalizing L a with
  | nil => rw [grw]; omega
  | cons e r ih =>
    obtain ⟨h1, h2, h3, h4, h5⟩ := chk_cons h
    have := ih (a := e.t) h5 (by omega) h3
    rw [grw]; omega
theorem Box.other {w : World} {g : Nat} {f t : Int} {s : ByteArray} (h : Box w g f t s) (a : Addr) (hne : g ≠ a.block) (v : Value) : Box (w.setCell a v) g f t s := (heap_setCell_other w a g v hne).trans h
theorem back_chk {tx : ByteArray} {size L a m L' : Int} {xs : List Ed} (h : chk size L xs = 0) (ha : a ≤ L) (hs : a ≤ size) (hm : 0 ≤ a + m) (hL : L' ≤ L + m) : chk (size + m + grw xs) L' (invF tx m xs) = 0 := by
  induction xs generalizing L a m L' with
  | nil => rfl
  | cons e r ih =>
    obtain ⟨h1, h2, h3, h4, h5⟩ := chk_cons h
    have hg := grw_ge (a := e.t) h5 (by omega) h3
    have := ih (a := e.t) (m := m + ((e.s.size : Int) - (e.t - e.f))) (L' := e.f + m + e.s.size + 1) h5 (by omega) h3 (by omega) (by omega)
    rw [invF, chk, grw, if_pos ⟨by simp only; omega, by simp only; omega, by simp only; omega⟩, if_neg (by simp only; omega)]
    rw [show size + m + ((e.s.size : Int) - (e.t - e.f) + grw r) = size + (m + ((e.s.size : Int) - (e.t - e.f))) + grw r by omega]
    exact this
theorem cut_three (T : List UInt8) {a f t : Nat} (h1 : a ≤ f) (h2 : f ≤ t) : (T.drop a).take (f - a) ++ ((T.drop f).take (t - f) ++ T.drop t) = T.drop a := by
  have e1 : T.drop t = (T.drop f).drop (t - f) := by rw [List.drop_drop]; congr 1; omega
  rw [e1, List.take_append_drop]
  have e2 : T.drop f = (T.drop a).drop (f - a) := by rw [List.drop_drop]; congr 1; omega
  rw [e2, List.take_append_drop]
theorem back_app {tx : ByteArray} {S P : List UInt8} {xs : List Ed} {L m : Int} {a n : Nat} (h : chk tx.size L xs = 0) (ha : (a : Int) ≤ L) (hs : a ≤ tx.size) (hn : (n : Int) = a + m) (hP : P.length = n) (hS : S = P ++ appF tx.data.toList a xs) :
    appF S n (invF tx m xs) = tx.data.toList.drop a := by
  induction xs generalizing L m a n P with
  | nil =>
    rw [invF, appF, hS, List.drop_left' hP, appF]
  | cons e r ih =>
    obtain ⟨h1, h2, h3, h4, h5⟩ := chk_cons h
    have hl := bytes_len tx
    have hlen : ((tx.data.toList.drop a).take (e.f.toNat - a)).length = e.f.toNat - a := by
      rw [List.length_take, List.length_drop]; omega
    rw [appF] at hS
    have hS2 : S = (P ++ ((tx.data.toList.drop a).take (e.f.toNat - a) ++ e.s.data.toList)) ++ appF tx.data.toList e.t.toNat r := by
      rw [hS]; simp
    have hP2 : (P ++ ((tx.data.toList.drop a).take (e.f.toNat - a) ++ e.s.data.toList)).length = (e.f + m + e.s.size).toNat := by
      rw [List.length_append, List.length_append, hlen, bytes_len, hP]; omega
    have := ih (L := e.t + 1) (m := m + ((e.s.size : Int) - (e.t - e.f))) (a := e.t.toNat) h5 (by omega) (by omega) (by omega) hP2 hS2
    rw [invF, appF]
    simp only
    rw [this, Lib.extract_data, show (e.f + m).toNat - n = e.f.toNat - a by omega]
    conv => lhs; lhs; rw [hS, List.drop_left' hP, List.take_left' hlen]
    exact cut_three _ (by omega) (by omega)
theorem back_inv {tx S : ByteArray} {P : List UInt8} {xs : List Ed} {L m : Int} {a n : Nat} (h : chk tx.size L xs = 0) (ha : (a : Int) ≤ L) (hs : a ≤ tx.size) (hn : (n : Int) = a + m) (hP : P.length = n) (hS : S.data.toList = P ++ appF tx.data.toList a xs) :
    invF S (-m) (invF tx m xs) = xs := by
  induction xs generalizing L m a n P with
  | nil => rfl
  | cons e r ih =>
    obtain ⟨h1, h2, h3, h4, h5⟩ := chk_cons h
    have hl := bytes_len tx
    have hlen : ((tx.data.toList.drop a).take (e.f.toNat - a)).length = e.f.toNat - a := by
      rw [List.length_take, List.length_drop]; omega
    rw [appF] at hS
    have hS2 : S.data.toList = (P ++ ((tx.data.toList.drop a).take (e.f.toNat - a) ++ e.s.data.toList)) ++ appF tx.data.toList e.t.toNat r := by
      rw [hS]; simp
    have hS3 : S.data.toList = (P ++ (tx.data.toList.drop a).take (e.f.toNat - a)) ++ (e.s.data.toList ++ appF tx.data.toList e.t.toNat r) := by
      rw [hS]; simp
    have hP2 : (P ++ ((tx.data.toList.drop a).take (e.f.toNat - a) ++ e.s.data.toList)).length = (e.f + m + e.s.size).toNat := by
      rw [List.length_append, List.length_append, hlen, bytes_len, hP]; omega
    have hP3 : (P ++ (tx.data.toList.drop a).take (e.f.toNat - a)).length = (e.f + m).toNat := by
      rw [List.length_append, hlen, hP]; omega
    have hi := ih (L := e.t + 1) (m := m + ((e.s.size : Int) - (e.t - e.f))) (a := e.t.toNat) h5 (by omega) (by omega) (by omega) hP2 hS2
    have hsz : (tx.extract e.f.toNat e.t.toNat).size = e.t.toNat - e.f.toNat := by simp; omega
    have hx : S.extract (e.f + m).toNat (e.f + m + e.s.size).toNat = e.s := by
      apply bytes_ext
      rw [Lib.extract_data, hS3, List.drop_left' hP3, show (e.f + m + e.s.size).toNat - (e.f + m).toNat = e.s.data.toList.length by rw [bytes_len]; omega, List.take_left' rfl]
    rw [invF, invF]
    simp only
    rw [hsz, hx, show -m + (((e.t.toNat - e.f.toNat : Nat) : Int) - (e.f + m + e.s.size - (e.f + m))) = -(m + ((e.s.size : Int) - (e.t - e.f))) by omega, hi]
    congr 1
    cases e
    simp only at *
    congr 1 <;> omega
theorem back_tots {tx : ByteArray} {xs : List Ed} (m : Int) (h : ∀ e ∈ xs, 0 ≤ e.f ∧ e.f ≤ e.t ∧ e.t ≤ (tx.size : Int)) : (tots (invF tx m xs) : Int) = tots xs - grw xs := by
  induction xs generalizing m with
  | nil => rfl
  | cons e r ih =>
    have he := h e (List.mem_cons_self ..)
    have hi := ih (m + ((e.s.size : Int) - (e.t - e.f))) fun x hx => h x (List.mem_cons_of_mem _ hx)
    have hsz : (tx.extract e.f.toNat e.t.toNat).size = e.t.toNat - e.f.toNat := by simp; omega
    rw [invF, tots, tots, grw]
    simp only [hsz]
    omega
end Go.Proofs.YtmnbakalcpanlaaGreatDoor.Q
