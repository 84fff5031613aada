import Derived.Test.YteolfolkolpehaaDoorAp
import Derived.Test.YteolfolkolpehaaDoorAp1
import Derived.Test.YteolfolkolpehaaDoorOpen
import Derived.Test.YteolfolkolpehaaDoorSh
namespace Go.Proofs.YteolfolkolpehaaDoor
open Go.ChangeShapes Go.WideShapes Go.ChangeAt Go.RowKit
set_option linter.unusedVariables false

/-- the list that takes the edits back, where the ones ahead have moved the text by m -/
def invF (tx : ByteArray) : Int → List Ed → List Ed
  | _, [] => []
  | m, e :: r => ⟨e.f + m, e.f + m + e.s.size, tx.extract e.f.toNat e.t.toNat⟩ :: invF tx (m + ((e.s.size : Int) - (e.t - e.f))) r

theorem inv_len (tx : ByteArray) (m : Int) (xs : List Ed) : (invF tx m xs).length = xs.length := by
  induction xs generalizing m with
  | nil => rfl
  | cons e r ih => rw [invF, List.length_cons, ih, List.length_cons]

theorem inv_step {tx : ByteArray} {xs p : List Ed} {k : Nat} {m : Int} {f t : Nat} {s : ByteArray} (he : xs[k]? = some ⟨f, t, s⟩) (hp : p ++ invF tx m (xs.drop k) = invF tx 0 xs) :
    (p ++ [⟨(f : Int) + m, (f : Int) + m + s.size, tx.extract f t⟩]) ++ invF tx (m + ((s.size : Int) - ((t : Int) - f))) (xs.drop (k + 1)) = invF tx 0 xs := by
  rw [← hp, drop_get he, invF]
  simp

theorem grw_take {xs : List Ed} {k : Nat} {e : Ed} (he : xs[k]? = some e) : grw (xs.take (k + 1)) = grw (xs.take k) + ((e.s.size : Int) - (e.t - e.f)) := by
  obtain ⟨hk, rfl⟩ := List.getElem?_eq_some_iff.1 he
  have happ : ∀ a b : List Ed, grw (a ++ b) = grw a + grw b := by
    intro a b
    induction a with
    | nil => simp [grw]
    | cons e r ih => rw [List.cons_append, grw, grw, ih]; omega
  rw [List.take_succ_eq_append_getElem hk, happ, grw, grw]
  omega

/-- what lies ahead of an edit is a valid list of the text up to it -/
theorem chk_take {size L : Int} {xs : List Ed} {k : Nat} {e : Ed} (h : chk size L xs = 0) (he : xs[k]? = some e) : chk e.f L (xs.take k) = 0 := by
  induction xs generalizing L k with
  | nil => simp at he
  | cons x r ih =>
    obtain ⟨h1, h2, h3, h4, h5⟩ := chk_cons h
    cases k with
    | zero => rfl
    | succ k =>
      rw [List.getElem?_cons_succ] at he
      have hle : x.t + 1 ≤ e.f := by
        have hd := drop_get he
        have : ∀ (ys : List Ed) (M : Int), chk size M ys = 0 → e ∈ ys → M ≤ e.f := by
          intro ys
          induction ys with
          | nil => intro M _ hm; cases hm
          | cons y z ihz =>
            intro M hM hm
            obtain ⟨g1, g2, g3, g4, g5⟩ := chk_cons hM
            rcases List.mem_cons.1 hm with rfl | hm
            · exact g4
            · have := ihz _ g5 hm; omega
        exact this r _ h5 (List.mem_of_getElem? he)
      rw [List.take_succ_cons, chk, if_pos ⟨h1, h2, by omega⟩, if_neg (by omega)]
      exact ih h5 he

theorem grw_bound {tx : ByteArray} {xs : List Ed} {k : Nat} {e : Ed} (h : chk tx.size 0 xs = 0) (he : xs[k]? = some e) : 0 ≤ e.f + grw (xs.take k) ∧ grw (xs.take k) ≤ tots xs ∧
    ((appF ((tx.extract 0 e.f.toNat).data.toList) 0 (xs.take k)).length : Int) = e.f + grw (xs.take k) := by
  have hK := chk_ok h e (List.mem_of_getElem? he)
  have h1 := chk_take h he
  have hsz : (tx.extract 0 e.f.toNat).size = e.f.toNat := by simp; omega
  have h2 := app_len (tx := (tx.extract 0 e.f.toNat).data.toList) (xs := xs.take k) (L := 0) (a := 0) (by rw [bytes_len, hsz, show ((e.f.toNat : Nat) : Int) = e.f by omega]; exact h1) (by omega) (by omega)
  rw [bytes_len, hsz] at h2
  have h3 := grw_le (xs.take k) (fun x hx => (chk_ok h x (List.mem_of_mem_take hx)).2.1)
  have h4 : tots (xs.take k) ≤ tots xs := by
    clear h1 h2 h3 hK h he
    induction xs generalizing k with
    | nil => simp
    | cons x r ih =>
      cases k with
      | zero => simp [tots]
      | succ k => rw [List.take_succ_cons, tots, tots]; have := ih (k := k); omega
  refine ⟨by omega, by omega, by omega⟩
end Go.Proofs.YteolfolkolpehaaDoor

namespace Go.Proofs.YteolfolkolpehaaDoor
open Go.ChangeShapes Go.WideShapes Go.ChangeAt Go.RowKit
set_option linter.unusedVariables false

theorem infoRn : (Tryd.prog.info? 94).map (fun i => (i.zero, i.size, i.bytes)) = some (some (.agg #[.bool false, .int .i64 0, .int .i64 0, .string ⟨#[]⟩]), 4, 40) := by kernel_rfl

set_option maxHeartbeats 400000 in
theorem whole_any (n : Nat) (w : World) (hn : n ≤ 140737488351232) :
    Calls Tryd.prog 38 #[.int .i64 n] w fun e w' => ∃ a c, e = .returned (.slice a (wh n).length c) ∧ RnA w' a (wh n) ∧ (a = none → (wh n).length = 0 ∧ c = 0) ∧ Below w.heap.size w w' := by
  by_cases h0 : n = 0
  · subst h0
    go_enter Tryd.func38, Tryd.ntmps38
    go_wp2
    go_ret
    exact ⟨none, 0, rfl, .inl rfl, fun _ => ⟨rfl, rfl⟩, Below.refl _ _⟩
  · have hb : (((n : Nat) : Int) == 0) = false := by simp; omega
    have HW : Hid (wh n = [⟨true, 0, n, ⟨#[]⟩⟩]) := by unfold Hid wh; rw [if_neg h0]
    go_enter Tryd.func38, Tryd.ntmps38
    go_wp2
    go_ret
    rw [HW.out]
    refine ⟨some ⟨w.heap.size, 0, none⟩, 1, rfl, .inr ⟨w.heap.size, 0, rfl, Rns.of_flat (by simp) (cells_new w (flatR [⟨true, 0, n, ⟨#[]⟩⟩]) 94)⟩, (fun h => by cases h), by go_grown⟩

set_option maxHeartbeats 400000 in
theorem rsize_old (f t : Int) (s : ByteArray) (w : World) (h0 : 0 ≤ f) (h1 : f ≤ t) (h2 : t ≤ 140737488351232) :
    Calls Tryd.prog 83 #[.agg #[.bool true, .int .i64 f, .int .i64 t, .string s]] w fun e w' => e = .returned (.int .i64 (t - f)) ∧ Below w.heap.size w w' := by
  go_enter Tryd.func83, Tryd.ntmps83
  go_wp2
  go_ret
  exact ⟨rfl, by go_grown⟩

set_option maxHeartbeats 400000 in
theorem rpart_old (f t x y : Int) (s : ByteArray) (w : World) (h0 : 0 ≤ f) (h2 : f ≤ 140737488351232) (hx : 0 ≤ x) (hx2 : x ≤ 140737488351232) (hy : 0 ≤ y) (hy2 : y ≤ 140737488351232) :
    Calls Tryd.prog 84 #[.agg #[.bool true, .int .i64 f, .int .i64 t, .string s], .int .i64 x, .int .i64 y] w fun e w' => e = .returned (.agg #[.bool true, .int .i64 (f + x), .int .i64 (f + y), .string ⟨#[]⟩]) ∧ Below w.heap.size w w' := by
  go_enter Tryd.func84, Tryd.ntmps84
  go_wp2
  refine bodyPost_ret (v := .agg #[.bool true, .int .i64 (f + x), .int .i64 (f + y), .string ⟨#[]⟩]) (by simp [results, Tryd.results84, go_sem]) rfl ⟨rfl, ?_⟩
  go_grown

set_option maxHeartbeats 800000 in
theorem wsize_any (n : Nat) (a : Option Addr) (c : Nat) (w : World) (hn : n ≤ 140737488351232) (h : RnA w a (wh n)) :
    Calls Tryd.prog 64 #[.slice a (wh n).length c] w fun e w' => e = .returned (.int .i64 n) ∧ Below w.heap.size w w' := by
  by_cases h0 : n = 0
  · subst h0
    rw [show (wh 0).length = 0 from rfl]
    go_enter Tryd.func64, Tryd.ntmps64
    go_wp2
    refine wp_loop_rounds 1 ?_
    rw [rounds_succ]
    go_wp2
    go_ret
    exact ⟨rfl, Below.refl _ _⟩
  · have hw : wh n = [⟨true, 0, n, ⟨#[]⟩⟩] := by unfold wh; rw [if_neg h0]
    rw [hw] at h ⊢
    rw [List.length_singleton]
    rcases h with h | ⟨b, o, rfl, h⟩
    · cases h
    obtain ⟨c0, c1, c2, c3⟩ := h.2 0 _ rfl
    simp only [Nat.zero_mul, Nat.add_zero] at c0 c1 c2 c3
    clear h hw
    go_enter Tryd.func64, Tryd.ntmps64
    go_wp2
    refine wp_loop_rounds 2 ?_
    rw [rounds_succ]
    go_wp2_with (go_at_call 83; refine (rsize_old 0 n ⟨#[]⟩ _ (by omega) (by omega) (by omega)).mono ?_; rintro e w1 ⟨rfl, hb1⟩)
    rw [rounds_succ]
    go_wp2
    go_ret
    exact ⟨ret_i64 (by omega), hb1⟩
end Go.Proofs.YteolfolkolpehaaDoor

namespace Go.Proofs.YteolfolkolpehaaDoor
open Go.ChangeShapes Go.WideShapes Go.ChangeAt Go.RowKit
set_option linter.unusedVariables false

theorem tots_tot (xs : List Ed) : tots xs = tot xs := by
  induction xs with
  | nil => rfl
  | cons e r ih => rw [tots, tot, ih]

def appB (tx : ByteArray) (xs : List Ed) : ByteArray := if vld tx.size xs = 0 then ⟨(appF tx.data.toList 0 xs).toArray⟩ else ⟨#[]⟩

theorem infoU8b : (Tryd.prog.info? 5).map (fun i => (i.zero, i.size, i.bytes)) = some (some (.int .u8 0), 1, 1) := by kernel_rfl

set_option maxHeartbeats 400000 in
theorem growth_nil (a : Option Addr) (cap : Nat) (w : World) :
    Calls Tryd.prog 34 #[.slice a 0 cap] w fun e w' => e = .returned (.int .i64 0) ∧ w = w' := by
  go_enter Tryd.func34, Tryd.ntmps34
  go_wp2
  refine wp_loop_rounds 1 ?_
  rw [rounds_succ]
  go_wp2
  go_ret
  exact ⟨rfl, rfl⟩

set_option maxRecDepth 1000000 in
set_option maxHeartbeats 2000000 in
theorem apply_all (tx : ByteArray) (a : Option Addr) (cap : Nat) (xs : List Ed) (w : World) (hx : tx.size ≤ 140737488351232) (h : EdsA w a xs) (hl : xs.length ≤ maxLen) (hF : ∀ e ∈ xs, EdFit e) (hB : tx.size + tots xs ≤ 70368744177664) :
    Calls Tryd.prog 15 #[.string tx, .slice a xs.length cap] w fun e w' => e = .returned (.tuple #[.string (appB tx xs), .int .i64 (vld tx.size xs)]) ∧ Below w.heap.size w w' := by
  have HL : Hid (xs.length ≤ maxLen) := hl
  by_cases hv : vld tx.size xs = 0
  · have hA : appB tx xs = ⟨(appF tx.data.toList 0 xs).toArray⟩ := by unfold appB; rw [if_pos hv]
    rw [hA, hv]
    rcases h with rfl | ⟨b, o, rfl, h⟩
    · obtain ⟨i0, hi, hz0, hz1, hz2⟩ := info_parts infoU8b
      rw [List.length_nil]
      have htx : (⟨(appF tx.data.toList 0 []).toArray⟩ : ByteArray) = tx := by apply bytes_ext; simp [appF]
      rw [htx]
      have hN : tx.size ≤ 70368744177664 := by omega
      clear hA hF hB hv htx
      go_enter Tryd.func15, Tryd.ntmps15
      go_wp2_with fail
      refine (valid_all tx.size a cap [] _ (by omega) (by omega) (.inl rfl) HL.out).mono ?_
      rintro e w1 ⟨rfl, hb1⟩
      rw [show val62 (tx.size : Int) [] = 0 from by unfold val62; rw [if_pos (by omega)]; rfl]
      have hsz1 := hb1.size
      go_wp2_with fail
      refine (growth_nil a cap _).mono ?_
      rintro e w2 ⟨rfl, rfl⟩
      go_wp2_with (at_make; refine wpList_make_own _ rfl _ _ 59 rfl w.heap.size 5 i0 (.int .u8 0) 1 Tryd.underlying59 hi hz0 hz1 _ _ _ tx.size rfl rfl ?_ ?_ ?_ ?_ ?_)
      case refine_1 => omega
      case refine_2 => rw [hz2]; omega
      case refine_3 => unfold maxLen; omega
      case refine_4 => exact hsz1
      intro w3 hown3 hgrow3
      have hb3 : Below w.heap.size w w3 := hb1.grown hgrow3 hsz1 (fun k h => by cases h)
      have HO : Hid (w3.ownsRow w.heap.size 5 1 (.slice (some ⟨w1.heap.size, 0, none⟩) 0 tx.size) 0 []) := hown3
      have HB3 : Hid (Below w.heap.size w w3) := hb3
      have hsz3 := hb3.size
      clear hgrow3 hown3 hb3
      go_wp2
      refine wp_loop_rounds 1 ?_
      rw [rounds_succ]
      go_wp2_with (at_builtin; (refine Lib.wpList_append_own_string _ rfl (.tmp 44) (.tmp 47) 59 9 rfl w.heap.size 5 i0 Tryd.underlying59 Tryd.underlying9 hi hz0 hz1 hz2 _ _ _ rfl HO.out tx rfl ?_ ?_ ?_ ?_))
      case refine_1 => unfold maxLen; omega
      case refine_2 => omega
      case refine_3 => omega
      intro v4 w4 hown4 hgrow4 _
      have hbel4 : Below w.heap.size w w4 := HB3.out.grown hgrow4 hsz3 (fun k h => by cases h; exact hsz1)
      have hconv : (convert 59 9 v4).run Tryd.prog w4 = .ok (.string tx) w4 := by
        rw [bc_str] at hown4
        have := own_string_any hown4
        simpa using this
      clear hown4 hgrow4
      go_wp2
      go_ret2
      exact ⟨rfl, hbel4⟩
    · exact apply_any tx b o cap xs w hx h hl hF hv hB
  · have hA : appB tx xs = ⟨#[]⟩ := by unfold appB; rw [if_neg hv]
    have H : Hid (EdsA w a xs) := h
    have HV : Hid (val62 tx.size xs = vld tx.size xs) := by unfold Hid val62; rw [if_pos (by omega)]
    have HW : Hid ((vld tx.size xs != 0) = true) := by unfold Hid; simpa using hv
    rw [hA]
    clear h hv hA
    go_enter Tryd.func15, Tryd.ntmps15
    go_wp2_with fail
    refine (valid_all tx.size a cap xs _ (by omega) (by omega) H.out HL.out).mono ?_
    rintro e w1 ⟨rfl, hb1⟩
    rw [HV.out]
    have hne := HW.out
    go_wp2
    go_ret2
    exact ⟨rfl, hb1⟩
end Go.Proofs.YteolfolkolpehaaDoor

namespace Go.Proofs.YteolfolkolpehaaDoor
open Go.ChangeShapes Go.WideShapes Go.ChangeAt Go.RowKit
set_option linter.unusedVariables false

def keepB (e : Ed) : Bool := decide (e.f < e.t) || !(e.s.size == 0)
def nrm (tx : ByteArray) (xs : List Ed) : List Ed := (xs.map (trimE tx)).filter keepB

theorem nrm_snoc_yes {tx : ByteArray} {xs : List Ed} {k : Nat} {e : Ed} (he : xs[k]? = some e) (h : keepB (trimE tx e) = true) : nrm tx (xs.take (k + 1)) = nrm tx (xs.take k) ++ [trimE tx e] := by
  obtain ⟨hk, rfl⟩ := List.getElem?_eq_some_iff.1 he
  have e1 : [xs[k]].map (trimE tx) = [trimE tx xs[k]] := rfl
  have e2 : [trimE tx xs[k]].filter keepB = [trimE tx xs[k]] := by rw [List.filter_cons_of_pos h]; rfl
  unfold nrm
  rw [List.take_succ_eq_append_getElem hk, List.map_append, List.filter_append, e1, e2]

theorem nrm_snoc_no {tx : ByteArray} {xs : List Ed} {k : Nat} {e : Ed} (he : xs[k]? = some e) (h : keepB (trimE tx e) = false) : nrm tx (xs.take (k + 1)) = nrm tx (xs.take k) := by
  obtain ⟨hk, rfl⟩ := List.getElem?_eq_some_iff.1 he
  have e1 : [xs[k]].map (trimE tx) = [trimE tx xs[k]] := rfl
  have e2 : [trimE tx xs[k]].filter keepB = [] := by rw [List.filter_cons_of_neg (by rw [h]; exact Bool.false_ne_true)]; rfl
  unfold nrm
  rw [List.take_succ_eq_append_getElem hk, List.map_append, List.filter_append, e1, e2, List.append_nil]

theorem nrm_len (tx : ByteArray) (xs : List Ed) (k : Nat) : (nrm tx (xs.take k)).length ≤ k := by
  unfold nrm
  refine Nat.le_trans (List.length_filter_le _ _) ?_
  rw [List.length_map]
  exact List.length_take_le _ _

theorem trimE_fit (tx : ByteArray) (f t : Nat) (s : ByteArray) (h : f ≤ t) : ∃ f' t' : Nat, trimE tx ⟨f, t, s⟩ = ⟨f', t', (trimE tx ⟨f, t, s⟩).s⟩ ∧ f ≤ f' ∧ f' ≤ t' ∧ t' ≤ t ∧ (trimE tx ⟨f, t, s⟩).s.size ≤ s.size := by
  have h1 := trimL_le tx.data.toList t f s.data.toList h
  have h2 := trimR_le tx.data.toList (trimL tx.data.toList t f s.data.toList).1 t (trimL tx.data.toList t f s.data.toList).2.reverse h1.2.1
  refine ⟨_, _, by unfold trimE; simp only [Int.toNat_natCast], h1.1, h2.1, h2.2.1, ?_⟩
  have e1 : (trimE tx ⟨f, t, s⟩).s.size = (trimR tx.data.toList (trimL tx.data.toList t f s.data.toList).1 t (trimL tx.data.toList t f s.data.toList).2.reverse).2.length := by
    rw [← bytes_len]; unfold trimE; simp only [Int.toNat_natCast, List.length_reverse]
  have h3 := h1.2.2
  have h4 := h2.2.2
  rw [List.length_reverse] at h4
  rw [bytes_len] at h3
  omega

/-- an edit of a valid list, by whole numbers that are not below zero -/
theorem nat_ed {size : Nat} {e : Ed} (h : 0 ≤ e.f ∧ e.f ≤ e.t ∧ e.t ≤ (size : Int)) : ∃ f t : Nat, e = ⟨f, t, e.s⟩ ∧ f ≤ t ∧ t ≤ size := by
  obtain ⟨f, hf⟩ := Int.eq_ofNat_of_zero_le h.1
  obtain ⟨t, ht⟩ := Int.eq_ofNat_of_zero_le (Int.le_trans h.1 h.2.1)
  refine ⟨f, t, ?_, by omega, by omega⟩
  cases e
  simp only at hf ht
  rw [hf, ht]

theorem keepB_yes {f t : Nat} {s : ByteArray} (h : f < t ∨ 0 < s.size) : keepB ⟨f, t, s⟩ = true := by
  unfold keepB
  rcases h with h | h
  · have : (f : Int) < (t : Int) := by omega
    simp [this]
  · have : ¬ s.size = 0 := by omega
    simp [this]

theorem keepB_no {f t : Nat} {s : ByteArray} (h : ¬ (f < t ∨ 0 < s.size)) : keepB ⟨f, t, s⟩ = false := by
  unfold keepB
  have h1 : ¬ (f : Int) < (t : Int) := by omega
  have h2 : s.size = 0 := by omega
  simp [h1, h2]

theorem own_set3 {w : World} {base e n g : Nat} {v : Value} {xs : List Value} (h : w.ownsRow base e 3 v n xs) (hg : ∀ k, v.ownBlock = some k → k ≠ g) (x y z : Value) :
    (((w.setCell ⟨g, 0, none⟩ x).setCell ⟨g, 1, none⟩ y).setCell ⟨g, 2, none⟩ z).ownsRow base e 3 v n xs := by
  have hne : v.ownBlock ≠ some g := fun h => hg g h rfl
  exact ownsRow_setCell_other (ownsRow_setCell_other (ownsRow_setCell_other h (a := ⟨g, 0, none⟩) hne x) (a := ⟨g, 1, none⟩) hne y) (a := ⟨g, 2, none⟩) hne z

theorem Box.set3 {w : World} {g : Nat} {f t : Int} {s : ByteArray} (h : Box w g f t s) (f' t' : Int) (s' : ByteArray) : Box (((w.setCell ⟨g, 0, none⟩ (.int .i64 f')).setCell ⟨g, 1, none⟩ (.int .i64 t')).setCell ⟨g, 2, none⟩ (.string s')) g f' t' s' := ((h.set0 f').set1 t').set2 s'

theorem Box.other {w : World} {g : Nat} {f t : Int} {s : ByteArray} (h : Box w g f t s) (a : Addr) (hne : g ≠ a.block) (v : Value) : Box (w.setCell a v) g f t s := (heap_setCell_other w a g v hne).trans h

end Go.Proofs.YteolfolkolpehaaDoor
