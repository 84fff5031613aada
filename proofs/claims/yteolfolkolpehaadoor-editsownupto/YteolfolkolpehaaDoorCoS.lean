import Derived.Test.YteolfolkolpehaaDoorMg1
import Derived.Test.YteolfolkolpehaaDoorCoQ
import Derived.Test.YteolfolkolpehaaDoorAp1
import Derived.Test.YteolfolkolpehaaDoorNm
namespace Go.Proofs.YteolfolkolpehaaDoor
open Go.ChangeShapes Go.WideShapes Go.ChangeAt Go.RowKit
set_option linter.unusedVariables false

/-- do two neighbours meet? -/
def mts (e n : Ed) : Bool := decide (n.f < e.t) || (ins e && ins n && e.f == n.f)
def mtg : List Ed → Bool
  | [] => false
  | [_] => false
  | e :: n :: r => mts e n || mtg (n :: r)

theorem mts_yes {e n : Ed} (h : n.f < e.t ∨ (e.f = e.t ∧ n.f = n.t ∧ e.f = n.f)) : mts e n = true := by
  unfold mts ins
  rcases h with h | ⟨h1, h2, h3⟩
  · simp [h]
  · simp [h1, h2]; omega
theorem mts_no {e n : Ed} (h : ¬ (n.f < e.t ∨ (e.f = e.t ∧ n.f = n.t ∧ e.f = n.f))) : mts e n = false := by
  cases hm : mts e n with
  | false => rfl
  | true =>
    exfalso; apply h
    unfold mts ins at hm
    simp at hm
    omega
theorem mtg_cut {xs : List Ed} {k : Nat} {e n : Ed} (he : xs[k]? = some e) (hn : xs[k + 1]? = some n) : mtg (xs.drop k) = (mts e n || mtg (xs.drop (k + 1))) := by
  rw [drop_get he, drop_get hn, mtg]
theorem mtg_end {xs : List Ed} {k : Nat} (h : xs.length ≤ k + 1) : mtg (xs.drop k) = false := by
  rcases hd : xs.drop k with _ | ⟨e, _ | ⟨n, r⟩⟩
  · rfl
  · rfl
  · have := congrArg List.length hd; simp at this; omega

set_option maxRecDepth 1000000 in
set_option maxHeartbeats 1000000 in
theorem meeting_any (a : Option Addr) (cap : Nat) (xs : List Ed) (w : World) (h : EdsA w a xs) (hl : xs.length ≤ 131072) :
    Calls Tryd.prog 51 #[.slice a xs.length cap] w fun e w' => e = .returned (.bool (mtg xs)) ∧ Below w.heap.size w w' := by
  have H : Hid (EdsA w a xs) := h
  clear h
  go_enter Tryd.func51, Tryd.ntmps51
  go_wp2
  go_loopg [3] xs.length (fun gk si wr => ∃ k : Nat, gk = xs.length - k ∧ si = .int .i64 ((k : Int) + 1) ∧ k ≤ xs.length ∧ Below w.heap.size w wr ∧ mtg xs = mtg (xs.drop k))
  case atStart => exact ⟨0, by omega, rfl, Nat.zero_le _, Below.refl _ _, by simp⟩
  case round =>
    obtain ⟨k, rfl, rfl, hk, hbel, hm⟩ := hrel
    have HM : Hid (mtg xs = mtg (xs.drop k)) := hm
    have hsz := hbel.size
    clear hm
    by_cases hlt : k + 1 < xs.length
    · obtain ⟨e, he⟩ : ∃ e, xs[k]? = some e := ⟨_, List.getElem?_eq_getElem (by omega)⟩
      obtain ⟨n, hn⟩ : ∃ n, xs[k + 1]? = some n := ⟨_, List.getElem?_eq_getElem hlt⟩
      rcases H.out with h0 | ⟨b, o, rfl, hE⟩
      · rw [h0] at hlt; simp at hlt
      obtain ⟨c0, c1, c2⟩ := hE.cells hbel he
      obtain ⟨d0, d1, d2⟩ := hE.cells hbel hn
      have HC : Hid (mtg xs = (mts e n || mtg (xs.drop (k + 1)))) := by unfold Hid; rw [HM.out, mtg_cut he hn]
      have hlt' : (k : Int) + 1 < (xs.length : Int) := by omega
      have n1 : (k : Int) < (xs.length : Int) := by omega
      have n2 : (0 : Int) ≤ (k : Int) := by omega
      have n3 : (0 : Int) ≤ (k : Int) + 1 := by omega
      have n4 : IntKind.i64.wrap ((k : Int) + 1 - 1) = (k : Int) := by rw [show (k : Int) + 1 - 1 = k by omega]; exact IntWalk.i64_in _ ⟨by omega, by omega⟩
      have n5 : ((k : Int) + 1).toNat = k + 1 := by omega
      have n6 : IntKind.i64.wrap (k : Int) = (k : Int) := IntWalk.i64_in _ ⟨by omega, by omega⟩
      have n7 : k < xs.length := by omega
      have n8 : (0 : Int) ≤ (xs.length : Int) := by omega
      clear he hn
      have hbw : b < wr.heap.size := Nat.lt_of_lt_of_le hE.1 hsz
      have new1 := World.new_ne wr ⟨b, o + k * 3, none⟩ c0
      go_upto_region 4 with fail
      go_region_held3 (fun w' => w'.cell? ⟨b, o + k * 3, none⟩ = some (.int .i64 e.f) ∧ w'.cell? ⟨b, o + k * 3 + 1, none⟩ = some (.int .i64 e.t) ∧ w'.cell? ⟨b, o + k * 3 + 2, none⟩ = some (.string e.s) ∧ w'.cell? ⟨b, o + (k + 1) * 3, none⟩ = some (.int .i64 n.f) ∧ w'.cell? ⟨b, o + (k + 1) * 3 + 1, none⟩ = some (.int .i64 n.t) ∧ w'.cell? ⟨b, o + (k + 1) * 3 + 2, none⟩ = some (.string n.s))
        (first
          | go_keep
          | (refine ⟨?_, ?_, ?_, ?_, ?_, ?_⟩ <;> assumption))
        (fail)
      all_goals
        clear c0 c1 c2 d0 d1 d2
        go_wp2
        all_goals
          first
          | (go_roundg (xs.length - (k + 1))
             case measure => omega
             case rel => exact ⟨k + 1, rfl, by go_num, by omega, by go_grown, by rw [HC.out, mts_no (by first | omega | (rename_i hq; have hq2 := beq_eq_false_iff_ne.1 hq.2; omega)), Bool.false_or]⟩)
          | (go_ret
             exact ⟨ret_b (by rw [HC.out, mts_yes (by first | omega | (rename_i hq; rcases Classical.em (e.t = n.t) with hz | hz; omega; have hz2 : (e.t == n.t) = false := beq_eq_false_iff_ne.2 hz; exfalso; rw [hz2] at hq; first | (simp at hq; done) | (simp at hq; omega))), Bool.true_or]), by go_grown⟩)
    · have HE : Hid (mtg xs = false) := by unfold Hid; rw [HM.out]; exact mtg_end (by omega)
      have hge : (xs.length : Int) ≤ (k : Int) + 1 := by omega
      go_wp2
      go_ret
      exact ⟨by rw [HE.out]; rfl, hbel⟩
end Go.Proofs.YteolfolkolpehaaDoor

namespace Go.Proofs.YteolfolkolpehaaDoor
open Go.ChangeShapes Go.WideShapes Go.ChangeAt Go.RowKit
set_option linter.unusedVariables false

/-- the reference's rows of runs: a run's size, a part of it, what is kept, a row behind edits, the edits of a row -/
def rsz (r : Rn) : Int := if r.old = true then r.t - r.f else r.s.size
def rpt (r : Rn) (x y : Int) : Rn := if r.old = true then ⟨true, r.f + x, r.f + y, ⟨#[]⟩⟩ else ⟨false, 0, 0, r.s.extract x.toNat y.toNat⟩
def kq1 (x y c : Int) (r : Rn) : List Rn := if rsz r = 0 then (if x ≤ c ∧ c ≤ y then [r] else []) else if max (x - c) 0 < min (y - c) (rsz r) then [rpt r (max (x - c) 0) (min (y - c) (rsz r))] else []
def kq (x y : Int) : Int → List Rn → List Rn
  | _, [] => []
  | c, r :: l => kq1 x y c r ++ kq x y (c + rsz r) l
def szs : List Rn → Int
  | [] => 0
  | r :: l => rsz r + szs l
def dq (l : List Rn) : Int → List Ed → List Rn
  | c, [] => kq c (szs l) 0 l
  | c, e :: r => kq c e.f 0 l ++ (⟨false, 0, 0, e.s⟩ :: dq l e.t r)
def lq (size : Int) : Int → Bool → List UInt8 → List Rn → List Ed
  | last, op, tx, [] => if op = true ∨ last < size then [⟨last, size, ⟨tx.toArray⟩⟩] else []
  | last, op, tx, r :: l => if r.old = true then (if op = true ∨ last < r.f then ⟨last, r.f, ⟨tx.toArray⟩⟩ :: lq size r.t false [] l else lq size r.t false [] l) else lq size last true (tx ++ r.s.data.toList) l

def rtk (r : Rn) : List Tok := if r.old = true then oseg r.f (r.t - r.f).toNat else runT r.s.data.toList
def toks (l : List Rn) : List Tok := l.flatMap rtk
theorem toks_cons (r : Rn) (l : List Rn) : toks (r :: l) = rtk r ++ toks l := by simp [toks]
theorem toks_append (a b : List Rn) : toks (a ++ b) = toks a ++ toks b := by simp [toks]

/-- a right run: an old one has bytes -/
def RnG (S : Int) (r : Rn) : Prop := (r.old = true → 0 ≤ r.f ∧ r.f < r.t ∧ r.t ≤ S) ∧ (r.old = false → r.f = 0 ∧ r.t = 0)

theorem rsz_ge {S : Int} {r : Rn} (h : RnG S r) : 0 ≤ rsz r := by
  unfold rsz
  split
  · rename_i ho; have := h.1 ho; omega
  · omega
theorem wdt_rtk {S : Int} {r : Rn} (h : RnG S r) : wdt (rtk r) = rsz r := by
  unfold rtk rsz
  split
  · rename_i ho; have := h.1 ho; rw [wdt_oseg]; omega
  · rw [wdt_run, bytes_len]
theorem szs_toks {S : Int} {l : List Rn} (h : ∀ r ∈ l, RnG S r) : szs l = wdt (toks l) := by
  induction l with
  | nil => rfl
  | cons r l ih => rw [szs, toks_cons, wdt_append, wdt_rtk (h r (by simp)), ih (fun q hq => h q (by simp [hq]))]

theorem K_map {x y c : Int} {l : List UInt8} (h : max (x - c) 0 < min (y - c) l.length) : K x y c (l.map .N) = ((l.drop (max (x - c) 0).toNat).take ((min (y - c) l.length).toNat - (max (x - c) 0).toNat)).map .N := by
  have hN : ∀ (l : List UInt8), ∀ t ∈ l.map Tok.N, wd t = 1 := fun l t ht => by
    obtain ⟨c, _, rfl⟩ := List.mem_map.1 ht; rfl
  obtain ⟨u, hu⟩ : ∃ u, (max (x - c) 0).toNat = u := ⟨_, rfl⟩
  obtain ⟨v, hv⟩ : ∃ v, (min (y - c) (l.length : Int)).toNat = v := ⟨_, rfl⟩
  rw [hu, hv]
  have e1 : l = l.take u ++ ((l.drop u).take (v - u) ++ l.drop v) := by
    have e2 : l.drop v = (l.drop u).drop (v - u) := by rw [List.drop_drop]; congr 1; omega
    rw [e2, List.take_append_drop, List.take_append_drop]
  have l1 : (l.take u).length = u := by rw [List.length_take]; omega
  have l2 : ((l.drop u).take (v - u)).length = v - u := by rw [List.length_take, List.length_drop]; omega
  have l3 : (l.drop v).length = l.length - v := by rw [List.length_drop]
  conv => lhs; rw [e1]
  rw [List.map_append, List.map_append, K_append, K_append, wdt_map, wdt_map, l1, l2]
  rw [K_none (hN _) (fun z hz1 hz2 => by rw [List.length_map, l1] at hz2; omega)]
  rw [K_all (by omega) (by rw [wdt_map, l2]; omega)]
  rw [K_none (hN _) (fun z hz1 hz2 => by rw [List.length_map, l3] at hz2; omega)]
  simp

theorem K_rtk {S x y c : Int} {r : Rn} (h : RnG S r) : K x y c (rtk r) = toks (kq1 x y c r) := by
  unfold kq1
  cases ho : r.old with
  | true =>
    have hg := h.1 ho
    have hs : rsz r = r.t - r.f := by unfold rsz; rw [if_pos ho]
    have ht : rtk r = oseg r.f (r.t - r.f).toNat := by unfold rtk; rw [if_pos ho]
    rw [hs, if_neg (by omega), ht]
    by_cases hc : max (x - c) 0 < min (y - c) (r.t - r.f)
    · rw [if_pos hc, toks_cons]
      have e : rtk (rpt r (max (x - c) 0) (min (y - c) (r.t - r.f))) = oseg (r.f + max (x - c) 0) ((min (y - c) (r.t - r.f)) - (max (x - c) 0)).toNat := by
        unfold rtk rpt
        rw [if_pos ho]
        simp only [if_true]
        congr 1
        omega
      rw [e]
      obtain ⟨u, hu⟩ : ∃ u, max (x - c) 0 = u := ⟨_, rfl⟩
      obtain ⟨v, hv⟩ : ∃ v, min (y - c) (r.t - r.f) = v := ⟨_, rfl⟩
      rw [hu, hv] at hc ⊢
      rw [oseg_cut (p := r.f) (q := r.f + u) (e := r.t) (by omega) (by omega), oseg_cut (p := r.f + u) (q := r.f + v) (e := r.t) (by omega) (by omega)]
      rw [K_append, K_append, wdt_oseg, wdt_oseg]
      rw [K_none (oseg_wd _ _) (fun z hz1 hz2 => by rw [oseg_length] at hz2; omega)]
      rw [K_all (by omega) (by rw [wdt_oseg]; omega)]
      rw [K_none (oseg_wd _ _) (fun z hz1 hz2 => by rw [oseg_length] at hz2; omega)]
      simp only [List.nil_append, List.append_nil, toks, List.flatMap_nil]
      congr 1
      omega
    · rw [if_neg hc, K_none (oseg_wd _ _) (fun z hz1 hz2 => by rw [oseg_length] at hz2; omega)]
      rfl
  | false =>
    have hs : rsz r = r.s.size := by unfold rsz; rw [if_neg (by simp [ho])]
    have ht : rtk r = runT r.s.data.toList := by unfold rtk; rw [if_neg (by simp [ho])]
    have hl := bytes_len r.s
    rw [hs]
    by_cases h0 : r.s.data.toList = []
    · have hz : (r.s.size : Int) = 0 := by rw [← hl, h0]; rfl
      have e : rtk r = [.M] := by rw [ht]; unfold runT; rw [if_pos h0]
      rw [if_pos hz, e, K, K]
      simp only [wd, Int.add_zero, List.append_nil]
      split
      · rw [toks_cons, e]; rfl
      · rfl
    · have hz : ¬ (r.s.size : Int) = 0 := by
        intro hz
        apply h0
        apply List.eq_nil_of_length_eq_zero
        omega
      rw [if_neg hz, ht]
      unfold runT
      rw [if_neg h0]
      by_cases hc : max (x - c) 0 < min (y - c) (r.s.size : Int)
      · rw [if_pos hc, K_map (by rw [hl]; exact hc), toks_cons, hl]
        have e : rtk (rpt r (max (x - c) 0) (min (y - c) (r.s.size : Int))) = runT ((r.s.data.toList.drop (max (x - c) 0).toNat).take ((min (y - c) (r.s.size : Int)).toNat - (max (x - c) 0).toNat)) := by
          have e0 : ∀ u v, rpt r u v = ⟨false, 0, 0, r.s.extract u.toNat v.toNat⟩ := fun u v => by unfold rpt; rw [if_neg (by simp [ho])]
          rw [e0]
          unfold rtk
          rw [if_neg (by simp), Lib.extract_data]
        rw [e]
        unfold runT
        rw [if_neg]
        · simp [toks]
        · intro hn
          have := congrArg List.length hn
          rw [List.length_take, List.length_drop, List.length_nil] at this
          omega
      · rw [if_neg hc, K_none (fun t ht => by obtain ⟨c, _, rfl⟩ := List.mem_map.1 ht; rfl) (fun z hz1 hz2 => by rw [List.length_map, hl] at hz2; omega)]
        rfl

theorem K_toks {S x y : Int} {l : List Rn} (h : ∀ r ∈ l, RnG S r) (c : Int) : K x y c (toks l) = toks (kq x y c l) := by
  induction l generalizing c with
  | nil => rfl
  | cons r l ih => rw [toks_cons, K_append, kq, toks_append, K_rtk (h r (by simp)), wdt_rtk (h r (by simp)), ih (fun q hq => h q (by simp [hq]))]

theorem kq1_good {S x y c : Int} {r : Rn} (h : RnG S r) : ∀ q ∈ kq1 x y c r, RnG S q := by
  intro q hq
  unfold kq1 at hq
  split at hq
  · split at hq
    · simp at hq; subst hq; exact h
    · cases hq
  · split at hq
    · rename_i hc
      simp at hq; subst hq
      unfold rpt
      split
      · rename_i ho
        have hg := h.1 ho
        have hs : rsz r = r.t - r.f := by unfold rsz; rw [if_pos ho]
        rw [hs] at hc ⊢
        exact ⟨fun _ => ⟨by simp only; omega, by simp only; omega, by simp only; omega⟩, fun h => by cases h⟩
      · exact ⟨(fun h => by cases h), fun _ => ⟨rfl, rfl⟩⟩
    · cases hq
theorem kq_good {S x y : Int} {l : List Rn} (h : ∀ r ∈ l, RnG S r) (c : Int) : ∀ q ∈ kq x y c l, RnG S q := by
  induction l generalizing c with
  | nil => intro q hq; cases hq
  | cons r l ih =>
    intro q hq
    rw [kq] at hq
    rcases List.mem_append.1 hq with hq | hq
    · exact kq1_good (h r (by simp)) q hq
    · exact ih (fun q hq => h q (by simp [hq])) _ q hq
theorem dq_good {S : Int} {l : List Rn} (h : ∀ r ∈ l, RnG S r) {b : List Ed} (c : Int) : ∀ q ∈ dq l c b, RnG S q := by
  induction b generalizing c with
  | nil => exact kq_good h 0
  | cons e r ih =>
    intro q hq
    rw [dq] at hq
    rcases List.mem_append.1 hq with hq | hq
    · exact kq_good h 0 q hq
    · rcases List.mem_cons.1 hq with rfl | hq
      · exact ⟨(fun h => by cases h), fun _ => ⟨rfl, rfl⟩⟩
      · exact ih _ q hq

theorem DT_toks {S : Int} {l : List Rn} (h : ∀ r ∈ l, RnG S r) {b : List Ed} (c : Int) : toks (dq l c b) = DT 0 (toks l) c b := by
  induction b generalizing c with
  | nil => rw [dq, DT, K_toks h, szs_toks h, Int.zero_add]
  | cons e r ih =>
    rw [dq, DT, toks_append, toks_cons, K_toks h, ih]
    rfl

theorem LT_run (size last : Int) (op : Bool) (tx s : List UInt8) (R : List Tok) : LT size last op tx (runT s ++ R) = LT size last true (tx ++ s) R := by
  rw [LT_free (ofree_run s), nb_run]
  have : (runT s).isEmpty = false := by
    cases h : runT s with
    | nil => exact absurd h (run_ne s)
    | cons _ _ => rfl
  rw [this]; simp

theorem LT_toks {S : Int} {l : List Rn} (h : ∀ r ∈ l, RnG S r) (size last : Int) (op : Bool) (tx : List UInt8) : lq size last op tx l = LT size last op tx (toks l) := by
  induction l generalizing last op tx with
  | nil => rfl
  | cons r l ih =>
    have ih := ih (fun q hq => h q (by simp [hq]))
    rw [lq, toks_cons]
    cases ho : r.old with
    | true =>
      have hg := (h r (by simp)).1 ho
      have ht : rtk r = .O r.f :: oseg (r.f + 1) (r.t - r.f - 1).toNat := by
        unfold rtk
        rw [if_pos ho, show (r.t - r.f).toNat = (r.t - r.f - 1).toNat + 1 by omega, oseg]
      have e : r.f + 1 + ((r.t - r.f - 1).toNat : Int) = r.t := by omega
      rw [if_pos rfl, ht, List.cons_append, LT, LT_oseg, e, ih]
    | false =>
      have ht : rtk r = runT r.s.data.toList := by unfold rtk; rw [if_neg (by simp [ho])]
      rw [if_neg (by simp), ht, LT_run, ih]

/-- what the reference's Compose makes of two right lists -/
theorem ref_comp {size : Nat} {a b : List Ed} (ha : chk size 0 a = 0) (hb : chk (size + grw a) 0 b = 0) (l : List Rn) (hl : l = if size = 0 then [] else [⟨true, 0, size, ⟨#[]⟩⟩]) :
    lq size 0 false [] (dq (dq l 0 a) 0 b) = gr (a.length + b.length) (lay 0 a) a b 0 ∧ (∀ r ∈ l, RnG size r) := by
  have hg : ∀ r ∈ l, RnG size r := by
    subst hl
    intro r hr
    split at hr
    · cases hr
    · simp at hr; subst hr
      exact ⟨fun _ => ⟨by simp only; omega, by simp only; omega, by simp only; omega⟩, fun h => by cases h⟩
  have ht : toks l = oseg 0 size := by
    subst hl
    split
    · rename_i h; rw [h]; rfl
    · rw [toks_cons]
      unfold rtk
      simp [toks]
  have hg2 := dq_good hg (b := a) 0
  refine ⟨?_, hg⟩
  rw [LT_toks (dq_good hg2 0), DT_toks hg2, DT_toks hg, ht, DT_whole ha (Int.le_refl _) (Int.le_refl _) (by omega)]
  have := comp_main size _ a b 0 0 0 0 rfl (Int.le_refl _) (by omega) (by omega) ha (Int.le_refl _) (by rw [Int.add_zero]; exact hb) (by omega)
  simpa using this
end Go.Proofs.YteolfolkolpehaaDoor

namespace Go.Proofs.YteolfolkolpehaaDoor
open Go.ChangeShapes Go.WideShapes Go.ChangeAt Go.RowKit
set_option linter.unusedVariables false

/-- a run that the walks bear -/
def RnF (r : Rn) : Prop := RnG 4611686018427387904 r ∧ r.s.size ≤ 1048576

theorem Rns.cells {w w' : World} {b o k : Nat} {l : List Rn} {r : Rn} (h : Rns w b o l) (hb : Below w.heap.size w w') (hr : l[k]? = some r) :
    w'.cell? ⟨b, o + k * 4, none⟩ = some (.bool r.old) ∧ w'.cell? ⟨b, o + k * 4 + 1, none⟩ = some (.int .i64 r.f) ∧ w'.cell? ⟨b, o + k * 4 + 2, none⟩ = some (.int .i64 r.t) ∧ w'.cell? ⟨b, o + k * 4 + 3, none⟩ = some (.string r.s) :=
  (h.below hb h.1).2 k r hr

theorem rsz_bound {r : Rn} (h : RnF r) : 0 ≤ rsz r ∧ rsz r ≤ 4611686018427387904 := by
  refine ⟨rsz_ge h.1, ?_⟩
  unfold rsz
  split
  · rename_i ho; have := h.1.1 ho; omega
  · have := h.2; omega

set_option maxHeartbeats 800000 in
theorem rsize_any (r : Rn) (w : World) (h : RnF r) :
    Calls Tryd.prog 83 #[.agg #[.bool r.old, .int .i64 r.f, .int .i64 r.t, .string r.s]] w fun e w' => e = .returned (.int .i64 (rsz r)) ∧ Below w.heap.size w w' := by
  have HZ : Hid (rsz r = if r.old = true then r.t - r.f else r.s.size) := rfl
  cases ho : r.old with
  | true =>
    have hg := h.1.1 ho
    rw [ho, if_pos rfl] at HZ
    rw [HZ.out]
    clear h
    go_enter Tryd.func83, Tryd.ntmps83
    go_wp2
    go_ret
    exact ⟨rfl, by go_grown⟩
  | false =>
    have hs := h.2
    rw [ho, if_neg (by simp)] at HZ
    rw [HZ.out]
    clear h
    go_enter Tryd.func83, Tryd.ntmps83
    go_wp2
    go_ret
    exact ⟨rfl, by go_grown⟩

set_option maxHeartbeats 800000 in
theorem rpart_any (r : Rn) (x y : Int) (w : World) (h : RnF r) (hx : 0 ≤ x) (hxy : x < y) (hy : y ≤ rsz r) :
    Calls Tryd.prog 84 #[.agg #[.bool r.old, .int .i64 r.f, .int .i64 r.t, .string r.s], .int .i64 x, .int .i64 y] w fun e w' => e = .returned (.agg #[.bool (rpt r x y).old, .int .i64 (rpt r x y).f, .int .i64 (rpt r x y).t, .string (rpt r x y).s]) ∧ Below w.heap.size w w' := by
  have HP : Hid (rpt r x y = if r.old = true then ⟨true, r.f + x, r.f + y, ⟨#[]⟩⟩ else ⟨false, 0, 0, r.s.extract x.toNat y.toNat⟩) := rfl
  have hz : rsz r = if r.old = true then r.t - r.f else r.s.size := rfl
  cases ho : r.old with
  | true =>
    have hg := h.1.1 ho
    rw [ho, if_pos rfl] at hz
    rw [ho, if_pos rfl] at HP
    rw [HP.out]
    simp only
    rw [hz] at hy
    clear h hz HP
    go_enter Tryd.func84, Tryd.ntmps84
    go_wp2
    refine bodyPost_ret (v := .agg #[.bool true, .int .i64 (r.f + x), .int .i64 (r.f + y), .string ⟨#[]⟩]) (by simp [results, Tryd.results84, go_sem]) rfl ⟨rfl, ?_⟩
    go_grown
  | false =>
    have hs := h.2
    rw [ho, if_neg (by simp)] at hz
    rw [ho, if_neg (by simp)] at HP
    rw [HP.out]
    simp only
    rw [hz] at hy
    have hxy' : x ≤ y := by omega
    clear h hz HP
    go_enter Tryd.func84, Tryd.ntmps84
    go_wp2
    refine bodyPost_ret (v := .agg #[.bool false, .int .i64 0, .int .i64 0, .string (r.s.extract x.toNat y.toNat)]) (by simp [results, Tryd.results84, go_sem]) rfl ⟨rfl, ?_⟩
    go_grown

theorem szs_drop {l : List Rn} {k : Nat} {r : Rn} (h : l[k]? = some r) : szs (l.drop k) = rsz r + szs (l.drop (k + 1)) := by rw [drop_get h, szs]
theorem szs_ge {l : List Rn} (h : ∀ r ∈ l, RnF r) : 0 ≤ szs l := by
  induction l with
  | nil => exact Int.le_refl _
  | cons r l ih => have := rsz_bound (h r (by simp)); have := ih (fun q hq => h q (by simp [hq])); rw [szs]; omega

set_option maxRecDepth 1000000 in
set_option maxHeartbeats 2000000 in
theorem Size_any (a : Option Addr) (c : Nat) (l : List Rn) (w : World) (h : RnA w a l) (hF : ∀ r ∈ l, RnF r) (hl : l.length ≤ 140737488351232) (hS : szs l ≤ 4611686018428436480) :
    Calls Tryd.prog 64 #[.slice a l.length c] w fun e w' => e = .returned (.int .i64 (szs l)) ∧ Below w.heap.size w w' := by
  have HF : Hid (∀ r ∈ l, RnF r) := hF
  have H : Hid (RnA w a l) := h
  obtain ⟨Z, hZ⟩ : ∃ Z, szs l = Z := ⟨_, rfl⟩
  rw [hZ] at hS
  have HZ : Hid (szs l = Z) := hZ
  rw [hZ]
  clear h hF hZ
  go_enter Tryd.func64, Tryd.ntmps64
  go_wp2
  go_loopg [3, 4] l.length (fun gk sn si wr => ∃ (k : Nat) (n : Int), gk = l.length - k ∧ k ≤ l.length ∧ si = .int .i64 (k : Int) ∧ sn = .int .i64 n ∧ 0 ≤ n ∧ n + szs (l.drop k) = Z ∧ Below w.heap.size w wr)
  case atStart => exact ⟨0, 0, by omega, Nat.zero_le _, rfl, rfl, Int.le_refl _, by simpa using HZ.out, Below.refl _ _⟩
  case round =>
    obtain ⟨k, n, rfl, hk, rfl, rfl, hn0, hn, hbel⟩ := hrel
    have HB : Hid (Below w.heap.size w wr) := hbel
    clear hbel
    by_cases hlt : k < l.length
    · have hlt' : (k : Int) < (l.length : Int) := by omega
      obtain ⟨r, hr⟩ : ∃ r, l[k]? = some r := ⟨_, List.getElem?_eq_getElem hlt⟩
      have hrF := HF.out r (List.mem_of_getElem? hr)
      have HRF : Hid (RnF r) := hrF
      have hb := rsz_bound hrF
      have h2 := szs_drop hr
      have h3 := szs_ge (l := l.drop (k + 1)) (fun q hq => HF.out q (List.mem_of_mem_drop hq))
      obtain ⟨ba, oa, hab, hE⟩ : ∃ ba oa, a = some ⟨ba, oa, none⟩ ∧ Rns w ba oa l := by
        rcases H.out with h0 | h0
        · rw [h0] at hlt; simp at hlt
        · exact h0
      subst hab
      obtain ⟨c0, c1, c2, c3⟩ := hE.cells HB.out hr
      rw [h2] at hn
      have HN : Hid (n + (rsz r + szs (l.drop (k + 1))) = Z) := hn
      have hnz : n + rsz r ≤ 4611686018428436480 := by omega
      clear hn h2 hE hr h3
      go_wp2_with (first | (go_at_call 83; (refine (rsize_any r _ HRF.out).mono ?_); rintro e w3 ⟨rfl, hb3⟩; have HB3 : Hid (Below w.heap.size w w3) := HB.out.trans (hb3.mono HB.out.size); clear hb3))
      go_roundg (l.length - (k + 1))
      case measure => omega
      case rel => exact ⟨k + 1, n + rsz r, rfl, by omega, by go_num, by go_num, by omega, by have := HN.out; omega, HB3.out⟩
    · have hge : ¬ (k : Int) < (l.length : Int) := by omega
      have hz : n = Z := by
        rw [List.drop_eq_nil_of_le (by omega)] at hn
        simpa [szs] using hn
      subst hz
      clear hn
      go_wp2
      go_ret
      exact ⟨rfl, HB.out⟩
end Go.Proofs.YteolfolkolpehaaDoor
