import Derived.Test.YteolfolkolpehaaDoorAp
import Derived.Laws.OwnMore
namespace Go.Proofs.YteolfolkolpehaaDoor
open Go.ChangeShapes Go.WideShapes Go.ChangeAt Go.RowKit
set_option linter.unusedVariables false

structure Rn where
  old : Bool
  f : Int
  t : Int
  s : ByteArray

def Rns (w : World) (b o : Nat) (rs : List Rn) : Prop :=
  b < w.heap.size ∧ ∀ i (r : Rn), rs[i]? = some r → w.cell? ⟨b, o + i * 4, none⟩ = some (.bool r.old) ∧ w.cell? ⟨b, o + i * 4 + 1, none⟩ = some (.int .i64 r.f) ∧ w.cell? ⟨b, o + i * 4 + 2, none⟩ = some (.int .i64 r.t) ∧ w.cell? ⟨b, o + i * 4 + 3, none⟩ = some (.string r.s)

def RnA (w : World) (a : Option Addr) (rs : List Rn) : Prop := rs = [] ∨ ∃ b o, a = some ⟨b, o, none⟩ ∧ Rns w b o rs

theorem Rns.below {B : Nat} {w w' : World} {b o : Nat} {xs : List Rn} (h : Rns w b o xs) (hb : Below B w w') (hB : b < B) : Rns w' b o xs := by
  refine ⟨Nat.lt_of_lt_of_le h.1 hb.size, fun i e he => ?_⟩
  obtain ⟨h0, h1, h2, h3⟩ := h.2 i e he
  exact ⟨(hb.cell (p := ⟨b, _, none⟩) hB).trans h0, (hb.cell (p := ⟨b, _, none⟩) hB).trans h1, (hb.cell (p := ⟨b, _, none⟩) hB).trans h2, (hb.cell (p := ⟨b, _, none⟩) hB).trans h3⟩

theorem RnA.below {w w' : World} {a : Option Addr} {xs : List Rn} (h : RnA w a xs) (hb : Below w.heap.size w w') : RnA w' a xs := by
  rcases h with h | ⟨b, o, ha, h⟩
  · exact .inl h
  · exact .inr ⟨b, o, ha, h.below hb h.1⟩

def flatR (xs : List Rn) : List Value := xs.flatMap fun e => [.bool e.old, .int .i64 e.f, .int .i64 e.t, .string e.s]

theorem flatR_cons (e : Rn) (r : List Rn) : flatR (e :: r) = .bool e.old :: .int .i64 e.f :: .int .i64 e.t :: .string e.s :: flatR r := by simp [flatR]
theorem flatR_length (xs : List Rn) : (flatR xs).length = xs.length * 4 := by
  induction xs with
  | nil => rfl
  | cons e r ih => rw [flatR_cons]; simp [ih]; omega
theorem flatR_append (xs ys : List Rn) : flatR (xs ++ ys) = flatR xs ++ flatR ys := by simp [flatR]
theorem flatR_get (xs : List Rn) (i r : Nat) (hr : r < 4) : (flatR xs)[i * 4 + r]? = (xs[i]?).map fun e => if r = 0 then .bool e.old else if r = 1 then .int .i64 e.f else if r = 2 then .int .i64 e.t else .string e.s := by
  induction xs generalizing i with
  | nil => simp [flatR]
  | cons e t ih =>
    rw [flatR_cons]
    match i with
    | 0 => match r, hr with
      | 0, _ => simp
      | 1, _ => simp
      | 2, _ => simp
      | 3, _ => simp
    | i + 1 =>
      rw [show (i + 1) * 4 + r = (i * 4 + r) + 4 by omega]
      simpa using ih i
theorem flatR_oneCell (xs : List Rn) : ∀ u ∈ flatR xs, u.oneCell' = true := by
  intro u hu
  simp only [flatR, List.mem_flatMap] at hu
  obtain ⟨e, _, h⟩ := hu
  simp at h
  rcases h with rfl | rfl | rfl | rfl <;> rfl
theorem add_none (b o j : Nat) : (⟨b, o, none⟩ : Addr).add j = ⟨b, o + j, none⟩ := by
  unfold Addr.add; by_cases hz : j = 0 <;> simp [hz]
theorem Rns.flat {w : World} {b o : Nat} {xs : List Rn} (h : Rns w b o xs) : ∀ j u, (flatR xs)[j]? = some u → w.cell? ((⟨b, o, none⟩ : Addr).add j) = some u := by
  intro j u hj
  have e : j = j / 4 * 4 + j % 4 := by omega
  rw [e, flatR_get xs _ _ (by omega)] at hj
  obtain ⟨x, hx, hu⟩ := Option.map_eq_some_iff.1 hj
  obtain ⟨h0, h1, h2, h3⟩ := h.2 _ _ hx
  rw [add_none]
  have h4 : j % 4 < 4 := by omega
  generalize j / 4 = q at *
  generalize j % 4 = r at *
  subst e
  match r, h4 with
  | 0, _ => simp at hu; subst hu; simpa using h0
  | 1, _ => simp at hu; subst hu; simpa [Nat.add_assoc] using h1
  | 2, _ => simp at hu; subst hu; simpa [Nat.add_assoc] using h2
  | 3, _ => simp at hu; subst hu; simpa [Nat.add_assoc] using h3
theorem Rns.of_flat {w : World} {b o : Nat} {xs : List Rn} (hb : b < w.heap.size) (h : ∀ j u, (flatR xs)[j]? = some u → w.cell? ((⟨b, o, none⟩ : Addr).add j) = some u) : Rns w b o xs := by
  refine ⟨hb, fun i e he => ⟨?_, ?_, ?_, ?_⟩⟩
  · have := h (i * 4 + 0) (.bool e.old) (by rw [flatR_get xs i 0 (by omega), he]; rfl)
    rw [add_none] at this; simpa using this
  · have := h (i * 4 + 1) (.int .i64 e.f) (by rw [flatR_get xs i 1 (by omega), he]; rfl)
    rw [add_none] at this; simpa [Nat.add_assoc] using this
  · have := h (i * 4 + 2) (.int .i64 e.t) (by rw [flatR_get xs i 2 (by omega), he]; rfl)
    rw [add_none] at this; simpa [Nat.add_assoc] using this
  · have := h (i * 4 + 3) (.string e.s) (by rw [flatR_get xs i 3 (by omega), he]; rfl)
    rw [add_none] at this; simpa [Nat.add_assoc] using this

theorem own_formR {w : World} {base e n : Nat} {v : Value} {xs : List Rn} (h : w.ownsRow base e 4 v n (flatR xs)) : ∃ a cap, v = .slice a n cap ∧ RnA w a xs ∧ n = xs.length ∧ (a = none → n = 0 ∧ cap = 0) := by
  have hn : n = xs.length := by have := h.1; rw [flatR_length] at this; omega
  rcases h.2 with ⟨h1, h2⟩ | ⟨g, cap, cur, hv, hg, hh, r⟩
  · refine ⟨none, 0, by rw [h1, h2], .inl (List.eq_nil_of_length_eq_zero (by omega)), hn, fun _ => ⟨h2, rfl⟩⟩
  · subst hv
    exact ⟨some ⟨g, 0, none⟩, cap, rfl, .inr ⟨g, 0, rfl, Rns.of_flat (h.lt g rfl).2 (h.cells rfl)⟩, hn, fun h => by cases h⟩

/-- 'append' onto a slice of the call's own, which may grow, from whatever source: nil, or one that lies somewhere -/
theorem wpList_append_own_any {P : Program} (w : World) {ops : Array Oper} {rest : List Oper} {o : Oper} {a : Act} {Q : Exit → Act → World → Prop} (hgd : o.guard = none) (s x : Operand) (t : TypeId)
    (ho : o.op = .call { callee := .builtin .append, args := #[s, x], argTypes := #[t, t] })
    (base : Nat) (e : TypeId) (i : TypeInfo) (z : Value) (size bytes : Nat) (ht : P.underlying t = some (.slice e)) (hi : P.info? e = some i) (hz : i.zero = some z)
    (hsize : i.size = size) (hby : i.bytes = bytes) (hzs : z.cells.size = size) (hsz : 0 < size)
    (v : Value) (n : Nat) (xs : List Value) (hs : a.eval s = v) (hown : w.ownsRow base e size v n xs)
    (ao : Option Addr) (m c : Nat) (news : List Value) (hx : a.eval x = .slice ao m c) (hl : news.length = m * size) (hnone : ao = none → m = 0 ∧ c = 0)
    (hnews : ∀ ad, ao = some ad → ∀ j u, news[j]? = some u → w.cell? (ad.add j) = some u) (h1 : ∀ u ∈ news, u.oneCell' = true)
    (h63 : n + m ≤ maxLen) (hbytes : (n + m) * bytes ≤ 140737488355328) (hbase : base ≤ w.heap.size)
    (h : ∀ v' w', w'.ownsRow base e size v' (n + m) (xs ++ news) → w.grownBy w' v.ownBlock → wpList P ops Q rest (a.put o.dst v') w') : wpList P ops Q (o :: rest) a w := by
  cases ao with
  | some ad => exact wpList_append_own w hgd s x t ho base e i z size bytes ht hi hz hsize hby hzs hsz v n xs hs hown ad m c news hx hl (hnews ad rfl) h1 h63 hbytes hbase (fun v' w' h2 h3 _ => h v' w' h2 h3)
  | none =>
    obtain ⟨rfl, rfl⟩ := hnone rfl
    have hn : news = [] := List.eq_nil_of_length_eq_zero (by simpa using hl)
    subst hn
    refine wpList_plain hgd fun K hK' => ?_
    have hrun := run_append_owned_none (P := P) w base t o.type e i size ht hi v n xs hown
    unfold Oper.wp
    simp [execOp, ho, resolve, invoke, builtin, hs, hx, hrun, Result.andThen]
    exact hK' _ _ (h v w (by simpa using hown) (World.grownBy.refl _ _))

theorem RnA.news {w : World} {a : Option Addr} {rs : List Rn} (h : RnA w a rs) : ∀ ad, a = some ad → ∀ j u, (flatR rs)[j]? = some u → w.cell? (ad.add j) = some u := by
  intro ad had j u hj
  rcases h with rfl | ⟨b, o, rfl, h⟩
  · simp [flatR] at hj
  · cases had; exact h.flat j u hj

/-- the row of a whole old text; what is kept of it; what a list of edits makes of it -/
def wh (n : Nat) : List Rn := if n = 0 then [] else [⟨true, 0, n, ⟨#[]⟩⟩]
def kp (x y : Nat) : List Rn := if x < y then [⟨true, x, y, ⟨#[]⟩⟩] else []
def dn (n : Nat) : Nat → List Ed → List Rn
  | a, [] => kp a n
  | a, e :: r => kp a e.f.toNat ++ (⟨false, 0, 0, e.s⟩ :: dn n e.t.toNat r)

def sd (tx : List UInt8) : List Rn → List UInt8
  | [] => []
  | r :: rs => (if r.old then (tx.drop r.f.toNat).take (r.t.toNat - r.f.toNat) else r.s.data.toList) ++ sd tx rs

theorem sd_append (tx : List UInt8) (a b : List Rn) : sd tx (a ++ b) = sd tx a ++ sd tx b := by
  induction a with
  | nil => rfl
  | cons r rs ih => simp only [List.cons_append, sd, ih, List.append_assoc]

theorem sd_kp (tx : List UInt8) (x y : Nat) : sd tx (kp x y) = (tx.drop x).take (y - x) := by
  unfold kp
  by_cases h : x < y
  · rw [if_pos h]; simp [sd]
  · rw [if_neg h, show y - x = 0 by omega]; simp [sd]

theorem sd_dn {tx : List UInt8} (n a : Nat) (xs : List Ed) (hn : tx.length ≤ n) : sd tx (dn n a xs) = appF tx a xs := by
  induction xs generalizing a with
  | nil =>
    rw [dn, appF, sd_kp, List.take_of_length_le]
    rw [List.length_drop]; omega
  | cons e r ih =>
    rw [dn, appF, sd_append, sd_kp, sd, ih]
    simp

theorem kp_len (x y : Nat) : (kp x y).length ≤ 1 := by
  unfold kp; by_cases h : x < y
  · rw [if_pos h]; simp
  · rw [if_neg h]; simp

theorem dn_len (n a : Nat) (xs : List Ed) : (dn n a xs).length ≤ 2 * xs.length + 1 := by
  induction xs generalizing a with
  | nil => rw [dn]; have := kp_len a n; simp; omega
  | cons e r ih =>
    rw [dn]
    have := kp_len a e.f.toNat
    have := ih e.t.toNat
    simp only [List.length_append, List.length_cons]
    omega

/-- the runs lie in the text -/
def RnIn (n : Nat) (r : Rn) : Prop := 0 ≤ r.f ∧ r.f ≤ r.t ∧ r.t ≤ (n : Int)
theorem kp_in {n x y : Nat} (h : y ≤ n) : ∀ r ∈ kp x y, RnIn n r := by
  intro r hr
  unfold kp at hr
  by_cases hc : x < y
  · rw [if_pos hc] at hr
    rw [List.mem_singleton] at hr
    subst hr
    exact ⟨by simp, by simp; omega, by simp; omega⟩
  · rw [if_neg hc] at hr; cases hr
theorem dn_in {n a : Nat} {xs : List Ed} (h : ∀ e ∈ xs, e.f ≤ (n : Int)) : ∀ r ∈ dn n a xs, RnIn n r := by
  induction xs generalizing a with
  | nil => rw [dn]; exact kp_in (Nat.le_refl _)
  | cons e r ih =>
    intro x hx
    rw [dn, List.mem_append, List.mem_cons] at hx
    rcases hx with hx | hx | hx
    · exact kp_in (by have := h e (List.mem_cons_self ..); omega) x hx
    · subst hx; exact ⟨by simp, by simp, by simp⟩
    · exact ih (fun y hy => h y (List.mem_cons_of_mem _ hy)) x hx
end Go.Proofs.YteolfolkolpehaaDoor

namespace Go.Proofs.YteolfolkolpehaaDoor
open Go.ChangeShapes Go.WideShapes Go.ChangeAt Go.RowKit
set_option linter.unusedVariables false

theorem infoU8 : (Tryd.prog.info? 5).map (fun i => (i.zero, i.size, i.bytes)) = some (some (.int .u8 0), 1, 1) := by kernel_rfl

set_option maxHeartbeats 800000 in
theorem growth_any (b o cap : Nat) (xs : List Ed) (w : World) (h : Eds w b o xs) (hl : xs.length ≤ maxLen) (hF : ∀ e ∈ xs, EdFit e) (hK : ∀ e ∈ xs, 0 ≤ e.f ∧ e.f ≤ e.t ∧ e.t ≤ 4611686018427387904) :
    Calls Tryd.prog 34 #[.slice (some ⟨b, o, none⟩) xs.length cap] w fun e w' => e = .returned (.int .i64 (wrap64 (grw xs))) ∧ Below w.heap.size w w' := by
  have HX : Hid (Eds w b o xs) := h
  have HF : Hid (∀ e ∈ xs, EdFit e) := hF
  have HK : Hid (∀ e ∈ xs, 0 ≤ e.f ∧ e.f ≤ e.t ∧ e.t ≤ 4611686018427387904) := hK
  have hbw : b < w.heap.size := h.1
  unfold maxLen at hl
  clear h hF hK
  go_enter Tryd.func34, Tryd.ntmps34
  go_wp2
  go_loopw [3, 8] (fun mv i wr => ∃ k : Nat, k ≤ xs.length ∧ i = .int .i64 k ∧ Below w.heap.size w wr ∧ ∃ m : Int, mv = .int .i64 (wrap64 m) ∧ grw xs = m + grw (xs.drop k)) (fun _ i _ => xs.length - (intOf i).toNat)
  case atStart => exact ⟨0, Nat.zero_le _, rfl, Below.refl _ _, 0, by rw [wrap64_zero], by simp⟩
  case round =>
    obtain ⟨k, hk, rfl, hbel, m, rfl, hc⟩ := hrel
    have HC : Hid (grw xs = m + grw (xs.drop k)) := hc
    have hsz := hbel.size
    clear hc
    by_cases hlt : k < xs.length
    · obtain ⟨e, he⟩ : ∃ e, xs[k]? = some e := ⟨_, List.getElem?_eq_getElem hlt⟩
      obtain ⟨c0, c1, c2⟩ := HX.out.cells hbel he
      have hmem : e ∈ xs := List.mem_of_getElem? he
      obtain ⟨q1, q2, q3⟩ := HK.out e hmem
      have q4 := (HF.out e hmem).2.2.2.2
      have HS : Hid (grw xs = (m + ((e.s.size : Int) - (e.t - e.f))) + grw (xs.drop (k + 1))) := by
        unfold Hid; rw [HC.out, grw_drop he]; omega
      clear he hmem
      go_wp2
      go_roundw
      case rel => exact ⟨k + 1, by omega, by go_num, by (repeat (with_reducible refine below_drewN ?_ _)); go_grown, m + ((e.s.size : Int) - (e.t - e.f)), by rw [wrap64_left], HS.out⟩
      case measure => simp [intOf]; omega
    · have HG : Hid (grw xs = m) := by unfold Hid; rw [HC.out, List.drop_eq_nil_of_le (by omega), grw]; omega
      go_wp2
      go_ret
      exact ⟨ret_i64 (by rw [HG.out]), by (repeat (with_reducible refine below_drewN ?_ _)); go_grown⟩

set_option maxRecDepth 1000000 in
set_option maxHeartbeats 2000000 in
theorem apply_any (tx : ByteArray) (b o cap : Nat) (xs : List Ed) (w : World) (hx : tx.size ≤ 140737488351232) (h : Eds w b o xs) (hl : xs.length ≤ maxLen) (hF : ∀ e ∈ xs, EdFit e) (hv : vld tx.size xs = 0) (hB : tx.size + tots xs ≤ 70368744177664) :
    Calls Tryd.prog 15 #[.string tx, .slice (some ⟨b, o, none⟩) xs.length cap] w fun e w' => e = .returned (.tuple #[.string ⟨(appF tx.data.toList 0 xs).toArray⟩, .int .i64 0]) ∧ Below w.heap.size w w' := by
  obtain ⟨i0, hi, hz0, hz1, hz2⟩ := info_parts infoU8
  have hck := (vld_chk hv).1
  obtain ⟨hlen, hgr⟩ := app_bound hck
  have hlen0 := (vld_chk hv).2
  have HX : Hid (Eds w b o xs) := h
  have HF : Hid (∀ e ∈ xs, EdFit e) := hF
  have hbw : b < w.heap.size := h.1
  have HV : Hid (val62 tx.size xs = 0) := by unfold Hid val62; rw [if_pos (by omega)]; exact hv
  have HK : Hid (∀ e ∈ xs, 0 ≤ e.f ∧ e.f ≤ e.t ∧ e.t ≤ (tx.size : Int)) := chk_ok hck
  have HCK : Hid (chk tx.size 0 xs = 0) := hck
  have HL : Hid (xs.length ≤ maxLen) := hl
  obtain ⟨N, hN⟩ : ∃ N : Nat, N = (appF tx.data.toList 0 xs).length := ⟨_, rfl⟩
  have HG : Hid (wrap64 (grw xs) = (N : Int) - tx.size) := by
    unfold Hid; rw [hN, hlen, IntWalk.wrap64_in _ ⟨by omega, by omega⟩]; omega
  have hNb : N ≤ 70368744177664 := by omega
  have HNe : Hid (N = (appF tx.data.toList 0 xs).length) := hN
  clear h hF hv hlen hgr hck hN hl hB
  go_enter Tryd.func15, Tryd.ntmps15
  go_wp2_with (first | (go_at_call 33; refine (valid_all tx.size _ cap xs _ (by omega) (by omega) (.inr ⟨b, o, rfl, HX.out⟩) HL.out).mono ?_; rintro e w1 ⟨rfl, hb1⟩; rw [HV.out]) | (go_at_call 34; refine (growth_any b o cap xs _ (HX.out.below hb1 HX.out.1) HL.out HF.out (fun e he => ⟨(HK.out e he).1, (HK.out e he).2.1, Int.le_trans (HK.out e he).2.2 (by omega)⟩)).mono ?_; rintro e w2 ⟨rfl, hb2⟩; rw [HG.out]) | (at_make; refine wpList_make_own _ rfl _ _ 59 rfl w.heap.size 5 i0 (.int .u8 0) 1 Tryd.underlying59 hi hz0 hz1 _ _ _ N rfl rfl ?_ ?_ ?_ ?_ ?_) | go_in)
  case refine_1 => omega
  case refine_2 => rw [hz2]; omega
  case refine_3 => unfold maxLen; omega
  case refine_4 => exact Nat.le_trans hb1.size hb2.size
  intro w3 hown3 hgrow3
  have hb12 : Below w.heap.size w w2 := hb1.trans (hb2.mono hb1.size)
  have hb3 : Below w.heap.size w w3 := hb12.grown hgrow3 hb12.size (fun k h => by cases h)
  clear hgrow3 hb1 hb2 hb12
  go_wp2
  go_loopg [7, 8, 26] xs.length (fun gk v sa i wr => ∃ (k a : Nat) (p : List UInt8) (L : Int), gk = xs.length - k ∧ k ≤ xs.length ∧ i = .int .i64 k ∧ sa = .int .i64 a ∧ a ≤ tx.size ∧ (a : Int) ≤ L ∧ chk tx.size L (xs.drop k) = 0 ∧ Below w.heap.size w wr ∧ wr.ownsRow w.heap.size 5 1 v p.length (bc p) ∧ p ++ appF tx.data.toList a (xs.drop k) = appF tx.data.toList 0 xs)
  case atStart => exact ⟨0, 0, [], 0, by omega, Nat.zero_le _, rfl, rfl, Nat.zero_le _, by omega, by simpa using HCK.out, hb3, hown3, by simp⟩
  case round =>
    clear hown3 hb3
    obtain ⟨k, a, p, L, rfl, hk, rfl, rfl, ha, haL, hck, hbel, hown, hp⟩ := hrel
    have hsz := hbel.size
    have hlt1 : Hid (∀ k, u7.ownBlock = some k → w.heap.size ≤ k ∧ k < wr.heap.size) := hown.lt
    have HO : Hid (wr.ownsRow w.heap.size 5 1 u7 p.length (bc p)) := hown
    have HP : Hid (p ++ appF tx.data.toList a (xs.drop k) = appF tx.data.toList 0 xs) := hp
    have HC : Hid (chk tx.size L (xs.drop k) = 0) := hck
    clear hown hp hck
    by_cases hlt : k < xs.length
    · obtain ⟨e, he⟩ : ∃ e, xs[k]? = some e := ⟨_, List.getElem?_eq_getElem hlt⟩
      obtain ⟨c0, c1, c2⟩ := HX.out.cells hbel he
      have hmem : e ∈ xs := List.mem_of_getElem? he
      obtain ⟨_, _, _, hLe, hnext⟩ := chk_cons (by rw [← drop_get he]; exact HC.out)
      obtain ⟨f, t, hee, hft, ht⟩ := nat_ed2 (HK.out e hmem)
      generalize e.s = s at *
      subst hee
      simp only at c0 c1 c2 hLe hnext
      have HS : Hid ((p ++ (tx.extract a f).data.toList ++ s.data.toList) ++ appF tx.data.toList t (xs.drop (k + 1)) = appF tx.data.toList 0 xs) := app_step he HP.out
      have haf : a ≤ f := by omega
      have e1 : (tx.extract a f).size = f - a := by simp; omega
      have hbd : p.length + (f - a) + s.size ≤ N := by
        have h1 := congrArg List.length HS.out
        rw [← HNe.out] at h1
        simp only [List.length_append, bytes_len, e1] at h1
        omega
      have HNX : Hid (chk tx.size ((t : Int) + 1) (xs.drop (k + 1)) = 0) := hnext
      clear he hmem hnext
      have haf' : (a : Int) ≤ (f : Int) := by omega
      have hft' : (f : Int) ≤ (tx.size : Int) := by omega
      go_wp2_with (at_builtin; (refine Lib.wpList_append_own_string _ rfl (.tmp 30) (.tmp 35) 59 9 rfl w.heap.size 5 i0 Tryd.underlying59 Tryd.underlying9 hi hz0 hz1 hz2 _ _ _ rfl (HO.out.alloc _) (tx.extract a f) rfl ?_ ?_ ?_ ?_))
      case refine_1 => unfold maxLen; omega
      case refine_2 => omega
      case refine_3 => omega
      intro v4 w4 hown4 hgrow4 _
      rw [bc_str, ← bc_append] at hown4
      have hbx4 : Box w4 wr.heap.size f t s := (Box.new wr f t s).grown hgrow4 (fun h => by have := (hlt1.out _ h).2; omega)
      have hbel4 : Below w.heap.size w w4 := (hbel.alloc hsz _).grown hgrow4 (by simp; omega) (fun k h => (hlt1.out k h).1)
      have hne4 : Hid (v4.ownBlock ≠ some wr.heap.size) := own_ne_box hown4 hbx4 (by decide)
      have hlt4 : Hid (∀ k, v4.ownBlock = some k → w.heap.size ≤ k ∧ k < w4.heap.size) := hown4.lt
      have HO4 : Hid (w4.ownsRow w.heap.size 5 1 v4 (p.length + (f - a)) (bc (p ++ (tx.extract a f).data.toList))) := hown4
      have HBX4 : Hid (Box w4 wr.heap.size f t s) := hbx4
      have HB4 : Hid (Below w.heap.size w w4) := hbel4
      have d2 := hbx4.c2
      have hsz4 := hbel4.size
      clear hown4 hgrow4 hbx4 hbel4 c0 c1 c2
      go_wp2_with (at_builtin; (refine Lib.wpList_append_own_string _ rfl (.tmp 37) (.tmp 39) 59 9 rfl w.heap.size 5 i0 Tryd.underlying59 Tryd.underlying9 hi hz0 hz1 hz2 _ _ _ rfl HO4.out s rfl ?_ ?_ ?_ ?_))
      case refine_1 => unfold maxLen; omega
      case refine_2 => omega
      case refine_3 => omega
      intro v5 w5 hown5 hgrow5 _
      rw [bc_str, ← bc_append] at hown5
      have hbx5 : Box w5 wr.heap.size f t s := HBX4.out.grown hgrow5 hne4.out
      have hbel5 : Below w.heap.size w w5 := HB4.out.grown hgrow5 hsz4 (fun k h => (hlt4.out k h).1)
      have d1 := hbx5.c1
      have hl5 : p.length + (f - a) + s.size = (p ++ (tx.extract a f).data.toList ++ s.data.toList).length := by
        simp only [List.length_append, bytes_len, e1]
      have HO5 : Hid (w5.ownsRow w.heap.size 5 1 v5 (p ++ (tx.extract a f).data.toList ++ s.data.toList).length (bc (p ++ (tx.extract a f).data.toList ++ s.data.toList))) := by unfold Hid; rw [← hl5, Lib.extract_data]; exact hown5
      have HB5 : Hid (Below w.heap.size w w5) := hbel5
      clear hown5 hgrow5 hbx5 hbel5 hl5 e1 HO4 HB4 HBX4
      go_wp2
      go_roundg (xs.length - (k + 1))
      case measure => omega
      case rel => exact ⟨k + 1, t, _, (t : Int) + 1, rfl, by omega, by go_num, rfl, ht, by omega, HNX.out, HB5.out, HO5.out, HS.out⟩
    · have hend := app_end hlt HP.out
      have hEL : (tx.extract a tx.size).size = tx.size - a := by simp
      have hbd : p.length + (tx.size - a) ≤ N := by
        have h1 := congrArg List.length hend
        rw [← HNe.out, List.length_append, bytes_len, hEL] at h1
        omega
      have HE : Hid (p ++ (tx.extract a tx.size).data.toList = appF tx.data.toList 0 xs) := hend
      clear hend
      go_wp2_with (at_builtin; (refine Lib.wpList_append_own_string _ rfl (.tmp 44) (.tmp 47) 59 9 rfl w.heap.size 5 i0 Tryd.underlying59 Tryd.underlying9 hi hz0 hz1 hz2 _ _ _ rfl HO.out (tx.extract a tx.size) rfl ?_ ?_ ?_ ?_))
      case refine_1 => unfold maxLen; omega
      case refine_2 => omega
      case refine_3 => omega
      intro v4 w4 hown4 hgrow4 _
      rw [bc_str, ← bc_append, HE.out] at hown4
      have hbel4 : Below w.heap.size w w4 := hbel.grown hgrow4 hsz (fun k h => (hlt1.out k h).1)
      have hconv : (convert 59 9 v4).run Tryd.prog w4 = .ok (.string ⟨(appF tx.data.toList 0 xs).toArray⟩) w4 := own_string_any hown4
      clear hown4 hgrow4
      go_wp2
      go_ret2
      exact ⟨rfl, hbel4⟩
end Go.Proofs.YteolfolkolpehaaDoor
