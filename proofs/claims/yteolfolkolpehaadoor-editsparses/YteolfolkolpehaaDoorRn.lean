import Derived.Test.YteolfolkolpehaaDoorAp
import Derived.Laws.OwnMore
namespace Go.Proofs.YteolfolkolpehaaDoor
open Go.ChangeShapes Go.WideShapes Go.ChangeAt Go.RowKit
set_option linter.unusedVariables false

structure Rn where
  old : Bool
  f : Int
  t : Int
  s : ByteArray

def Rns (w : World) (b o : Nat) (rs : List Rn) : Prop :=
  b < w.heap.size ∧ ∀ i (r : Rn), rs[i]? = some r → w.cell? ⟨b, o + i * 4, none⟩ = some (.bool r.old) ∧ w.cell? ⟨b, o + i * 4 + 1, none⟩ = some (.int .i64 r.f) ∧ w.cell? ⟨b, o + i * 4 + 2, none⟩ = some (.int .i64 r.t) ∧ w.cell? ⟨b, o + i * 4 + 3, none⟩ = some (.string r.s)

def RnA (w : World) (a : Option Addr) (rs : List Rn) : Prop := rs = [] ∨ ∃ b o, a = some ⟨b, o, none⟩ ∧ Rns w b o rs

theorem Rns.below {B : Nat} {w w' : World} {b o : Nat} {xs : List Rn} (h : Rns w b o xs) (hb : Below B w w') (hB : b < B) : Rns w' b o xs := by
  refine ⟨Nat.lt_of_lt_of_le h.1 hb.size, fun i e he => ?_⟩
  obtain ⟨h0, h1, h2, h3⟩ := h.2 i e he
  exact ⟨(hb.cell (p := ⟨b, _, none⟩) hB).trans h0, (hb.cell (p := ⟨b, _, none⟩) hB).trans h1, (hb.cell (p := ⟨b, _, none⟩) hB).trans h2, (hb.cell (p := ⟨b, _, none⟩) hB).trans h3⟩

theorem RnA.below {w w' : World} {a : Option Addr} {xs : List Rn} (h : RnA w a xs) (hb : Below w.heap.size w w') : RnA w' a xs := by
  rcases h with h | ⟨b, o, ha, h⟩
  · exact .inl h
  · exact .inr ⟨b, o, ha, h.below hb h.1⟩

def flatR (xs : List Rn) : List Value := xs.flatMap fun e => [.bool e.old, .int .i64 e.f, .int .i64 e.t, .string e.s]

theorem flatR_cons (e : Rn) (r : List Rn) : flatR (e :: r) = .bool e.old :: .int .i64 e.f :: .int .i64 e.t :: .string e.s :: flatR r := by simp [flatR]
theorem flatR_length (xs : List Rn) : (flatR xs).length = xs.length * 4 := by
  induction xs with
  | nil => rfl
  | cons e r ih => rw [flatR_cons]; simp [ih]; omega
theorem flatR_append (xs ys : List Rn) : flatR (xs ++ ys) = flatR xs ++ flatR ys := by simp [flatR]
theorem flatR_get (xs : List Rn) (i r : Nat) (hr : r < 4) : (flatR xs)[i * 4 + r]? = (xs[i]?).map fun e => if r = 0 then .bool e.old else if r = 1 then .int .i64 e.f else if r = 2 then .int .i64 e.t else .string e.s := by
  induction xs generalizing i with
  | nil => simp [flatR]
  | cons e t ih =>
    rw [flatR_cons]
    match i with
    | 0 => match r, hr with
      | 0, _ => simp
      | 1, _ => simp
      | 2, _ => simp
      | 3, _ => simp
    | i + 1 =>
      rw [show (i + 1) * 4 + r = (i * 4 + r) + 4 by omega]
      simpa using ih i
theorem flatR_oneCell (xs : List Rn) : ∀ u ∈ flatR xs, u.oneCell' = true := by
  intro u hu
  simp only [flatR, List.mem_flatMap] at hu
  obtain ⟨e, _, h⟩ := hu
  simp at h
  rcases h with rfl | rfl | rfl | rfl <;> rfl
theorem add_none (b o j : Nat) : (⟨b, o, none⟩ : Addr).add j = ⟨b, o + j, none⟩ := by
  unfold Addr.add; by_cases hz : j = 0 <;> simp [hz]
theorem Rns.flat {w : World} {b o : Nat} {xs : List Rn} (h : Rns w b o xs) : ∀ j u, (flatR xs)[j]? = some u → w.cell? ((⟨b, o, none⟩ : Addr).add j) = some u := by
  intro j u hj
  have e : j = j / 4 * 4 + j % 4 := by omega
  rw [e, flatR_get xs _ _ (by omega)] at hj
  obtain ⟨x, hx, hu⟩ := Option.map_eq_some_iff.1 hj
  obtain ⟨h0, h1, h2, h3⟩ := h.2 _ _ hx
  rw [add_none]
  have h4 : j % 4 < 4 := by omega
  generalize j / 4 = q at *
  generalize j % 4 = r at *
  subst e
  match r, h4 with
  | 0, _ => simp at hu; subst hu; simpa using h0
  | 1, _ => simp at hu; subst hu; simpa [Nat.add_assoc] using h1
  | 2, _ => simp at hu; subst hu; simpa [Nat.add_assoc] using h2
  | 3, _ => simp at hu; subst hu; simpa [Nat.add_assoc] using h3
theorem Rns.of_flat {w : World} {b o : Nat} {xs : List Rn} (hb : b < w.heap.size) (h : ∀ j u, (flatR xs)[j]? = some u → w.cell? ((⟨b, o, none⟩ : Addr).add j) = some u) : Rns w b o xs := by
  refine ⟨hb, fun i e he => ⟨?_, ?_, ?_, ?_⟩⟩
  · have := h (i * 4 + 0) (.bool e.old) (by rw [flatR_get xs i 0 (by omega), he]; rfl)
    rw [add_none] at this; simpa using this
  · have := h (i * 4 + 1) (.int .i64 e.f) (by rw [flatR_get xs i 1 (by omega), he]; rfl)
    rw [add_none] at this; simpa [Nat.add_assoc] using this
  · have := h (i * 4 + 2) (.int .i64 e.t) (by rw [flatR_get xs i 2 (by omega), he]; rfl)
    rw [add_none] at this; simpa [Nat.add_assoc] using this
  · have := h (i * 4 + 3) (.string e.s) (by rw [flatR_get xs i 3 (by omega), he]; rfl)
    rw [add_none] at this; simpa [Nat.add_assoc] using this

theorem own_formR {w : World} {base e n : Nat} {v : Value} {xs : List Rn} (h : w.ownsRow base e 4 v n (flatR xs)) : ∃ a cap, v = .slice a n cap ∧ RnA w a xs ∧ n = xs.length ∧ (a = none → n = 0 ∧ cap = 0) := by
  have hn : n = xs.length := by have := h.1; rw [flatR_length] at this; omega
  rcases h.2 with ⟨h1, h2⟩ | ⟨g, cap, cur, hv, hg, hh, r⟩
  · refine ⟨none, 0, by rw [h1, h2], .inl (List.eq_nil_of_length_eq_zero (by omega)), hn, fun _ => ⟨h2, rfl⟩⟩
  · subst hv
    exact ⟨some ⟨g, 0, none⟩, cap, rfl, .inr ⟨g, 0, rfl, Rns.of_flat (h.lt g rfl).2 (h.cells rfl)⟩, hn, fun h => by cases h⟩

/-- 'append' onto a slice of the call's own, which may grow, from whatever source: nil, or one that lies somewhere -/
theorem wpList_append_own_any {P : Program} (w : World) {ops : Array Oper} {rest : List Oper} {o : Oper} {a : Act} {Q : Exit → Act → World → Prop} (hgd : o.guard = none) (s x : Operand) (t : TypeId)
    (ho : o.op = .call { callee := .builtin .append, args := #[s, x], argTypes := #[t, t] })
    (base : Nat) (e : TypeId) (i : TypeInfo) (z : Value) (size bytes : Nat) (ht : P.underlying t = some (.slice e)) (hi : P.info? e = some i) (hz : i.zero = some z)
    (hsize : i.size = size) (hby : i.bytes = bytes) (hzs : z.cells.size = size) (hsz : 0 < size)
    (v : Value) (n : Nat) (xs : List Value) (hs : a.eval s = v) (hown : w.ownsRow base e size v n xs)
    (ao : Option Addr) (m c : Nat) (news : List Value) (hx : a.eval x = .slice ao m c) (hl : news.length = m * size) (hnone : ao = none → m = 0 ∧ c = 0)
    (hnews : ∀ ad, ao = some ad → ∀ j u, news[j]? = some u → w.cell? (ad.add j) = some u) (h1 : ∀ u ∈ news, u.oneCell' = true)
    (h63 : n + m ≤ maxLen) (hbytes : (n + m) * bytes ≤ 140737488355328) (hbase : base ≤ w.heap.size)
    (h : ∀ v' w', w'.ownsRow base e size v' (n + m) (xs ++ news) → w.grownBy w' v.ownBlock → wpList P ops Q rest (a.put o.dst v') w') : wpList P ops Q (o :: rest) a w := by
  cases ao with
  | some ad => exact wpList_append_own w hgd s x t ho base e i z size bytes ht hi hz hsize hby hzs hsz v n xs hs hown ad m c news hx hl (hnews ad rfl) h1 h63 hbytes hbase (fun v' w' h2 h3 _ => h v' w' h2 h3)
  | none =>
    obtain ⟨rfl, rfl⟩ := hnone rfl
    have hn : news = [] := List.eq_nil_of_length_eq_zero (by simpa using hl)
    subst hn
    refine wpList_plain hgd fun K hK' => ?_
    have hrun := run_append_owned_none (P := P) w base t o.type e i size ht hi v n xs hown
    unfold Oper.wp
    simp [execOp, ho, resolve, invoke, builtin, hs, hx, hrun, Result.andThen]
    exact hK' _ _ (h v w (by simpa using hown) (World.grownBy.refl _ _))

theorem RnA.news {w : World} {a : Option Addr} {rs : List Rn} (h : RnA w a rs) : ∀ ad, a = some ad → ∀ j u, (flatR rs)[j]? = some u → w.cell? (ad.add j) = some u := by
  intro ad had j u hj
  rcases h with rfl | ⟨b, o, rfl, h⟩
  · simp [flatR] at hj
  · cases had; exact h.flat j u hj

/-- the row of a whole old text; what is kept of it; what a list of edits makes of it -/
def wh (n : Nat) : List Rn := if n = 0 then [] else [⟨true, 0, n, ⟨#[]⟩⟩]
def kp (x y : Nat) : List Rn := if x < y then [⟨true, x, y, ⟨#[]⟩⟩] else []
def dn (n : Nat) : Nat → List Ed → List Rn
  | a, [] => kp a n
  | a, e :: r => kp a e.f.toNat ++ (⟨false, 0, 0, e.s⟩ :: dn n e.t.toNat r)

def sd (tx : List UInt8) : List Rn → List UInt8
  | [] => []
  | r :: rs => (if r.old then (tx.drop r.f.toNat).take (r.t.toNat - r.f.toNat) else r.s.data.toList) ++ sd tx rs

theorem sd_append (tx : List UInt8) (a b : List Rn) : sd tx (a ++ b) = sd tx a ++ sd tx b := by
  induction a with
  | nil => rfl
  | cons r rs ih => simp only [List.cons_append, sd, ih, List.append_assoc]

theorem sd_kp (tx : List UInt8) (x y : Nat) : sd tx (kp x y) = (tx.drop x).take (y - x) := by
  unfold kp
  by_cases h : x < y
  · rw [if_pos h]; simp [sd]
  · rw [if_neg h, show y - x = 0 by omega]; simp [sd]

theorem sd_dn {tx : List UInt8} (n a : Nat) (xs : List Ed) (hn : tx.length ≤ n) : sd tx (dn n a xs) = appF tx a xs := by
  induction xs generalizing a with
  | nil =>
    rw [dn, appF, sd_kp, List.take_of_length_le]
    rw [List.length_drop]; omega
  | cons e r ih =>
    rw [dn, appF, sd_append, sd_kp, sd, ih]
    simp

theorem kp_len (x y : Nat) : (kp x y).length ≤ 1 := by
  unfold kp; by_cases h : x < y
  · rw [if_pos h]; simp
  · rw [if_neg h]; simp

theorem dn_len (n a : Nat) (xs : List Ed) : (dn n a xs).length ≤ 2 * xs.length + 1 := by
  induction xs generalizing a with
  | nil => rw [dn]; have := kp_len a n; simp; omega
  | cons e r ih =>
    rw [dn]
    have := kp_len a e.f.toNat
    have := ih e.t.toNat
    simp only [List.length_append, List.length_cons]
    omega

/-- the runs lie in the text -/
def RnIn (n : Nat) (r : Rn) : Prop := 0 ≤ r.f ∧ r.f ≤ r.t ∧ r.t ≤ (n : Int)
theorem kp_in {n x y : Nat} (h : y ≤ n) : ∀ r ∈ kp x y, RnIn n r := by
  intro r hr
  unfold kp at hr
  by_cases hc : x < y
  · rw [if_pos hc] at hr
    rw [List.mem_singleton] at hr
    subst hr
    exact ⟨by simp, by simp; omega, by simp; omega⟩
  · rw [if_neg hc] at hr; cases hr
theorem dn_in {n a : Nat} {xs : List Ed} (h : ∀ e ∈ xs, e.f ≤ (n : Int)) : ∀ r ∈ dn n a xs, RnIn n r := by
  induction xs generalizing a with
  | nil => rw [dn]; exact kp_in (Nat.le_refl _)
  | cons e r ih =>
    intro x hx
    rw [dn, List.mem_append, List.mem_cons] at hx
    rcases hx with hx | hx | hx
    · exact kp_in (by have := h e (List.mem_cons_self ..); omega) x hx
    · subst hx; exact ⟨by simp, by simp, by simp⟩
    · exact ih (fun y hy => h y (List.mem_cons_of_mem _ hy)) x hx
end Go.Proofs.YteolfolkolpehaaDoor
