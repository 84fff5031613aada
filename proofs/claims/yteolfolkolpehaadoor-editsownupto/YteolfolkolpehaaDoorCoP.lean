import Derived.Test.YteolfolkolpehaaDoorMg
import Derived.Test.YteolfolkolpehaaDoorCk
namespace Go.Proofs.YteolfolkolpehaaDoor
open Go.ChangeShapes Go.WideShapes Go.ChangeAt Go.RowKit
set_option linter.unusedVariables false

/-- a row of a text that is edited: an old byte (by its place), a new one, or the mark of a run without bytes -/
inductive Tok where
  | O (p : Int)
  | N (c : UInt8)
  | M

def oseg : Int → Nat → List Tok
  | _, 0 => []
  | p, n + 1 => .O p :: oseg (p + 1) n
def runT (s : List UInt8) : List Tok := if s = [] then [.M] else s.map .N
def wd : Tok → Int
  | .M => 0
  | _ => 1
def wdt : List Tok → Int
  | [] => 0
  | t :: r => wd t + wdt r

/-- what is kept of the stretch from x to y; the first stands at a place -/
def K (x y : Int) : Int → List Tok → List Tok
  | _, [] => []
  | c, t :: r => (if x ≤ c ∧ c + wd t ≤ y then [t] else []) ++ K x y (c + wd t) r

/-- a row behind a list of edits, from x on -/
def DT (pos : Int) (T : List Tok) : Int → List Ed → List Tok
  | x, [] => K x (pos + wdt T) pos T
  | x, e :: r => K x e.f pos T ++ (runT e.s.data.toList ++ DT pos T e.t r)

/-- the edits that make a row -/
def LT (size : Int) : Int → Bool → List UInt8 → List Tok → List Ed
  | last, op, tx, [] => if op = true ∨ last < size then [⟨last, size, ⟨tx.toArray⟩⟩] else []
  | last, op, tx, .M :: r => LT size last true tx r
  | last, op, tx, .N c :: r => LT size last true (tx ++ [c]) r
  | last, op, tx, .O p :: r => if op = true ∨ last < p then ⟨last, p, ⟨tx.toArray⟩⟩ :: LT size (p + 1) false [] r else LT size (p + 1) false [] r

/-- the row behind the first list, from the old place p to the old place e -/
def IE : Int → List Ed → Int → List Tok
  | p, [], e => oseg p (e - p).toNat
  | p, x :: r, e => oseg p (x.f - p).toNat ++ (runT x.s.data.toList ++ IE x.t r e)

/-- edits one behind the other between two places -/
def Ch : Int → List Ed → Int → Prop
  | p, [], e => p ≤ e
  | p, x :: r, e => p ≤ x.f ∧ x.f ≤ x.t ∧ Ch x.t r e

theorem ch_le : ∀ {a : List Ed} {p e : Int}, Ch p a e → p ≤ e
  | [], _, _, h => h
  | x :: r, p, e, h => by have := ch_le h.2.2; have := h.1; have := h.2.1; omega

theorem ch_chk {size L p : Int} : ∀ {a : List Ed}, chk size L a = 0 → p ≤ L → p ≤ size → Ch p a size := by
  intro a
  induction a generalizing L p with
  | nil => intro _ _ h; exact h
  | cons e r ih =>
    intro h hp _
    obtain ⟨h1, h2, h3, h4, h5⟩ := chk_cons h
    exact ⟨by omega, h2, ih h5 (by omega) h3⟩

theorem wdt_append (a b : List Tok) : wdt (a ++ b) = wdt a + wdt b := by
  induction a with
  | nil => simp [wdt]
  | cons t r ih => rw [List.cons_append, wdt, wdt, ih]; omega
theorem wdt_oseg (p : Int) (n : Nat) : wdt (oseg p n) = n := by
  induction n generalizing p with
  | zero => rfl
  | succ n ih => rw [oseg, wdt, ih]; simp only [wd]; omega
theorem wdt_map (s : List UInt8) : wdt (s.map .N) = s.length := by
  induction s with
  | nil => rfl
  | cons c r ih => rw [List.map_cons, wdt, ih]; simp only [wd, List.length_cons]; omega
theorem wdt_run (s : List UInt8) : wdt (runT s) = s.length := by
  unfold runT
  split
  · rename_i h; subst h; rfl
  · exact wdt_map s
theorem wd_ge (t : Tok) : 0 ≤ wd t := by cases t <;> simp [wd]
theorem wdt_ge (T : List Tok) : 0 ≤ wdt T := by
  induction T with
  | nil => exact Int.le_refl _
  | cons t r ih => have := wd_ge t; rw [wdt]; omega

theorem oseg_add (p : Int) (n k : Nat) : oseg p (n + k) = oseg p n ++ oseg (p + n) k := by
  induction n generalizing p with
  | zero => simp [oseg]
  | succ n ih =>
    rw [show n + 1 + k = (n + k) + 1 by omega, oseg, oseg, ih, List.cons_append]
    congr 3
    omega
theorem oseg_cut {p q e : Int} (h1 : p ≤ q) (h2 : q ≤ e) : oseg p (e - p).toNat = oseg p (q - p).toNat ++ oseg q (e - q).toNat := by
  rw [show (e - p).toNat = (q - p).toNat + (e - q).toNat by omega, oseg_add]
  congr 2
  omega

theorem K_append (x y c : Int) (S T : List Tok) : K x y c (S ++ T) = K x y c S ++ K x y (c + wdt S) T := by
  induction S generalizing c with
  | nil => simp [K, wdt]
  | cons t r ih => rw [List.cons_append, K, K, ih, wdt, List.append_assoc, Int.add_assoc]
theorem K_all {x y c : Int} {T : List Tok} (h1 : x ≤ c) (h2 : c + wdt T ≤ y) : K x y c T = T := by
  induction T generalizing c with
  | nil => rfl
  | cons t r ih =>
    have := wd_ge t
    have := wdt_ge r
    rw [wdt] at h2
    rw [K, if_pos ⟨h1, by omega⟩, ih (by omega) (by omega)]; rfl
theorem K_x {x x' y c : Int} {T : List Tok} (h1 : x ≤ c) (h2 : x' ≤ c) : K x y c T = K x' y c T := by
  induction T generalizing c with
  | nil => rfl
  | cons t r ih =>
    have := wd_ge t
    rw [K, K, ih (by omega) (by omega)]
    by_cases h : c + wd t ≤ y
    · rw [if_pos ⟨h1, h⟩, if_pos ⟨h2, h⟩]
    · rw [if_neg (by omega), if_neg (by omega)]
theorem K_y {x y y' c : Int} {T : List Tok} (h1 : c + wdt T ≤ y) (h2 : c + wdt T ≤ y') : K x y c T = K x y' c T := by
  induction T generalizing c with
  | nil => rfl
  | cons t r ih =>
    have := wdt_ge r
    rw [wdt] at h1 h2
    rw [K, K, ih (by omega) (by omega)]
    by_cases h : x ≤ c
    · rw [if_pos ⟨h, by omega⟩, if_pos ⟨h, by omega⟩]
    · rw [if_neg (by omega), if_neg (by omega)]
theorem K_gone {x y c : Int} {T : List Tok} (h : c + wdt T < x) : K x y c T = [] := by
  induction T generalizing c with
  | nil => rfl
  | cons t r ih =>
    have := wdt_ge r
    have := wd_ge t
    rw [wdt] at h
    rw [K, if_neg (by omega), ih (by omega)]; rfl
theorem K_past {x y c : Int} {T : List Tok} (h : y < c) : K x y c T = [] := by
  induction T generalizing c with
  | nil => rfl
  | cons t r ih =>
    have := wd_ge t
    rw [K, if_neg (by omega), ih (by omega)]; rfl
theorem K_start {x y c : Int} {T : List Tok} (hT : T = [] ∨ ∃ p R, T = .O p :: R) (h : y ≤ c) : K x y c T = [] := by
  rcases hT with rfl | ⟨p, R, rfl⟩
  · rfl
  · rw [K, if_neg (by simp only [wd]; omega), K_past (by simp only [wd]; omega)]; rfl
theorem K_none {x y c : Int} {T : List Tok} (hT : ∀ t ∈ T, wd t = 1) (h : ∀ z, c ≤ z → z < c + T.length → ¬ (x ≤ z ∧ z + 1 ≤ y)) : K x y c T = [] := by
  induction T generalizing c with
  | nil => rfl
  | cons t r ih =>
    have h1 := hT t (by simp)
    have h0 := h c (Int.le_refl _) (by simp; omega)
    rw [K, h1, if_neg h0, ih (fun t ht => hT t (by simp [ht])) (fun z hz1 hz2 => h z (by omega) (by simp; omega))]
    rfl
theorem oseg_wd (p : Int) (n : Nat) : ∀ t ∈ oseg p n, wd t = 1 := by
  induction n generalizing p with
  | zero => simp [oseg]
  | succ n ih =>
    intro t ht
    rw [oseg] at ht
    rcases List.mem_cons.1 ht with rfl | ht
    · rfl
    · exact ih _ t ht
theorem oseg_length (p : Int) (n : Nat) : (oseg p n).length = n := by
  induction n generalizing p with
  | zero => rfl
  | succ n ih => rw [oseg, List.length_cons, ih]
theorem K_mem {x y c : Int} {T : List Tok} {t : Tok} (h : t ∈ K x y c T) : t ∈ T := by
  induction T generalizing c with
  | nil => exact h
  | cons u r ih =>
    rw [K] at h
    rcases List.mem_append.1 h with h | h
    · split at h
      · simp at h; simp [h]
      · cases h
    · exact List.mem_cons_of_mem _ (ih h)

/-- of the whole, the old bytes from x to y -/
theorem K_oseg {x y : Int} {n : Nat} (h0 : 0 ≤ x) (h1 : x ≤ y) (h2 : y ≤ n) : K x y 0 (oseg 0 n) = oseg x (y - x).toNat := by
  have e1 : oseg 0 n = oseg 0 (x - 0).toNat ++ (oseg x (y - x).toNat ++ oseg y ((n : Int) - y).toNat) := by
    rw [← oseg_cut h1 h2, ← oseg_cut h0 (by omega)]
    congr 1
  rw [e1, K_append, K_append, wdt_oseg, wdt_oseg]
  rw [K_none (oseg_wd _ _) (fun z hz1 hz2 => by rw [oseg_length] at hz2; omega)]
  rw [K_all (by omega) (by rw [wdt_oseg]; omega)]
  rw [K_none (oseg_wd _ _) (fun z hz1 hz2 => by rw [oseg_length] at hz2; omega)]
  simp

theorem DT_whole {n : Nat} {L x : Int} {a : List Ed} (h : chk n L a = 0) (h0 : 0 ≤ x) (hx : x ≤ L) (hn : x ≤ n) : DT 0 (oseg 0 n) x a = IE x a n := by
  induction a generalizing L x with
  | nil => rw [DT, IE, wdt_oseg, Int.zero_add, K_oseg h0 hn (Int.le_refl _)]
  | cons e r ih =>
    obtain ⟨h1, h2, h3, h4, h5⟩ := chk_cons h
    rw [DT, IE, K_oseg h0 (by omega) (by omega), ih h5 (by omega) (by omega) h3]

theorem IE_split {a1 a2 : List Ed} {p q e : Int} (h1 : Ch p a1 q) (h2 : Ch q a2 e) : IE p (a1 ++ a2) e = IE p a1 q ++ IE q a2 e := by
  induction a1 generalizing p with
  | nil =>
    have h1 : p ≤ q := h1
    rw [List.nil_append]
    cases a2 with
    | nil => rw [IE, IE, IE]; exact oseg_cut h1 h2
    | cons x r =>
      obtain ⟨k1, k2, k3⟩ := h2
      rw [IE, IE, IE, oseg_cut h1 k1, List.append_assoc]
  | cons x r ih =>
    obtain ⟨k1, k2, k3⟩ := h1
    rw [List.cons_append, IE, IE, ih k3]
    simp only [List.append_assoc]

theorem wdt_IE {a : List Ed} {p e : Int} (h : Ch p a e) : wdt (IE p a e) = e - p + grw a := by
  induction a generalizing p with
  | nil => have h : p ≤ e := h; rw [IE, wdt_oseg, grw]; omega
  | cons x r ih =>
    obtain ⟨k1, k2, k3⟩ := h
    rw [IE, wdt_append, wdt_append, wdt_oseg, wdt_run, ih k3, grw, bytes_len]
    omega

def nb : List Tok → List UInt8
  | [] => []
  | .N c :: r => c :: nb r
  | _ :: r => nb r
def ofree (T : List Tok) : Prop := ∀ p, Tok.O p ∉ T

theorem nb_append (a b : List Tok) : nb (a ++ b) = nb a ++ nb b := by
  induction a with
  | nil => rfl
  | cons t r ih => cases t <;> simp [nb, ih]
theorem nb_map (s : List UInt8) : nb (s.map .N) = s := by
  induction s with
  | nil => rfl
  | cons c r ih => simp [nb, ih]
theorem nb_run (s : List UInt8) : nb (runT s) = s := by
  unfold runT
  split
  · rename_i h; subst h; rfl
  · exact nb_map s
theorem nb_free_oseg {x y c p : Int} {n : Nat} : nb (K x y c (oseg p n)) = [] := by
  induction n generalizing c p with
  | zero => rfl
  | succ n ih =>
    rw [oseg, K, nb_append, ih]
    split <;> rfl
theorem ofree_append {a b : List Tok} (h1 : ofree a) (h2 : ofree b) : ofree (a ++ b) := fun p h => by
  rcases List.mem_append.1 h with h | h
  · exact h1 p h
  · exact h2 p h
theorem ofree_run (s : List UInt8) : ofree (runT s) := by
  intro p h
  unfold runT at h
  split at h
  · simp at h
  · simp at h
theorem ofree_K {x y c : Int} {T : List Tok} (h : ofree T) : ofree (K x y c T) := fun p hp => h p (K_mem hp)
theorem run_ne (s : List UInt8) : runT s ≠ [] := by
  unfold runT
  split
  · simp
  · rename_i h; simpa using h

/-- the new bytes of a run between two places -/
theorem nb_K_run (x y c : Int) (s : ByteArray) : nb (K x y c (runT s.data.toList)) = pc ⟨c, c + s.size, s⟩ x y := by
  have hl := bytes_len s
  unfold pc
  simp only
  by_cases h0 : s.data.toList = []
  · have hs : s.size = 0 := by rw [← hl, h0]; rfl
    have e : nb (K x y c (runT s.data.toList)) = [] := by
      unfold runT
      rw [if_pos h0, K, K]
      split <;> rfl
    rw [e, if_neg (by omega)]
  · unfold runT
    rw [if_neg h0]
    have hN : ∀ (l : List UInt8), ∀ t ∈ l.map Tok.N, wd t = 1 := fun l t ht => by
      obtain ⟨c, _, rfl⟩ := List.mem_map.1 ht; rfl
    by_cases h : max c x < min (c + s.size) y
    · rw [if_pos h, Lib.extract_data]
      obtain ⟨u, hu⟩ : ∃ u, (max c x - c).toNat = u := ⟨_, rfl⟩
      obtain ⟨v, hv⟩ : ∃ v, (min (c + s.size) y - c).toNat = v := ⟨_, rfl⟩
      rw [hu, hv]
      have e1 : s.data.toList = s.data.toList.take u ++ ((s.data.toList.drop u).take (v - u) ++ s.data.toList.drop v) := by
        have e2 : s.data.toList.drop v = (s.data.toList.drop u).drop (v - u) := by rw [List.drop_drop]; congr 1; omega
        rw [e2, List.take_append_drop, List.take_append_drop]
      have l1 : (s.data.toList.take u).length = u := by rw [List.length_take]; omega
      have l2 : ((s.data.toList.drop u).take (v - u)).length = v - u := by rw [List.length_take, List.length_drop]; omega
      have l3 : (s.data.toList.drop v).length = s.size - v := by rw [List.length_drop]; omega
      conv => lhs; rw [e1]
      rw [List.map_append, List.map_append, K_append, K_append, wdt_map, wdt_map, l1, l2]
      rw [K_none (hN _) (fun z hz1 hz2 => by rw [List.length_map, l1] at hz2; omega)]
      rw [K_all (by omega) (by rw [wdt_map, l2]; omega)]
      rw [K_none (hN _) (fun z hz1 hz2 => by rw [List.length_map, l3] at hz2; omega)]
      rw [List.nil_append, List.append_nil, nb_map]
    · rw [if_neg h, K_none (hN _) (fun z hz1 hz2 => by rw [List.length_map, hl] at hz2; omega)]
      rfl

def ov (ps : List Ed) (x y : Int) : List UInt8 := ps.flatMap fun p => pc p x y
theorem ov_cons (p : Ed) (r : List Ed) (x y : Int) : ov (p :: r) x y = pc p x y ++ ov r x y := by simp [ov]

theorem nb_K_IE {a : List Ed} {p e m x y : Int} (h : Ch p a e) : nb (K x y (p + m) (IE p a e)) = ov (lay m a) x y := by
  induction a generalizing p m with
  | nil => rw [IE, nb_free_oseg]; rfl
  | cons q r ih =>
    obtain ⟨k1, k2, k3⟩ := h
    rw [IE, K_append, K_append, nb_append, nb_append, nb_free_oseg, wdt_oseg, wdt_run, bytes_len, lay, ov_cons]
    have e1 : p + m + ((q.f - p).toNat : Int) = q.f + m := by omega
    have e2 : q.f + m + (q.s.size : Int) = q.t + (m + ((q.s.size : Int) - (q.t - q.f))) := by omega
    rw [e1, nb_K_run, e2, ih k3, ← e2]
    rfl

theorem lay_from {a : List Ed} {p e m : Int} (h : Ch p a e) : ∀ u ∈ lay m a, p + m ≤ u.f ∧ u.f ≤ u.t := by
  induction a generalizing p m with
  | nil => intro u hu; cases hu
  | cons q r ih =>
    obtain ⟨k1, k2, k3⟩ := h
    intro u hu
    rw [lay] at hu
    rcases List.mem_cons.1 hu with rfl | hu
    · simp only; omega
    · have := ih k3 u hu; omega

/-- where all is new there is no old byte -/
theorem of_K_IE {a : List Ed} {p e m x y : Int} (hc : Ch p a e) (h : ∀ z, x ≤ z → z < y → p + m ≤ z → z < e + m + grw a → ∃ u ∈ lay m a, u.f ≤ z ∧ z < u.t) : ofree (K x y (p + m) (IE p a e)) := by
  induction a generalizing p m with
  | nil =>
    have hc : p ≤ e := hc
    rw [IE, K_none (oseg_wd _ _) (fun z hz1 hz2 hz3 => ?_)]
    · intro p h; cases h
    · rw [oseg_length] at hz2
      obtain ⟨u, hu, _⟩ := h z (by omega) (by omega) (by omega) (by rw [grw]; omega)
      cases hu
  | cons q r ih =>
    obtain ⟨k1, k2, k3⟩ := hc
    have hw := wdt_IE k3
    have hw0 := wdt_ge (IE q.t r e)
    have e1 : p + m + ((q.f - p).toNat : Int) = q.f + m := by omega
    have e2 : q.f + m + (q.s.size : Int) = q.t + (m + ((q.s.size : Int) - (q.t - q.f))) := by omega
    have hlf := lay_from (m := m + ((q.s.size : Int) - (q.t - q.f))) k3
    rw [grw] at h
    rw [IE, K_append, K_append, wdt_oseg, wdt_run, bytes_len, e1, e2]
    refine ofree_append ?_ (ofree_append (ofree_K (ofree_run _)) (ih k3 ?_))
    · rw [K_none (oseg_wd _ _) (fun z hz1 hz2 hz3 => ?_)]
      · intro p h; cases h
      · rw [oseg_length] at hz2
        obtain ⟨u, hu, h1, h2⟩ := h z (by omega) (by omega) (by omega) (by omega)
        rw [lay] at hu
        rcases List.mem_cons.1 hu with rfl | hu
        · simp only at h1; omega
        · have := hlf u hu; omega
    · intro z z1 z2 z3 z4
      obtain ⟨u, hu, h1, h2⟩ := h z z1 z2 (by omega) (by omega)
      rw [lay] at hu
      rcases List.mem_cons.1 hu with rfl | hu
      · simp only at h2; omega
      · exact ⟨u, hu, h1, h2⟩

def Srt (ps : List Ed) : Prop := ps.Pairwise fun p q => p.t ≤ q.f
theorem lay_srt {a : List Ed} {p e m : Int} (h : Ch p a e) : Srt (lay m a) := by
  induction a generalizing p m with
  | nil => exact List.Pairwise.nil
  | cons q r ih =>
    obtain ⟨k1, k2, k3⟩ := h
    rw [lay]
    refine List.pairwise_cons.2 ⟨fun u hu => ?_, ih k3⟩
    have := (lay_from k3 u hu).1
    simp only; omega

theorem pc_before {p : Ed} {x y : Int} (h : p.t ≤ x) : pc p x y = [] := by unfold pc; rw [if_neg (by omega)]
theorem pc_behind {p : Ed} {x y : Int} (h : y ≤ p.f) : pc p x y = [] := by unfold pc; rw [if_neg (by omega)]
theorem ov_behind {ps : List Ed} {x y : Int} (h : ∀ p ∈ ps, y ≤ p.f) : ov ps x y = [] := by
  induction ps with
  | nil => rfl
  | cons p r ih => rw [ov_cons, pc_behind (h p (by simp)), ih (fun q hq => h q (by simp [hq]))]; rfl

theorem tk_ov {ps : List Ed} {x y : Int} (h : Srt ps) : (tk ps x y).1 = ov ps x y := by
  induction ps with
  | nil => rfl
  | cons p r ih =>
    obtain ⟨h1, h2⟩ := List.pairwise_cons.1 h
    rw [ov_cons]
    by_cases hy : y < p.t
    · rw [tk_break r hy, ov_behind (fun q hq => by have := h1 q hq; omega), List.append_nil]
    · rw [tk_next r hy, ih h2]
theorem tk_more {ps : List Ed} {x y : Int} (h : Srt ps) : Srt (tk ps x y).2 ∧ ∀ x' y', y ≤ x' → ov (tk ps x y).2 x' y' = ov ps x' y' := by
  induction ps with
  | nil => exact ⟨List.Pairwise.nil, fun _ _ _ => rfl⟩
  | cons p r ih =>
    obtain ⟨h1, h2⟩ := List.pairwise_cons.1 h
    by_cases hy : y < p.t
    · rw [tk_break r hy]; exact ⟨h, fun _ _ _ => rfl⟩
    · rw [tk_next r hy]
      obtain ⟨i1, i2⟩ := ih h2
      refine ⟨i1, fun x' y' hx => ?_⟩
      rw [i2 x' y' hx, ov_cons, pc_before (p := p) (x := x') (by omega)]; rfl

/-- weave, by places -/
def wo (ps : List Ed) : Int → List Ed → Int → List UInt8
  | x, [], hi => ov ps x hi
  | x, e :: r, hi => ov ps x e.f ++ e.s.data.toList ++ wo ps e.t r hi

theorem wo_same {ps ps' : List Ed} {c hi : Int} (h : ∀ x' y', c ≤ x' → ov ps' x' y' = ov ps x' y') : ∀ {b : List Ed} {x : Int}, c ≤ x → (∀ e ∈ b, c ≤ e.t) → wo ps' x b hi = wo ps x b hi
  | [], x, hx, _ => h x hi hx
  | e :: r, x, hx, hb => by
    rw [wo, wo, h x e.f hx, wo_same h (hb e (by simp)) (fun e he => hb e (by simp [he]))]

theorem wv_wo {S : Int} : ∀ {b ps : List Ed} {L x hi : Int}, Srt ps → chk S L b = 0 → wv ps b x hi = wo ps x b hi
  | [], ps, L, x, hi, h, _ => tk_ov h
  | e :: r, ps, L, x, hi, h, hc => by
    obtain ⟨h1, h2, h3, h4, h5⟩ := chk_cons hc
    obtain ⟨m1, m2⟩ := tk_more (x := x) (y := e.f) h
    rw [wv, wo, tk_ov h, wv_wo m1 h5, wo_same m2 h2 (fun q hq => by have := chk_later hc q hq; have := chk_ok h5 q hq; omega)]

/-- a group: nothing of it is old, and its bytes are those that are woven -/
theorem grp {S : Int} {a b : List Ed} {p e m x hi Lb : Int} (hc : Ch p a e) (hh : hi = e + m + grw a) (hb : chk S Lb b = 0) (hx : x ≤ Lb)
    (h : ∀ z, x ≤ z → z < hi → (∃ u ∈ lay m a, u.f ≤ z ∧ z < u.t) ∨ (∃ v ∈ b, v.f ≤ z ∧ z < v.t)) :
    ofree (DT (p + m) (IE p a e) x b) ∧ nb (DT (p + m) (IE p a e) x b) = wo (lay m a) x b hi := by
  induction b generalizing x Lb with
  | nil =>
    have hw : p + m + wdt (IE p a e) = hi := by rw [wdt_IE hc]; omega
    rw [DT, wo, nb_K_IE hc, hw]
    refine ⟨of_K_IE hc (fun z z1 z2 _ _ => ?_), rfl⟩
    rcases h z z1 z2 with h | ⟨v, hv, _⟩
    · exact h
    · cases hv
  | cons v r ih =>
    obtain ⟨h1, h2, h3, h4, h5⟩ := chk_cons hb
    have hl := chk_later hb
    obtain ⟨i1, i2⟩ := ih (x := v.t) h5 (by omega) (fun z z1 z2 => by
      rcases h z (by omega) z2 with h | ⟨q, hq, k1, k2⟩
      · exact .inl h
      · rcases List.mem_cons.1 hq with rfl | hq
        · omega
        · exact .inr ⟨q, hq, k1, k2⟩)
    rw [DT, wo, nb_append, nb_append, nb_K_IE hc, nb_run, i2, List.append_assoc]
    refine ⟨ofree_append (of_K_IE hc (fun z z1 z2 _ z4 => ?_)) (ofree_append (ofree_run _) i1), rfl⟩
    rcases h z z1 (by omega) with h | ⟨q, hq, k1, k2⟩
    · exact h
    · rcases List.mem_cons.1 hq with rfl | hq
      · omega
      · have := hl q hq; omega

theorem LT_oseg (size p : Int) (n : Nat) (R : List Tok) : LT size p false [] (oseg p n ++ R) = LT size (p + n) false [] R := by
  induction n generalizing p with
  | zero => simp [oseg]
  | succ n ih =>
    rw [oseg, List.cons_append, LT, if_neg (by simp), ih]
    congr 1
    omega
theorem LT_free {size : Int} {G R : List Tok} (h : ofree G) (l : Int) (o : Bool) (t : List UInt8) : LT size l o t (G ++ R) = LT size l (o || !G.isEmpty) (t ++ nb G) R := by
  induction G generalizing o t with
  | nil => simp [nb]
  | cons u r ih =>
    have hr : ofree r := fun p hp => h p (by simp [hp])
    cases u with
    | O p => exact absurd (by simp) (h p)
    | N c => rw [List.cons_append, LT, ih hr]; simp [nb]
    | M => rw [List.cons_append, LT, ih hr]; simp [nb]
theorem LT_open {size p : Int} {R : List Tok} (h : (R = [] ∧ p = size) ∨ ∃ R', R = .O p :: R') (l : Int) (t : List UInt8) : LT size l true t R = ⟨l, p, ⟨t.toArray⟩⟩ :: LT size p false [] R := by
  rcases h with ⟨rfl, rfl⟩ | ⟨R', rfl⟩
  · rw [LT, LT, if_pos (.inl rfl), if_neg (by simp)]
  · rw [LT, LT, if_pos (.inl rfl), if_neg (by simp)]

theorem DT_later {pos hi : Int} {T1 T2 : List Tok} (hp : pos + wdt T1 = hi) : ∀ {b : List Ed} {x : Int}, hi < x → (∀ e ∈ b, hi < e.t) → DT pos (T1 ++ T2) x b = DT hi T2 x b
  | [], x, hx, _ => by rw [DT, DT, K_append, K_gone (by omega), wdt_append, hp, ← Int.add_assoc, hp]; rfl
  | e :: r, x, hx, hb => by rw [DT, DT, K_append, K_gone (by omega), hp, DT_later hp (hb e (by simp)) (fun e he => hb e (by simp [he]))]; rfl

/-- a row cut where nothing is open -/
theorem DT_split {pos hi : Int} {T1 T2 : List Tok} {b1 b2 : List Ed} {x : Int} (hp : pos + wdt T1 = hi) (hT : T2 = [] ∨ ∃ p R, T2 = .O p :: R) (h1 : ∀ e ∈ b1, e.f ≤ hi ∧ e.t ≤ hi) (h2 : ∀ e ∈ b2, hi < e.f ∧ e.f ≤ e.t) (hx : x ≤ hi) :
    DT pos (T1 ++ T2) x (b1 ++ b2) = DT pos T1 x b1 ++ DT hi T2 hi b2 := by
  induction b1 generalizing x with
  | nil =>
    rw [List.nil_append]
    have hw := wdt_ge T2
    cases b2 with
    | nil =>
      rw [DT, DT, DT, K_append, wdt_append, ← Int.add_assoc, hp]
      rw [K_y (T := T1) (y' := hi) (by omega) (by omega), K_x (T := T2) hx (Int.le_refl hi)]
    | cons e r =>
      have he := h2 e (by simp)
      rw [DT, DT, DT, K_append, hp, DT_later hp (by omega) (fun q hq => by have := h2 q (by simp [hq]); omega)]
      rw [K_y (T := T1) (y' := hi) (by omega) (by omega), K_x (T := T2) hx (Int.le_refl hi), List.append_assoc]
  | cons e r ih =>
    have he := h1 e (by simp)
    rw [List.cons_append, DT, DT, K_append, hp, K_start hT he.1, ih (fun q hq => h1 q (by simp [hq])) he.2]
    simp

/-- old bytes ahead of the first edit -/
theorem DT_drop {pos lo p : Int} {n : Nat} {J : List Tok} (hp : pos + n = lo) : ∀ {b : List Ed} {x : Int}, lo ≤ x → (∀ e ∈ b, lo ≤ e.t) → DT pos (oseg p n ++ J) x b = DT lo J x b
  | [], x, hx, _ => by
    rw [DT, DT, K_append, K_none (oseg_wd _ _) (fun z hz1 hz2 => by rw [oseg_length] at hz2; omega), wdt_append, wdt_oseg, ← Int.add_assoc, hp]; rfl
  | e :: r, x, hx, hb => by
    rw [DT, DT, K_append, K_none (oseg_wd _ _) (fun z hz1 hz2 => by rw [oseg_length] at hz2; omega), wdt_oseg, hp, DT_drop hp (hb e (by simp)) (fun e he => hb e (by simp [he]))]; rfl
theorem DT_ahead {pos lo p : Int} {n : Nat} {J : List Tok} (hp : pos + n = lo) {b : List Ed} (hb : ∀ e ∈ b, lo ≤ e.f ∧ e.f ≤ e.t) : DT pos (oseg p n ++ J) pos b = oseg p n ++ DT lo J lo b := by
  cases b with
  | nil =>
    have hw := wdt_ge J
    rw [DT, DT, K_all (Int.le_refl _) (Int.le_refl _), K_all (Int.le_refl _) (Int.le_refl _)]
  | cons e r =>
    have he := hb e (by simp)
    rw [DT, DT, K_append, K_all (T := oseg p n) (Int.le_refl _) (by rw [wdt_oseg]; omega), wdt_oseg, hp, K_x (T := J) (by omega) (Int.le_refl lo)]
    rw [DT_drop hp (by omega) (fun q hq => by have := hb q (by simp [hq]); omega), List.append_assoc]

/-- what reach tells of a group -/
theorem rch_grp (put b : List Ed) : ∀ (n i j : Nat) (h : Int) (i' j' : Nat) (h' : Int), rch put b n i j h = (i', j', h') → (put.length - i) + (b.length - j) ≤ n →
    i ≤ i' ∧ j ≤ j' ∧ h ≤ h' ∧ (∀ k u, i ≤ k → k < i' → put[k]? = some u → u.f ≤ h' ∧ u.t ≤ h') ∧ (∀ k u, j ≤ k → k < j' → b[k]? = some u → u.f ≤ h' ∧ u.t ≤ h') ∧
    (∀ z, h ≤ z → z < h' → (∃ k u, k < i' ∧ put[k]? = some u ∧ u.f ≤ z ∧ z < u.t) ∨ (∃ k u, k < j' ∧ b[k]? = some u ∧ u.f ≤ z ∧ z < u.t)) ∧
    (∀ u, put[i']? = some u → h' < u.f) ∧ (∀ u, b[j']? = some u → h' < u.f) := by
  intro n
  induction n with
  | zero =>
    intro i j h i' j' h' hr hn
    rw [rch] at hr
    cases hr
    refine ⟨Nat.le_refl _, Nat.le_refl _, Int.le_refl _, fun k u h1 h2 => by omega, fun k u h1 h2 => by omega, fun z h1 h2 => by omega, fun u hu => ?_, fun u hu => ?_⟩
    · have := (List.getElem?_eq_some_iff.1 hu).1; omega
    · have := (List.getElem?_eq_some_iff.1 hu).1; omega
  | succ n ih =>
    intro i j h i' j' h' hr hn
    by_cases c1 : ∃ e, put[i]? = some e ∧ e.f ≤ h
    · obtain ⟨e, he, hle⟩ := c1
      have hi := (List.getElem?_eq_some_iff.1 he).1
      rw [rch_put he hle] at hr
      obtain ⟨r1, r2, r3, r4, r5, r6, r7, r8⟩ := ih (i + 1) j _ i' j' h' hr (by omega)
      refine ⟨by omega, r2, by omega, fun k u k1 k2 hu => ?_, r5, fun z z1 z2 => ?_, r7, r8⟩
      · by_cases hk : k = i
        · subst hk; rw [he] at hu; cases hu; omega
        · exact r4 k u (by omega) k2 hu
      · by_cases hz : max h e.t ≤ z
        · exact r6 z hz z2
        · exact .inl ⟨i, e, by omega, he, by omega, by omega⟩
    · have hp : ∀ p, put[i]? = some p → h < p.f := fun p hp => by
        rcases Int.lt_or_le h p.f with hh | hh
        · exact hh
        · exact absurd ⟨p, hp, hh⟩ c1
      by_cases c2 : ∃ e, b[j]? = some e ∧ e.f ≤ h
      · obtain ⟨e, he, hle⟩ := c2
        have hj := (List.getElem?_eq_some_iff.1 he).1
        rw [rch_b hp he hle] at hr
        obtain ⟨r1, r2, r3, r4, r5, r6, r7, r8⟩ := ih i (j + 1) _ i' j' h' hr (by omega)
        refine ⟨r1, by omega, by omega, r4, fun k u k1 k2 hu => ?_, fun z z1 z2 => ?_, r7, r8⟩
        · by_cases hk : k = j
          · subst hk; rw [he] at hu; cases hu; omega
          · exact r5 k u (by omega) k2 hu
        · by_cases hz : max h e.t ≤ z
          · exact r6 z hz z2
          · exact .inr ⟨j, e, by omega, he, by omega, by omega⟩
      · have hb : ∀ p, b[j]? = some p → h < p.f := fun p hp => by
          rcases Int.lt_or_le h p.f with hh | hh
          · exact hh
          · exact absurd ⟨p, hp, hh⟩ c2
        rw [rch_stop hp hb] at hr
        cases hr
        exact ⟨Nat.le_refl _, Nat.le_refl _, Int.le_refl _, fun k u h1 h2 => by omega, fun k u h1 h2 => by omega, fun z h1 h2 => by omega, hp, hb⟩
end Go.Proofs.YteolfolkolpehaaDoor
