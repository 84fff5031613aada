import Derived.Test.YtniamjbieciilaaAsP
namespace Go.Proofs.Ytniamjbieciilaa
open Go.ChangeShapes Go.WideShapes Go.ChangeAt Go.RowKit
set_option linter.unusedVariables false

theorem chk_down {size L L' : Int} {l : List Ed} (h : chk size L l = 0) (hL : L' ≤ L) : chk size L' l = 0 :=
  chk_up h (fun e he => by have := chk_first h e (List.mem_of_getElem? he); omega)

theorem LC_chk {S last : Int} {q : Bool} {R : List (Bool × Cel)} (h : Hn S last q R) (h0 : 0 ≤ last) (t : List UInt8) : chk S last (LC S last t R) = 0 := by
  induction R generalizing last q t with
  | nil => exact absurd h (by simp [Hn])
  | cons a r ih =>
    obtain ⟨f, u⟩ := a
    cases u with
    | E =>
      have h2 := h.2.1
      rw [LC]
      split
      · rw [chk, if_pos ⟨h0, h2, Int.le_refl _⟩, if_neg (by simp)]; rfl
      · rfl
    | N c => rw [LC]; exact ih h.2 h0 _
    | O p =>
      have h1 := h.1
      have h2 := h.2.1
      have hi := ih h.2.2.2 (by omega) []
      rw [LC]
      split
      · rw [chk, if_pos ⟨h0, by simp only; omega, by simp only; omega⟩, if_neg (by simp)]; exact hi
      · exact chk_down hi (by omega)

theorem IE_step {S p : Int} {L : List Ed} (h : chk S (p + 1) L = 0) (hp : p + 1 ≤ S) : IE p L S = .O p :: IE (p + 1) L S := by
  have := IE_split (a1 := []) (a2 := L) (p := p) (q := p + 1) (e := S) (show p ≤ p + 1 by omega) (ch_chk h (Int.le_refl _) hp)
  rw [List.nil_append] at this
  rw [this, IE, show (p + 1 - p).toNat = 1 by omega]; rfl

/-- the edits of a row make its cells -/
theorem LC_IE {S last : Int} {q : Bool} {R : List (Bool × Cel)} (h : Hn S last q R) (h0 : 0 ≤ last) (t : List UInt8) (ht : t ≠ [] → q = false) : cn false (IE last (LC S last t R) S) = runC t ++ R := by
  induction R generalizing last q t with
  | nil => exact absurd h (by simp [Hn])
  | cons a r ih =>
    obtain ⟨f, u⟩ := a
    cases u with
    | E =>
      obtain ⟨h1, h2, h3⟩ := h
      subst h1
      rw [LC]
      cases f with
      | true =>
        rw [if_pos (.inl rfl), IE, IE]
        simp only
        rw [show (last - last).toNat = 0 by omega, show (S - S).toNat = 0 by omega]
        show cn false (runT t ++ []) = _
        rw [cn_run_append]; rfl
      | false =>
        obtain ⟨q1, q2⟩ := h3 rfl
        have ht0 : t = [] := by
          cases t with
          | nil => rfl
          | cons c s => have := ht (by simp); rw [q1] at this; cases this
        subst ht0 q2
        rw [if_neg (by simp), IE, show (last - last).toNat = 0 by omega]; rfl
    | N c =>
      obtain ⟨h1, h2⟩ := h
      subst h1
      rw [LC, ih h2 h0 _ (fun _ => rfl)]
      simp [runC]
    | O p =>
      obtain ⟨h1, h2, h3, h4⟩ := h
      have hc := LC_chk h4 (by omega) []
      have hi := ih h4 (by omega) [] (fun h => absurd rfl h)
      rw [LC]
      cases f with
      | true =>
        rw [if_pos (.inl rfl), IE]
        simp only
        rw [show (last - last).toNat = 0 by omega, IE_step hc (by omega)]
        show cn false (runT t ++ _) = _
        rw [cn_run_append, cn, hi]; rfl
      | false =>
        obtain ⟨q1, q2⟩ := h3 rfl
        have ht0 : t = [] := by
          cases t with
          | nil => rfl
          | cons c s => have := ht (by simp); rw [q1] at this; cases this
        subst ht0 q2
        rw [if_neg (by simp), IE_step hc (by omega), cn, hi]; rfl

theorem cn_len (g : Bool) (Y : List Tok) : ((cn g Y).length : Int) = wdt Y + 1 := by
  induction Y generalizing g with
  | nil => rfl
  | cons t r ih =>
    rw [wdt]
    cases t with
    | M => rw [cn, ih, wd_M]; omega
    | O p => rw [cn, List.length_cons, wd_O]; have := ih false; omega
    | N c => rw [cn, List.length_cons, wd_N]; have := ih true; omega

theorem Hn_U {S p : Int} {k : Nat} (h : p + k = S) : Hn S p true (cn false (oseg p k)) := by
  induction k generalizing p with
  | zero => exact ⟨rfl, by omega, fun _ => ⟨rfl, by omega⟩⟩
  | succ k ih => exact ⟨Int.le_refl _, by omega, fun _ => ⟨rfl, rfl⟩, ih (by omega)⟩

/-- cells in the places of old bytes -/
def sub1 (X : List (Bool × Cel)) : Bool × Cel → Bool × Cel
  | (f, .O q) => (f || (X.getD q.toNat (false, .E)).1, (X.getD q.toNat (false, .E)).2)
  | (f, .E) => (f || (X.getD (X.length - 1) (false, .E)).1, (X.getD (X.length - 1) (false, .E)).2)
  | (f, .N c) => (f, .N c)
theorem sub_fo (X : List (Bool × Cel)) (o : Bool) (R : List (Bool × Cel)) : (fo o R).map (sub1 X) = fo o (R.map (sub1 X)) := by
  cases R with
  | nil => rfl
  | cons a r =>
    obtain ⟨f, t⟩ := a
    cases t with
    | E => simp [fo, sub1, Bool.or_assoc]
    | N c => simp [fo, sub1]
    | O p => simp [fo, sub1, Bool.or_assoc]
theorem sub_run (X : List (Bool × Cel)) (s : List UInt8) : (runC s).map (sub1 X) = runC s := by
  unfold runC; rw [List.map_map]; rfl
theorem sub_DC (X R : List (Bool × Cel)) {c : List Ed} (x : Int) (g : Bool) : (DC R x g c).map (sub1 X) = DC (R.map (sub1 X)) x g c := by
  induction c generalizing x g with
  | nil => rw [DC, DC, sub_fo, List.map_drop]
  | cons e r ih => rw [DC, DC, List.map_append, List.map_append, List.map_take, sub_fo, List.map_drop, sub_run, ih]
theorem sub_U {X : List (Bool × Cel)} {p k : Nat} (h : X.length = p + k + 1) : (cn false (oseg p k)).map (sub1 X) = X.drop p := by
  induction k generalizing p with
  | zero =>
    have hp : p < X.length := by omega
    show [sub1 X (false, .E)] = X.drop p
    rw [List.drop_eq_getElem_cons hp, List.drop_eq_nil_of_le (by omega)]
    unfold sub1
    simp only [Bool.false_or]
    rw [show X.length - 1 = p by omega, List.getD_eq_getElem?_getD, List.getElem?_eq_getElem hp]
    rfl
  | succ k ih =>
    have hp : p < X.length := by omega
    have hi := ih (p := p + 1) (by omega)
    rw [List.drop_eq_getElem_cons hp, ← hi]
    show sub1 X (false, .O p) :: (cn false (oseg ((p : Int) + 1) k)).map (sub1 X) = _
    congr 1
    unfold sub1
    simp only [Bool.false_or, Int.toNat_natCast]
    rw [List.getD_eq_getElem?_getD, List.getElem?_eq_getElem hp]
    rfl

/-- LIST AND THEN LISTS, WHICHEVER ARE PUT TOGETHER FIRST -/
theorem assoc {n S : Nat} {a b c : List Ed} (ha : chk n 0 a = 0) (hS : (S : Int) = n + grw a) (hb : chk S 0 b = 0) (hc : chk (S + grw b) 0 c = 0) :
    LT n 0 false [] (DT 0 (IE 0 (LT n 0 false [] (DT 0 (IE 0 a n) 0 b)) n) 0 c) = LT n 0 false [] (DT 0 (IE 0 a n) 0 (LT S 0 false [] (DT 0 (IE 0 b S) 0 c))) ∧
    chk n 0 (LT n 0 false [] (DT 0 (IE 0 a n) 0 b)) = 0 ∧ chk S 0 (LT S 0 false [] (DT 0 (IE 0 b S) 0 c)) = 0 ∧ (n : Int) + grw (LT n 0 false [] (DT 0 (IE 0 a n) 0 b)) = S + grw b := by
  have hwX : wdt (IE 0 a n) = S := by rw [wdt_IE (ch_chk ha (Int.le_refl _) (by omega))]; omega
  have hwB : wdt (IE 0 b S) = S + grw b := by rw [wdt_IE (ch_chk hb (Int.le_refl _) (by omega))]; omega
  obtain ⟨X, hX⟩ : ∃ X, IE 0 a n = X := ⟨_, rfl⟩
  rw [hX] at hwX
  obtain ⟨RX, hRX⟩ : ∃ RX, cn false X = RX := ⟨_, rfl⟩
  have hlX : RX.length = 0 + S + 1 := by have := cn_len false X; rw [hRX, hwX] at this; omega
  -- the row of the first, as cells
  have hUn : cn false (oseg 0 n) = cn false (oseg ((0 : Nat) : Int) n) := rfl
  have hX2 : RX = DC (cn false (oseg 0 n)) 0 false a := by
    rw [← hRX, ← hX, ← DT_whole ha (Int.le_refl _) (Int.le_refl _) (by omega)]
    exact cn_DT (.inr rfl) (by rw [wdt_oseg]; exact ha) (Int.le_refl _) (Int.le_refl _) (by rw [wdt_oseg]; omega)
  have hlU : ∀ k : Nat, ((cn false (oseg 0 k)).length : Int) - 1 = k := fun k => by rw [cn_len, wdt_oseg]; omega
  have hHX : Hn n 0 true RX := by
    rw [hX2]
    have := Hn_DC (R := cn false (oseg 0 n)) (S := n) (Hn_U (by omega)) (c := a) (x := 0) (L := 0) (g := false) (.inr rfl) (by rw [hlU]; exact ha) (Int.le_refl _) (Int.le_refl _) (by rw [hlU]; omega) true (.inr rfl)
    rwa [show (0 : Int).toNat = 0 from rfl, lst_zero] at this
  -- the row of the first two
  obtain ⟨Y, hY⟩ : ∃ Y, DT 0 X 0 b = Y := ⟨_, rfl⟩
  obtain ⟨RY, hRY⟩ : ∃ RY, cn false Y = RY := ⟨_, rfl⟩
  have hY2 : RY = DC RX 0 false b := by
    rw [← hRY, ← hY, ← hRX]
    exact cn_DT (.inr rfl) (by rw [hwX]; exact hb) (Int.le_refl _) (Int.le_refl _) (by rw [hwX]; omega)
  have hHY : Hn n 0 true RY := by
    rw [hY2]
    have := Hn_DC hHX (c := b) (x := 0) (L := 0) (g := false) (.inr rfl) (by rw [show (RX.length : Int) - 1 = S by omega]; exact hb) (Int.le_refl _) (Int.le_refl _) (by omega) true (.inr rfl)
    rwa [show (0 : Int).toNat = 0 from rfl, lst_zero] at this
  -- the second two, upon a text of their own
  obtain ⟨RB, hRB⟩ : ∃ RB, cn false (IE 0 b S) = RB := ⟨_, rfl⟩
  have hB2 : RB = DC (cn false (oseg 0 S)) 0 false b := by
    rw [← hRB, ← DT_whole hb (Int.le_refl _) (Int.le_refl _) (by omega)]
    exact cn_DT (.inr rfl) (by rw [wdt_oseg]; exact hb) (Int.le_refl _) (Int.le_refl _) (by rw [wdt_oseg]; omega)
  have hHB : Hn S 0 true RB := by
    rw [hB2]
    have := Hn_DC (R := cn false (oseg 0 S)) (S := S) (Hn_U (by omega)) (c := b) (x := 0) (L := 0) (g := false) (.inr rfl) (by rw [hlU]; exact hb) (Int.le_refl _) (Int.le_refl _) (by rw [hlU]; omega) true (.inr rfl)
    rwa [show (0 : Int).toNat = 0 from rfl, lst_zero] at this
  have hlB : (RB.length : Int) - 1 = S + grw b := by rw [← hRB, cn_len, hwB]; omega
  have hge : 0 ≤ (S : Int) + grw b := by rw [← hwB]; exact wdt_ge _
  obtain ⟨T, hT⟩ : ∃ T, DT 0 (IE 0 b S) 0 c = T := ⟨_, rfl⟩
  obtain ⟨RT, hRT⟩ : ∃ RT, cn false T = RT := ⟨_, rfl⟩
  have hT2 : RT = DC RB 0 false c := by
    rw [← hRT, ← hT, ← hRB]
    exact cn_DT (.inr rfl) (by rw [hwB]; exact hc) (Int.le_refl _) (Int.le_refl _) (by rw [hwB]; exact hge)
  have hHT : Hn S 0 true RT := by
    rw [hT2]
    have := Hn_DC hHB (c := c) (x := 0) (L := 0) (g := false) (.inr rfl) (by rw [hlB]; exact hc) (Int.le_refl _) (Int.le_refl _) (by rw [hlB]; exact hge) true (.inr rfl)
    rwa [show (0 : Int).toNat = 0 from rfl, lst_zero] at this
  rw [hX, hY, hT]
  have hab : LT n 0 false [] Y = LC n 0 [] RY := by rw [LT_cn, hRY]
  have hbc : LT S 0 false [] T = LC S 0 [] RT := by rw [LT_cn, hRT]
  have hcab : chk n 0 (LT n 0 false [] Y) = 0 := by rw [hab]; exact LC_chk hHY (Int.le_refl _) []
  have hcbc : chk S 0 (LT S 0 false [] T) = 0 := by rw [hbc]; exact LC_chk hHT (Int.le_refl _) []
  have hIab : cn false (IE 0 (LT n 0 false [] Y) n) = RY := by rw [hab]; exact LC_IE hHY (Int.le_refl _) [] (fun h => absurd rfl h)
  have hIbc : cn false (IE 0 (LT S 0 false [] T) S) = RT := by rw [hbc]; exact LC_IE hHT (Int.le_refl _) [] (fun h => absurd rfl h)
  have hsX : (cn false (oseg 0 S)).map (sub1 RX) = RX := sub_U (p := 0) hlX
  have hRYs : RY = RB.map (sub1 RX) := by rw [hB2, sub_DC, hsX, hY2]
  have hlY : (RY.length : Int) - 1 = S + grw b := by rw [hRYs, List.length_map]; exact hlB
  have hwab : wdt (IE 0 (LT n 0 false [] Y) n) = S + grw b := by
    have := cn_len false (IE 0 (LT n 0 false [] Y) n)
    rw [hIab] at this; omega
  refine ⟨?_, hcab, hcbc, ?_⟩
  · obtain ⟨AB, hAB⟩ : ∃ AB, LT n 0 false [] Y = AB := ⟨_, rfl⟩
    obtain ⟨BC, hBC⟩ : ∃ BC, LT S 0 false [] T = BC := ⟨_, rfl⟩
    rw [hAB] at hIab hwab
    rw [hBC] at hcbc hIbc
    rw [hAB, hBC]
    have e1 : LT n 0 false [] (DT 0 (IE 0 AB n) 0 c) = LC n 0 [] (RT.map (sub1 RX)) := by
      rw [LT_cn, cn_DT (Y := IE 0 AB n) (L := 0) (.inr rfl) (by rw [hwab]; exact hc) (Int.le_refl _) (Int.le_refl _) (by rw [hwab]; exact hge), hIab, hRYs, ← sub_DC, ← hT2]
    have hd := cn_DT (Y := oseg 0 S) (c := BC) (x := 0) (L := 0) (g := false) (.inr rfl) (by rw [wdt_oseg]; exact hcbc) (Int.le_refl _) (Int.le_refl _) (by rw [wdt_oseg]; omega)
    rw [DT_whole hcbc (Int.le_refl _) (Int.le_refl _) (by omega), hIbc] at hd
    have e2 : LT n 0 false [] (DT 0 X 0 BC) = LC n 0 [] (RT.map (sub1 RX)) := by
      rw [LT_cn, cn_DT (Y := X) (L := 0) (.inr rfl) (by rw [hwX]; exact hcbc) (Int.le_refl _) (Int.le_refl _) (by rw [hwX]; omega), hRX, hd, sub_DC, hsX]
    rw [e1, e2]
  · rw [← hwab, wdt_IE (ch_chk hcab (Int.le_refl _) (by omega))]; omega
end Go.Proofs.Ytniamjbieciilaa
