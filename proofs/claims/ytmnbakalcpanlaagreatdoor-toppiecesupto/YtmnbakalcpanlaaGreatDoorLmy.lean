import Derived.Test.YtmnbakalcpanlaaGreatDoorLmu
namespace Go.Proofs.YtmnbakalcpanlaaGreatDoor
open Go.ChangeShapes Go.WideShapes Go.ChangeAt Go.RowKit Go.Maps Go.WideMaps
set_option linter.unusedVariables false
set_option linter.unusedSimpArgs false

/-- is there a line feed in a piece? -/
def nlc (s : ByteArray) (q : Tk) : Bool := decide (0 ≤ Lib.indexByte (s.extract q.f.toNat q.t.toNat).data.toList 10)
/-- does a line, or the source, end ahead of the next token? -/
def aft (s : ByteArray) : List Tk → Bool
  | [] => true
  | q :: r => if q.k = 0 ∨ q.k = 1 then (if nlc s q then true else aft s r) else false
/-- the semicolons put in -/
def wau (s : ByteArray) : List Tk → List Tk
  | [] => []
  | p :: r => (p :: (if ask p.k.toNat && aft s r then [(⟨6, p.t, p.t⟩ : Tk)] else [])) ++ wau s r
theorem wau_step (s : ByteArray) (ts : List Tk) (i : Nat) (q : Tk) (h : ts[i]? = some q) : wau s (ts.drop i) = (q :: (if ask q.k.toNat && aft s (ts.drop (i + 1)) then [(⟨6, q.t, q.t⟩ : Tk)] else [])) ++ wau s (ts.drop (i + 1)) := by
  have hi := (List.getElem?_eq_some_iff.1 h).1
  rw [List.drop_eq_getElem_cons hi]
  have : ts[i] = q := (List.getElem?_eq_some_iff.1 h).2
  rw [this, wau]
theorem aft_step (s : ByteArray) (ts : List Tk) (i : Nat) (q : Tk) (h : ts[i]? = some q) : aft s (ts.drop i) = if q.k = 0 ∨ q.k = 1 then (if nlc s q then true else aft s (ts.drop (i + 1))) else false := by
  have hi := (List.getElem?_eq_some_iff.1 h).1
  rw [List.drop_eq_getElem_cons hi]
  have : ts[i] = q := (List.getElem?_eq_some_iff.1 h).2
  rw [this, aft]
set_option maxRecDepth 1000000 in
theorem isTok_no (k : Nat) (h : k = 0 ∨ k = 1) (w : World) : Calls Tryz.prog 41 #[.int .u8 (k : Int)] w fun e w' => e = .returned (.bool false) ∧ w' = w := by
  rcases h with rfl | rfl
  all_goals
    go_enter Tryz.func41, Tryz.ntmps41
    go_wp2
    go_ret
    exact ⟨rfl, rfl⟩
theorem flat_one (acc : List Tk) (k f t : Int) : flat (acc ++ [(⟨k, f, t⟩ : Tk)]) = flat acc ++ [.int .u8 k, .int .i64 f, .int .i64 t] := by
  unfold flat
  rw [List.flatMap_append]
  rfl

set_option maxRecDepth 1000000 in
set_option maxHeartbeats 8000000 in
theorem withAutos_some (s : ByteArray) (hs : s.size ≤ 4294967280) (g c : Nat) (ts : List Tk) (hq : ∀ q ∈ ts, ∃ k f t : Nat, q = ⟨k, f, t⟩ ∧ k < 80 ∧ f ≤ t ∧ t ≤ s.size) (hc : ts.length ≤ c) (hl : ts.length ≤ s.size) (w : World) (h : Lies w g 0 ts) :
    Calls Tryz.prog 15 #[.string s, .slice (some ⟨g, 0, none⟩) ts.length c] w fun e w' => ∃ v, e = .returned v ∧ w'.ownsRow w.heap.size 50 3 v (wau s ts).length (flat (wau s ts)) ∧ Below w.heap.size w w' := by
  obtain ⟨i0, hi, hz0, hz1, hz2⟩ := info_parts (show (Tryz.prog.info? 50).map (fun i => (i.zero, i.size, i.bytes)) = some (some (.agg #[.int .u8 0, .int .i64 0, .int .i64 0]), 3, 24) by kernel_rfl)
  have HQ : Hid (∀ q ∈ ts, ∃ k f t : Nat, q = ⟨k, f, t⟩ ∧ k < 80 ∧ f ≤ t ∧ t ≤ s.size) := hq
  have HL : Hid (∀ v, Below w.heap.size w v → ∀ (i k f t : Nat), ts[i]? = some (⟨k, f, t⟩ : Tk) → v.cell? ⟨g, i * 3, none⟩ = some (.int .u8 (k : Int)) ∧ v.cell? ⟨g, i * 3 + 1, none⟩ = some (.int .i64 (f : Int)) ∧ v.cell? ⟨g, i * 3 + 2, none⟩ = some (.int .i64 (t : Int))) := fun v hv i k f t he => by
    have hh := h.below hv h.1
    have a0 := hh.get he 0 (.int .u8 (k : Int)) rfl
    have a1 := hh.get he 1 (.int .i64 (f : Int)) rfl
    have a2 := hh.get he 2 (.int .i64 (t : Int)) rfl
    simp only [Nat.zero_add] at a0 a1 a2
    exact ⟨a0, a1, a2⟩
  have hg : g < w.heap.size := h.1
  clear hq h
  go_enter Tryz.func15, Tryz.ntmps15
  go_wp2
  go_step3
  go_wp2
  go_step3
  go_wp2
  go_loopw [5, 12] (fun so si wr => ∃ (i : Nat) (acc : List Tk), i ≤ ts.length ∧ si = .int .i64 (i : Int) ∧ acc.length ≤ 2 * i ∧ acc ++ wau s (ts.drop i) = wau s ts ∧ wr.ownsRow w.heap.size 50 3 so acc.length (flat acc) ∧ Below w.heap.size w wr) (fun _ si _ => ts.length - (intOf si).toNat)
  case atStart => exact ⟨0, [], Nat.zero_le _, rfl, by simp, rfl, World.ownsRow_nil _ _ _ _, Below.refl _ _⟩
  case round =>
    obtain ⟨i, acc, hil, rfl, hal, hacc, hown, hbel⟩ := hrel
    have HA : Hid (acc ++ wau s (ts.drop i) = wau s ts) := hacc
    have HO : Hid (wr.ownsRow w.heap.size 50 3 u5 acc.length (flat acc)) := hown
    have HB : Hid (Below w.heap.size w wr) := hbel
    clear hacc hown hbel
    have hgr : g < wr.heap.size := by have := HB.out.size; omega
    by_cases hlt : i < ts.length
    · have hlt' : (i : Int) < (ts.length : Int) := by omega
      obtain ⟨q, hqi⟩ : ∃ q, ts[i]? = some q := ⟨_, List.getElem?_eq_getElem hlt⟩
      obtain ⟨k, f, t, rfl, hk80, hft, hts⟩ := HQ.out q (List.mem_of_getElem? hqi)
      obtain ⟨c0, c1, c2⟩ := HL.out wr HB.out i k f t hqi
      have hst := wau_step s ts i _ hqi
      simp only [Int.toNat_natCast] at hst
      have HAK : Hid (∀ v, Calls Tryz.prog 40 #[.int .u8 (k : Int)] v fun e w' => e = .returned (.bool (ask k)) ∧ w' = v) := fun v => asks_any k (by omega) v
      cases hZ : ask k with
      | false =>
        rw [hZ] at HAK hst
        have HN : Hid ((acc ++ [(⟨k, f, t⟩ : Tk)]) ++ wau s (ts.drop (i + 1)) = wau s ts) := by unfold Hid; rw [← HA.out, hst]; simp
        clear hst hZ
        go_wp2_with (first
          | (go_at_call 40; (with_reducible refine (HAK.out _).mono ?_); rintro e w4 ⟨rfl, hw4⟩; have hw5 := hw4.symm; clear hw4; subst hw5)
          | (at_builtin; (refine wpList_append_at _ rfl (.tmp 17) (.tmp 19) 23 rfl w.heap.size 50 i0 (.agg #[.int .u8 0, .int .i64 0, .int .i64 0]) 3 24 Tryz.underlying23 hi hz0 hz1 hz2 rfl (by decide) _ acc.length (flat acc) rfl ((HO.out.alloc _).alloc _) (some ⟨_, 0, none⟩) 1 1 [.int .u8 (k : Int), .int .i64 (f : Int), .int .i64 (t : Int)] rfl rfl (fun h => by cases h) (fun ad had => by cases had; exact cells_new2 _ _ _ _) (fun u hu => by simp at hu; rcases hu with rfl | rfl | rfl <;> rfl) (by unfold maxLen; omega) (by omega) (by have := HB.out.size; simp; omega) ?_); intro v9 w9 ho9 hg9 _; have HO9 : Hid (w9.ownsRow w.heap.size 50 3 v9 (acc ++ [(⟨k, f, t⟩ : Tk)]).length (flat (acc ++ [(⟨k, f, t⟩ : Tk)]))) := (by unfold Hid; rw [flat_one, List.length_append]; exact ho9); have HB9 : Hid (Below w.heap.size w w9) := ((HB.out.alloc HB.out.size _).alloc (by have := HB.out.size; simp; omega) _).grown hg9 (by have := HB.out.size; simp; omega) (fun j hj => (HO.out.lt j hj).1); have X5 := ((Bx.new wr #[.int .u8 (k : Int), .int .i64 (f : Int), .int .i64 (t : Int)] 50).alloc (.cells #[.int .u8 (k : Int), .int .i64 (f : Int), .int .i64 (t : Int)] 50)); have X9 : Bx w9 wr.heap.size #[.int .u8 (k : Int), .int .i64 (f : Int), .int .i64 (t : Int)] 50 := (hg9.block wr.heap.size X5.lt (fun e => by have := (HO.out.lt _ e.symm).2; omega)).trans X5; have HXX : Hid (Bx w9 wr.heap.size #[.int .u8 (k : Int), .int .i64 (f : Int), .int .i64 (t : Int)] 50) := X9; have k0 := X9.cell 0; simp at k0; have kz := X9.lt; clear X5 X9 ho9 hg9))
        exact ⟨⟨i + 1, acc ++ [(⟨k, f, t⟩ : Tk)], by omega, by go_num, by simp; omega, HN.out, HO9.out, HB9.out⟩, by simp [intOf]; omega⟩
      | true =>
        rw [hZ] at HAK hst
        simp only [Bool.true_and] at hst
        have HN : Hid ((acc ++ [(⟨k, f, t⟩ : Tk)]) ++ ((if aft s (ts.drop (i + 1)) then [(⟨6, t, t⟩ : Tk)] else []) ++ wau s (ts.drop (i + 1))) = wau s ts) := by unfold Hid; rw [← HA.out, hst]; simp
        have hic : ((i : Int) + 1) ≤ (ts.length : Int) := by omega
        have hic2 : ((i : Int) + 1) ≤ (c : Int) := by omega
        clear hst hZ
        by_cases hlast : ts.length = i + 1
        · have HLS : Hid (ts.length = i + 1) := hlast
          clear hlast
          go_wp2_with (first
            | (go_at_call 40; (with_reducible refine (HAK.out _).mono ?_); rintro e w4 ⟨rfl, hw4⟩; have hw5 := hw4.symm; clear hw4; subst hw5)
            | (at_builtin; (refine wpList_append_at _ rfl (.tmp 17) (.tmp 19) 23 rfl w.heap.size 50 i0 (.agg #[.int .u8 0, .int .i64 0, .int .i64 0]) 3 24 Tryz.underlying23 hi hz0 hz1 hz2 rfl (by decide) _ acc.length (flat acc) rfl ((HO.out.alloc _).alloc _) (some ⟨_, 0, none⟩) 1 1 [.int .u8 (k : Int), .int .i64 (f : Int), .int .i64 (t : Int)] rfl rfl (fun h => by cases h) (fun ad had => by cases had; exact cells_new2 _ _ _ _) (fun u hu => by simp at hu; rcases hu with rfl | rfl | rfl <;> rfl) (by unfold maxLen; omega) (by omega) (by have := HB.out.size; simp; omega) ?_); intro v9 w9 ho9 hg9 _; have HO9 : Hid (w9.ownsRow w.heap.size 50 3 v9 (acc ++ [(⟨k, f, t⟩ : Tk)]).length (flat (acc ++ [(⟨k, f, t⟩ : Tk)]))) := (by unfold Hid; rw [flat_one, List.length_append]; exact ho9); have HB9 : Hid (Below w.heap.size w w9) := ((HB.out.alloc HB.out.size _).alloc (by have := HB.out.size; simp; omega) _).grown hg9 (by have := HB.out.size; simp; omega) (fun j hj => (HO.out.lt j hj).1); have X5 := ((Bx.new wr #[.int .u8 (k : Int), .int .i64 (f : Int), .int .i64 (t : Int)] 50).alloc (.cells #[.int .u8 (k : Int), .int .i64 (f : Int), .int .i64 (t : Int)] 50)); have X9 : Bx w9 wr.heap.size #[.int .u8 (k : Int), .int .i64 (f : Int), .int .i64 (t : Int)] 50 := (hg9.block wr.heap.size X5.lt (fun e => by have := (HO.out.lt _ e.symm).2; omega)).trans X5; have HXX : Hid (Bx w9 wr.heap.size #[.int .u8 (k : Int), .int .i64 (f : Int), .int .i64 (t : Int)] 50) := X9; have k0 := X9.cell 0; simp at k0; have kz := X9.lt; clear X5 X9 ho9 hg9))
          all_goals
            have HX9 : Hid (Bx w9 wr.heap.size #[.int .u8 (k : Int), .int .i64 (f : Int), .int .i64 (t : Int)] 50) := HXX.out
            obtain ⟨R, hR⟩ : ∃ R, ts.length - (i + 1) = R := ⟨_, rfl⟩
            rw [hR]
            clear k0 kz HXX HO HA
            generalize wr.heap.size = P at HX9 ⊢
            go_loopw [30] (fun sj wi => ∃ j : Nat, j ≤ R ∧ sj = .int .i64 (j : Int) ∧ aft s (ts.drop (i + 1 + j)) = aft s (ts.drop (i + 1)) ∧ wi.ownsRow w.heap.size 50 3 v9 (acc ++ [(⟨k, f, t⟩ : Tk)]).length (flat (acc ++ [(⟨k, f, t⟩ : Tk)])) ∧ Below w.heap.size w wi ∧ Bx wi P #[.int .u8 (k : Int), .int .i64 (f : Int), .int .i64 (t : Int)] 50) (fun sj _ => R - (intOf sj).toNat)
            case atStart => exact ⟨0, Nat.zero_le _, rfl, rfl, HO9.out, HB9.out, HX9.out⟩
            case round =>
              obtain ⟨j, hj, rfl, haf, hoz, hbz, hxz⟩ := hrel
              have HOz : Hid (wr.ownsRow w.heap.size 50 3 v9 (acc ++ [(⟨k, f, t⟩ : Tk)]).length (flat (acc ++ [(⟨k, f, t⟩ : Tk)]))) := hoz
              have HBz : Hid (Below w.heap.size w wr) := hbz
              have HXz : Hid (Bx wr P #[.int .u8 (k : Int), .int .i64 (f : Int), .int .i64 (t : Int)] 50) := hxz
              have HAF : Hid (aft s (ts.drop (i + 1 + j)) = aft s (ts.drop (i + 1))) := haf
              have y0 := hxz.cell 0
              have y1 := hxz.cell 1
              have y2 := hxz.cell 2
              have yz := hxz.lt
              simp at y0 y1 y2
              have hgz : g < wr.heap.size := by have := hbz.size; omega
              clear hoz hbz hxz haf
              have hjR : ¬ (j : Int) < (R : Int) := by have := HLS.out; omega
              have HT : Hid (aft s (ts.drop (i + 1)) = true) := by unfold Hid; rw [List.drop_of_length_le (by have := HLS.out; omega)]; rfl
              go_wp2_with (at_builtin; (refine wpList_append_at _ rfl (.tmp 45) (.tmp 51) 23 rfl w.heap.size 50 i0 (.agg #[.int .u8 0, .int .i64 0, .int .i64 0]) 3 24 Tryz.underlying23 hi hz0 hz1 hz2 rfl (by decide) _ (acc ++ [(⟨k, f, t⟩ : Tk)]).length (flat (acc ++ [(⟨k, f, t⟩ : Tk)])) rfl (HOz.out.alloc _) (some ⟨_, 0, none⟩) 1 1 [.int .u8 6, .int .i64 (t : Int), .int .i64 (t : Int)] rfl rfl (fun h => by cases h) (fun ad had => by cases had; exact cells_new _ _ _) (fun u hu => by simp at hu; rcases hu with rfl | rfl | rfl <;> rfl) (by unfold maxLen; simp; omega) (by simp; omega) (by have := HBz.out.size; simp; omega) ?_); intro v8 w8 ho8 hg8 _; have HO8 : Hid (w8.ownsRow w.heap.size 50 3 v8 ((acc ++ [(⟨k, f, t⟩ : Tk)]) ++ [(⟨6, t, t⟩ : Tk)]).length (flat ((acc ++ [(⟨k, f, t⟩ : Tk)]) ++ [(⟨6, t, t⟩ : Tk)]))) := (by unfold Hid; rw [flat_one, List.length_append]; exact ho8); have HB8 : Hid (Below w.heap.size w w8) := (HBz.out.alloc HBz.out.size _).grown hg8 (by have := HBz.out.size; simp; omega) (fun j hj => (HOz.out.lt j hj).1); clear ho8 hg8)
              first
              | exact ⟨⟨i + 1, (acc ++ [(⟨k, f, t⟩ : Tk)]) ++ [(⟨6, t, t⟩ : Tk)], by omega, by go_num, by simp; omega, by have := HN.out; rw [HT.out] at this; simpa using this, HO8.out, HB8.out⟩, by have := HLS.out; simp [intOf]; omega⟩
              | exact ⟨⟨v8, .int .i64 (i : Int), .pointer (some ⟨P, 0, none⟩), _, .int .i64 ((i : Int) + 1), ⟨i + 1, by have := HLS.out; omega, by go_num, (acc ++ [(⟨k, f, t⟩ : Tk)]) ++ [(⟨6, t, t⟩ : Tk)], by simp; omega, by have := HN.out; rw [HT.out] at this; simpa using this, HO8.out, HB8.out⟩, rfl, rfl, rfl, rfl, rfl⟩, by have := HLS.out; simp [intOf]; omega⟩
        · go_wp2_with (first
            | (go_at_call 40; (with_reducible refine (HAK.out _).mono ?_); rintro e w4 ⟨rfl, hw4⟩; have hw5 := hw4.symm; clear hw4; subst hw5)
            | (at_builtin; (refine wpList_append_at _ rfl (.tmp 17) (.tmp 19) 23 rfl w.heap.size 50 i0 (.agg #[.int .u8 0, .int .i64 0, .int .i64 0]) 3 24 Tryz.underlying23 hi hz0 hz1 hz2 rfl (by decide) _ acc.length (flat acc) rfl ((HO.out.alloc _).alloc _) (some ⟨_, 0, none⟩) 1 1 [.int .u8 (k : Int), .int .i64 (f : Int), .int .i64 (t : Int)] rfl rfl (fun h => by cases h) (fun ad had => by cases had; exact cells_new2 _ _ _ _) (fun u hu => by simp at hu; rcases hu with rfl | rfl | rfl <;> rfl) (by unfold maxLen; omega) (by omega) (by have := HB.out.size; simp; omega) ?_); intro v9 w9 ho9 hg9 _; have HO9 : Hid (w9.ownsRow w.heap.size 50 3 v9 (acc ++ [(⟨k, f, t⟩ : Tk)]).length (flat (acc ++ [(⟨k, f, t⟩ : Tk)]))) := (by unfold Hid; rw [flat_one, List.length_append]; exact ho9); have HB9 : Hid (Below w.heap.size w w9) := ((HB.out.alloc HB.out.size _).alloc (by have := HB.out.size; simp; omega) _).grown hg9 (by have := HB.out.size; simp; omega) (fun j hj => (HO.out.lt j hj).1); have X5 := ((Bx.new wr #[.int .u8 (k : Int), .int .i64 (f : Int), .int .i64 (t : Int)] 50).alloc (.cells #[.int .u8 (k : Int), .int .i64 (f : Int), .int .i64 (t : Int)] 50)); have X9 : Bx w9 wr.heap.size #[.int .u8 (k : Int), .int .i64 (f : Int), .int .i64 (t : Int)] 50 := (hg9.block wr.heap.size X5.lt (fun e => by have := (HO.out.lt _ e.symm).2; omega)).trans X5; have HXX : Hid (Bx w9 wr.heap.size #[.int .u8 (k : Int), .int .i64 (f : Int), .int .i64 (t : Int)] 50) := X9; have k0 := X9.cell 0; simp at k0; have kz := X9.lt; clear X5 X9 ho9 hg9))
          have HX9 : Hid (Bx w9 wr.heap.size #[.int .u8 (k : Int), .int .i64 (f : Int), .int .i64 (t : Int)] 50) := HXX.out
          obtain ⟨R, hR⟩ : ∃ R, ts.length - (i + 1) = R := ⟨_, rfl⟩
          rw [hR]
          clear k0 kz HXX HO HA
          generalize wr.heap.size = P at HX9 ⊢
          go_loopw [30] (fun sj wi => ∃ j : Nat, j ≤ R ∧ sj = .int .i64 (j : Int) ∧ aft s (ts.drop (i + 1 + j)) = aft s (ts.drop (i + 1)) ∧ wi.ownsRow w.heap.size 50 3 v9 (acc ++ [(⟨k, f, t⟩ : Tk)]).length (flat (acc ++ [(⟨k, f, t⟩ : Tk)])) ∧ Below w.heap.size w wi ∧ Bx wi P #[.int .u8 (k : Int), .int .i64 (f : Int), .int .i64 (t : Int)] 50) (fun sj _ => R - (intOf sj).toNat)
          case atStart => exact ⟨0, Nat.zero_le _, rfl, rfl, HO9.out, HB9.out, HX9.out⟩
          case round =>
            obtain ⟨j, hj, rfl, haf, hoz, hbz, hxz⟩ := hrel
            have HOz : Hid (wr.ownsRow w.heap.size 50 3 v9 (acc ++ [(⟨k, f, t⟩ : Tk)]).length (flat (acc ++ [(⟨k, f, t⟩ : Tk)]))) := hoz
            have HBz : Hid (Below w.heap.size w wr) := hbz
            have HXz : Hid (Bx wr P #[.int .u8 (k : Int), .int .i64 (f : Int), .int .i64 (t : Int)] 50) := hxz
            have HAF : Hid (aft s (ts.drop (i + 1 + j)) = aft s (ts.drop (i + 1))) := haf
            have y0 := hxz.cell 0
            have y1 := hxz.cell 1
            have y2 := hxz.cell 2
            have yz := hxz.lt
            simp at y0 y1 y2
            have hgz : g < wr.heap.size := by have := hbz.size; omega
            clear hoz hbz hxz haf
            by_cases hjR : j < R
            · have hjR' : (j : Int) < (R : Int) := by omega
              obtain ⟨q2, hq2⟩ : ∃ q, ts[i + 1 + j]? = some q := ⟨_, List.getElem?_eq_getElem (by omega)⟩
              obtain ⟨k2, f2, t2, rfl, hk2, hft2, hts2⟩ := HQ.out q2 (List.mem_of_getElem? hq2)
              obtain ⟨d0, d1, d2⟩ := HL.out wr HBz.out (i + 1 + j) k2 f2 t2 hq2
              rw [Nat.add_mul (i + 1) j 3] at d0 d1 d2
              have haf2 := aft_step s ts (i + 1 + j) _ hq2
              have hft2' : (f2 : Int) ≤ (t2 : Int) := by omega
              have hts2' : (t2 : Int) ≤ (s.size : Int) := by omega
              by_cases hkk : k2 = 0 ∨ k2 = 1
              · rw [if_pos (by rcases hkk with rfl | rfl <;> simp)] at haf2
                have HTK : Hid (∀ v, Calls Tryz.prog 41 #[.int .u8 (k2 : Int)] v fun e w' => e = .returned (.bool false) ∧ w' = v) := fun v => isTok_no k2 hkk v
                have HCT : Hid (∀ v, Calls Tryz.prog 42 #[.string (s.extract f2 t2), .string ⟨#[10]⟩] v fun e w' => e = .returned (.bool (nlc s (⟨k2, f2, t2⟩ : Tk))) ∧ w' = v) := fun v => Tryz.strings_Contains_one (s.extract f2 t2) 10 v
                obtain ⟨N, hN⟩ : ∃ N, nlc s (⟨k2, f2, t2⟩ : Tk) = N := ⟨_, rfl⟩
                rw [hN] at HCT haf2
                clear hN
                cases N with
                | true =>
                  have HT : Hid (aft s (ts.drop (i + 1)) = true) := by unfold Hid; rw [← HAF.out, haf2]; rfl
                  clear haf2
                  go_wp2_with (first
                    | (go_at_call 41; (with_reducible refine (HTK.out _).mono ?_); rintro e w4 ⟨rfl, hw4⟩; have hw5 := hw4.symm; clear hw4; subst hw5)
                    | (go_at_call 42; (with_reducible refine (HCT.out _).mono ?_); rintro e w4 ⟨rfl, hw4⟩; have hw5 := hw4.symm; clear hw4; subst hw5)
                    | (at_builtin; (refine wpList_append_at _ rfl (.tmp 45) (.tmp 51) 23 rfl w.heap.size 50 i0 (.agg #[.int .u8 0, .int .i64 0, .int .i64 0]) 3 24 Tryz.underlying23 hi hz0 hz1 hz2 rfl (by decide) _ (acc ++ [(⟨k, f, t⟩ : Tk)]).length (flat (acc ++ [(⟨k, f, t⟩ : Tk)])) rfl ((HOz.out.alloc _).alloc _) (some ⟨_, 0, none⟩) 1 1 [.int .u8 6, .int .i64 (t : Int), .int .i64 (t : Int)] rfl rfl (fun h => by cases h) (fun ad had => by cases had; exact cells_new2 _ _ _ _) (fun u hu => by simp at hu; rcases hu with rfl | rfl | rfl <;> rfl) (by unfold maxLen; simp; omega) (by simp; omega) (by have := HBz.out.size; simp; omega) ?_); intro v8 w8 ho8 hg8 _; have HO8 : Hid (w8.ownsRow w.heap.size 50 3 v8 ((acc ++ [(⟨k, f, t⟩ : Tk)]) ++ [(⟨6, t, t⟩ : Tk)]).length (flat ((acc ++ [(⟨k, f, t⟩ : Tk)]) ++ [(⟨6, t, t⟩ : Tk)]))) := (by unfold Hid; rw [flat_one, List.length_append]; exact ho8); have HB8 : Hid (Below w.heap.size w w8) := ((HBz.out.alloc HBz.out.size _).alloc (by have := HBz.out.size; simp; omega) _).grown hg8 (by have := HBz.out.size; simp; omega) (fun j hj => (HOz.out.lt j hj).1); clear ho8 hg8))
                  exact ⟨⟨i + 1, (acc ++ [(⟨k, f, t⟩ : Tk)]) ++ [(⟨6, t, t⟩ : Tk)], by omega, by go_num, by simp; omega, by have := HN.out; rw [HT.out] at this; simpa using this, HO8.out, HB8.out⟩, by simp [intOf]; omega⟩
                | false =>
                  have HT2 : Hid (aft s (ts.drop (i + 1 + (j + 1))) = aft s (ts.drop (i + 1))) := by unfold Hid; rw [← HAF.out, haf2]; rfl
                  clear haf2
                  go_wp2_with (first
                    | (go_at_call 41; (with_reducible refine (HTK.out _).mono ?_); rintro e w4 ⟨rfl, hw4⟩; have hw5 := hw4.symm; clear hw4; subst hw5)
                    | (go_at_call 42; (with_reducible refine (HCT.out _).mono ?_); rintro e w4 ⟨rfl, hw4⟩; have hw5 := hw4.symm; clear hw4; subst hw5))
                  go_roundw
                  case rel => exact ⟨j + 1, by omega, by go_num, HT2.out, HOz.out.alloc _, HBz.out.alloc HBz.out.size _, HXz.out.alloc _⟩
                  case measure => simp [intOf]; omega
              · rw [if_neg (by simp; omega)] at haf2
                have HT : Hid (aft s (ts.drop (i + 1)) = false) := by unfold Hid; rw [← HAF.out, haf2]
                have HTK : Hid (∀ v, Calls Tryz.prog 41 #[.int .u8 (k2 : Int)] v fun e w' => e = .returned (.bool true) ∧ w' = v) := fun v => isTok_any k2 (by omega) (by omega) v
                clear haf2
                go_wp2_with (go_at_call 41; (with_reducible refine (HTK.out _).mono ?_); rintro e w4 ⟨rfl, hw4⟩; have hw5 := hw4.symm; clear hw4; subst hw5)
                exact ⟨⟨i + 1, acc ++ [(⟨k, f, t⟩ : Tk)], by omega, by go_num, by simp; omega, by have := HN.out; rw [HT.out] at this; simpa using this, HOz.out.alloc _, HBz.out.alloc HBz.out.size _⟩, by simp [intOf]; omega⟩
            · have hjR' : ¬ (j : Int) < (R : Int) := by omega
              have HT : Hid (aft s (ts.drop (i + 1)) = true) := by unfold Hid; rw [← HAF.out, List.drop_of_length_le (by omega)]; rfl
              go_wp2_with (at_builtin; (refine wpList_append_at _ rfl (.tmp 45) (.tmp 51) 23 rfl w.heap.size 50 i0 (.agg #[.int .u8 0, .int .i64 0, .int .i64 0]) 3 24 Tryz.underlying23 hi hz0 hz1 hz2 rfl (by decide) _ (acc ++ [(⟨k, f, t⟩ : Tk)]).length (flat (acc ++ [(⟨k, f, t⟩ : Tk)])) rfl (HOz.out.alloc _) (some ⟨_, 0, none⟩) 1 1 [.int .u8 6, .int .i64 (t : Int), .int .i64 (t : Int)] rfl rfl (fun h => by cases h) (fun ad had => by cases had; exact cells_new _ _ _) (fun u hu => by simp at hu; rcases hu with rfl | rfl | rfl <;> rfl) (by unfold maxLen; simp; omega) (by simp; omega) (by have := HBz.out.size; simp; omega) ?_); intro v8 w8 ho8 hg8 _; have HO8 : Hid (w8.ownsRow w.heap.size 50 3 v8 ((acc ++ [(⟨k, f, t⟩ : Tk)]) ++ [(⟨6, t, t⟩ : Tk)]).length (flat ((acc ++ [(⟨k, f, t⟩ : Tk)]) ++ [(⟨6, t, t⟩ : Tk)]))) := (by unfold Hid; rw [flat_one, List.length_append]; exact ho8); have HB8 : Hid (Below w.heap.size w w8) := (HBz.out.alloc HBz.out.size _).grown hg8 (by have := HBz.out.size; simp; omega) (fun j hj => (HOz.out.lt j hj).1); clear ho8 hg8)
              exact ⟨⟨i + 1, (acc ++ [(⟨k, f, t⟩ : Tk)]) ++ [(⟨6, t, t⟩ : Tk)], by omega, by go_num, by simp; omega, by have := HN.out; rw [HT.out] at this; simpa using this, HO8.out, HB8.out⟩, by simp [intOf]; omega⟩
    · have hge : ¬ (i : Int) < (ts.length : Int) := by omega
      have hdr : ts.drop i = [] := List.drop_of_length_le (by omega)
      have hae : acc = wau s ts := by have := HA.out; rw [hdr] at this; simpa [wau] using this
      subst hae
      go_wp2
      first | rw [Exit.noGoto_ret] | skip
      go_ret
      exact ⟨_, rfl, HO.out, HB.out⟩
end Go.Proofs.YtmnbakalcpanlaaGreatDoor
