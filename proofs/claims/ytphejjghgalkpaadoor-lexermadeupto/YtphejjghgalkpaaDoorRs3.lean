import Derived.Test.YtphejjghgalkpaaDoorLmy
import Derived.Test.YtphejjghgalkpaaDoorRs4
namespace Go.Proofs.YtphejjghgalkpaaDoor
open Go.ChangeShapes Go.WideShapes Go.ChangeAt Go.RowKit Go.Maps Go.WideMaps
set_option linter.unusedVariables false
set_option linter.unusedSimpArgs false

theorem infoTkR : (Tryd.prog.info? 41).map (fun i => (i.zero, i.size, i.bytes)) = some (some (.agg #[.int .u8 0, .int .i64 0, .int .i64 0]), 3, 24) := by kernel_rfl
/-- the tokens of a list, but for autos -/
def nau (xs : List Tk) : List Tk := xs.filter (fun q => decide (q.k ≠ 6))
theorem nau_step {xs : List Tk} {i : Nat} {q : Tk} (h : xs[i]? = some q) : nau (xs.drop i) = (if q.k ≠ 6 then [q] else []) ++ nau (xs.drop (i + 1)) := by
  have hi := (List.getElem?_eq_some_iff.1 h).1
  have e := (List.getElem?_eq_some_iff.1 h).2
  rw [List.drop_eq_getElem_cons hi, e]
  unfold nau
  by_cases h6 : q.k ≠ 6
  · rw [List.filter_cons_of_pos (by simpa using h6), if_pos h6]; rfl
  · rw [List.filter_cons_of_neg (by simpa using h6), if_neg h6]; rfl
set_option maxRecDepth 1000000 in
set_option maxHeartbeats 8000000 in
theorem withoutAutos_any (a : Option Addr) (c : Nat) (xs : List Tk) (w : World) (h : LiesA w a xs) (hl : xs.length ≤ 4398046510976) :
    Calls Tryd.prog 19 #[.slice a xs.length c] w fun e w' => ∃ v, e = .returned v ∧ w'.ownsRow w.heap.size 41 3 v (nau xs).length (flat (nau xs)) ∧ Below w.heap.size w w' := by
  obtain ⟨i0, hi, hz0, hz1, hz2⟩ := info_parts infoTkR
  have HL : Hid (LiesA w a xs) := h
  clear h
  go_enter Tryd.func19, Tryd.ntmps19
  go_wp2
  go_loopw [3, 8] (fun so si wr => ∃ (i : Nat) (acc : List Tk), i ≤ xs.length ∧ si = .int .i64 (i : Int) ∧ acc.length ≤ i ∧ acc ++ nau (xs.drop i) = nau xs ∧ wr.ownsRow w.heap.size 41 3 so acc.length (flat acc) ∧ Below w.heap.size w wr) (fun _ si _ => xs.length - (intOf si).toNat)
  case atStart => exact ⟨0, [], Nat.zero_le _, rfl, by simp, rfl, World.ownsRow_nil _ _ _ _, Below.refl _ _⟩
  case round =>
    obtain ⟨i, acc, hil, rfl, hal, hacc, hown, hbel⟩ := hrel
    have HA : Hid (acc ++ nau (xs.drop i) = nau xs) := hacc
    have HO : Hid (wr.ownsRow w.heap.size 41 3 u3 acc.length (flat acc)) := hown
    have HB : Hid (Below w.heap.size w wr) := hbel
    clear hacc hown hbel
    by_cases hlt : i < xs.length
    · have hlt' : (i : Int) < (xs.length : Int) := by omega
      obtain ⟨⟨k, f, t⟩, hqi⟩ : ∃ q, xs[i]? = some q := ⟨_, List.getElem?_eq_getElem hlt⟩
      obtain ⟨g, o, rfl, hlg⟩ : ∃ g o, a = some ⟨g, o, none⟩ ∧ Lies w g o xs := by
        rcases HL.out with h | ⟨g, o, h1, h2⟩
        · rw [h] at hlt; simp at hlt
        · exact ⟨g, o, h1, h2⟩
      have hgr : g < wr.heap.size := by have := HB.out.size; have := hlg.1; omega
      obtain ⟨c0, c1, c2⟩ := hlg.tk HB.out hqi
      simp only at c0 c1 c2
      have hst := nau_step hqi
      simp only at hst
      clear hlg
      by_cases h6 : k = 6
      · have HN : Hid (acc ++ nau (xs.drop (i + 1)) = nau xs) := by unfold Hid; rw [← HA.out, hst, if_neg (by simpa using h6)]; rfl
        have hk6 : (k != 6) = false := by rw [h6]; rfl
        clear hst
        go_wp2
        exact ⟨⟨i + 1, acc, by omega, by go_num, by omega, HN.out, HO.out.alloc _, HB.out.alloc HB.out.size _⟩, by simp [intOf]; omega⟩
      · have HN : Hid ((acc ++ [(⟨k, f, t⟩ : Tk)]) ++ nau (xs.drop (i + 1)) = nau xs) := by unfold Hid; rw [← HA.out, hst, if_pos (by simpa using h6)]; simp
        have hk6 : (k != 6) = true := by simpa using h6
        clear hst
        go_wp2_with (at_builtin; (refine wpList_append_at _ rfl (.tmp 15) (.tmp 17) 24 rfl w.heap.size 41 i0 (.agg #[.int .u8 0, .int .i64 0, .int .i64 0]) 3 24 Tryd.underlying24 hi hz0 hz1 hz2 rfl (by decide) _ acc.length (flat acc) rfl ((HO.out.alloc _).alloc _) (some ⟨_, 0, none⟩) 1 1 [.int .u8 k, .int .i64 f, .int .i64 t] rfl rfl (fun h => by cases h) (fun ad had => by cases had; exact cells_new2 _ _ _ _) (fun u hu => by simp at hu; rcases hu with rfl | rfl | rfl <;> rfl) (by unfold maxLen; omega) (by omega) (by have := HB.out.size; simp; omega) ?_); intro v9 w9 ho9 hg9 _; have HO9 : Hid (w9.ownsRow w.heap.size 41 3 v9 (acc ++ [(⟨k, f, t⟩ : Tk)]).length (flat (acc ++ [(⟨k, f, t⟩ : Tk)]))) := (by unfold Hid; rw [flat_one, List.length_append]; exact ho9); have HB9 : Hid (Below w.heap.size w w9) := ((HB.out.alloc HB.out.size _).alloc (by have := HB.out.size; simp; omega) _).grown hg9 (by have := HB.out.size; simp; omega) (fun j hj => (HO.out.lt j hj).1); clear ho9 hg9)
        exact ⟨⟨i + 1, acc ++ [(⟨k, f, t⟩ : Tk)], by omega, by go_num, by simp; omega, HN.out, HO9.out, HB9.out⟩, by simp [intOf]; omega⟩
    · have hge : ¬ (i : Int) < (xs.length : Int) := by omega
      have HN : Hid (acc = nau xs) := by unfold Hid; rw [← HA.out, List.drop_of_length_le (by omega)]; simp [nau]
      go_wp2
      go_ret
      exact ⟨_, rfl, by rw [← HN.out]; exact HO.out, HB.out⟩

theorem unt_step {fr : Int} {xs : List Tk} {i : Nat} {q : Tk} (h : xs[i]? = some q) : unt fr (xs.drop i) = (if q.t + 2 > fr then [] else q :: unt fr (xs.drop (i + 1))) := by
  have hi := (List.getElem?_eq_some_iff.1 h).1
  have e := (List.getElem?_eq_some_iff.1 h).2
  rw [List.drop_eq_getElem_cons hi, e]
  rfl
theorem ute_step {fr a : Int} {xs : List Tk} {i : Nat} {q : Tk} (h : xs[i]? = some q) : ute fr a (xs.drop i) = (if q.t + 2 > fr then a else ute fr q.t (xs.drop (i + 1))) := by
  have hi := (List.getElem?_eq_some_iff.1 h).1
  have e := (List.getElem?_eq_some_iff.1 h).2
  rw [List.drop_eq_getElem_cons hi, e]
  rfl
set_option maxRecDepth 1000000 in
set_option maxHeartbeats 8000000 in
theorem untouchedL_any (a : Option Addr) (c : Nat) (xs : List Tk) (fr : Int) (w : World) (h : LiesA w a xs) (hl : xs.length ≤ 4398046510976) (hq : ∀ q ∈ xs, 0 ≤ q.t ∧ q.t ≤ 4294967296) :
    Calls Tryd.prog 38 #[.slice a xs.length c, .int .i64 fr] w fun e w' => ∃ v, e = .returned (.tuple #[v, .int .i64 (ute fr 0 xs)]) ∧ w'.ownsRow w.heap.size 41 3 v (unt fr xs).length (flat (unt fr xs)) ∧ Below w.heap.size w w' := by
  obtain ⟨i0, hi, hz0, hz1, hz2⟩ := info_parts infoTkR
  have HL : Hid (LiesA w a xs) := h
  have HQ : Hid (∀ q ∈ xs, 0 ≤ q.t ∧ q.t ≤ 4294967296) := hq
  clear h hq
  go_enter Tryd.func38, Tryd.ntmps38
  go_wp2
  go_loopw [6, 7, 12] (fun so sa si wr => ∃ (i : Nat) (at' : Int) (acc : List Tk), i ≤ xs.length ∧ si = .int .i64 (i : Int) ∧ sa = .int .i64 at' ∧ acc.length ≤ i ∧ acc ++ unt fr (xs.drop i) = unt fr xs ∧ ute fr at' (xs.drop i) = ute fr 0 xs ∧ wr.ownsRow w.heap.size 41 3 so acc.length (flat acc) ∧ Below w.heap.size w wr) (fun _ _ si _ => xs.length - (intOf si).toNat)
  case atStart => exact ⟨0, 0, [], Nat.zero_le _, rfl, rfl, by simp, rfl, rfl, World.ownsRow_nil _ _ _ _, Below.refl _ _⟩
  case round =>
    obtain ⟨i, at', acc, hil, rfl, rfl, hal, hacc, hat, hown, hbel⟩ := hrel
    have HA : Hid (acc ++ unt fr (xs.drop i) = unt fr xs) := hacc
    have HT : Hid (ute fr at' (xs.drop i) = ute fr 0 xs) := hat
    have HO : Hid (wr.ownsRow w.heap.size 41 3 u6 acc.length (flat acc)) := hown
    have HB : Hid (Below w.heap.size w wr) := hbel
    clear hacc hown hbel hat
    by_cases hlt : i < xs.length
    · have hlt' : (i : Int) < (xs.length : Int) := by omega
      obtain ⟨⟨k, f, t⟩, hqi⟩ : ∃ q, xs[i]? = some q := ⟨_, List.getElem?_eq_getElem hlt⟩
      obtain ⟨g, o, rfl, hlg⟩ : ∃ g o, a = some ⟨g, o, none⟩ ∧ Lies w g o xs := by
        rcases HL.out with h | ⟨g, o, h1, h2⟩
        · rw [h] at hlt; simp at hlt
        · exact ⟨g, o, h1, h2⟩
      have hgr : g < wr.heap.size := by have := HB.out.size; have := hlg.1; omega
      obtain ⟨c0, c1, c2⟩ := hlg.tk HB.out hqi
      obtain ⟨t1, t2⟩ := HQ.out _ (List.mem_of_getElem? hqi)
      simp only at c0 c1 c2 t1 t2
      have hst := unt_step (fr := fr) hqi
      have hsu := ute_step (fr := fr) (a := at') hqi
      simp only at hst hsu
      clear hlg
      by_cases hgt : t + 2 > fr
      · rw [if_pos hgt] at hst hsu
        have HN : Hid (acc = unt fr xs) := by unfold Hid; rw [← HA.out, hst]; simp
        have HM : Hid (at' = ute fr 0 xs) := by unfold Hid; rw [← HT.out, hsu]
        clear hst hsu
        go_wp2
        go_ret2
        exact ⟨u6, by rw [← HM.out]; rfl, by rw [← HN.out]; exact HO.out.alloc _, HB.out.alloc HB.out.size _⟩
      · rw [if_neg hgt] at hst hsu
        have HN : Hid ((acc ++ [(⟨k, f, t⟩ : Tk)]) ++ unt fr (xs.drop (i + 1)) = unt fr xs) := by unfold Hid; rw [← HA.out, hst]; simp
        have HM : Hid (ute fr t (xs.drop (i + 1)) = ute fr 0 xs) := by unfold Hid; rw [← HT.out, hsu]
        clear hst hsu
        go_wp2_with (at_builtin; (refine wpList_append_at _ rfl (.tmp 21) (.tmp 23) 24 rfl w.heap.size 41 i0 (.agg #[.int .u8 0, .int .i64 0, .int .i64 0]) 3 24 Tryd.underlying24 hi hz0 hz1 hz2 rfl (by decide) _ acc.length (flat acc) rfl ((HO.out.alloc _).alloc _) (some ⟨_, 0, none⟩) 1 1 [.int .u8 k, .int .i64 f, .int .i64 t] rfl rfl (fun h => by cases h) (fun ad had => by cases had; exact cells_new2 _ _ _ _) (fun u hu => by simp at hu; rcases hu with rfl | rfl | rfl <;> rfl) (by unfold maxLen; omega) (by omega) (by have := HB.out.size; simp; omega) ?_); intro v9 w9 ho9 hg9 _; have HO9 : Hid (w9.ownsRow w.heap.size 41 3 v9 (acc ++ [(⟨k, f, t⟩ : Tk)]).length (flat (acc ++ [(⟨k, f, t⟩ : Tk)]))) := (by unfold Hid; rw [flat_one, List.length_append]; exact ho9); have HB9 : Hid (Below w.heap.size w w9) := ((HB.out.alloc HB.out.size _).alloc (by have := HB.out.size; simp; omega) _).grown hg9 (by have := HB.out.size; simp; omega) (fun j hj => (HO.out.lt j hj).1); have X5 := ((Bx.new wr #[.int .u8 k, .int .i64 f, .int .i64 t] 41).alloc (.cells #[.int .u8 k, .int .i64 f, .int .i64 t] 41)); have X9 : Bx w9 wr.heap.size #[.int .u8 k, .int .i64 f, .int .i64 t] 41 := (hg9.block wr.heap.size X5.lt (fun e => by have := (HO.out.lt _ e.symm).2; omega)).trans X5; have y2 : w9.cell? ⟨wr.heap.size, 2, none⟩ = some (.int .i64 t) := X9.cell 2; have y3 := X9.lt; clear ho9 hg9 X5 X9)
        exact ⟨⟨i + 1, t, acc ++ [(⟨k, f, t⟩ : Tk)], by omega, by go_num, rfl, by simp; omega, HN.out, HM.out, HO9.out, HB9.out⟩, by simp [intOf]; omega⟩
    · have hge : ¬ (i : Int) < (xs.length : Int) := by omega
      have HN : Hid (acc = unt fr xs) := by unfold Hid; rw [← HA.out, List.drop_of_length_le (by omega)]; simp [unt]
      have HM : Hid (at' = ute fr 0 xs) := by unfold Hid; rw [← HT.out, List.drop_of_length_le (by omega)]; rfl
      go_wp2
      go_ret2
      exact ⟨u6, by rw [← HM.out]; rfl, by rw [← HN.out]; exact HO.out, HB.out⟩
end Go.Proofs.YtphejjghgalkpaaDoor
