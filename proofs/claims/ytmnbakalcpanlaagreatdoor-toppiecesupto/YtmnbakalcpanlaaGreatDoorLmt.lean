import Derived.Test.YtmnbakalcpanlaaGreatDoorLms
import Derived.Test.YtmnbakalcpanlaaGreatDoorLya
namespace Go.Proofs.YtmnbakalcpanlaaGreatDoor
open Go.ChangeShapes Go.WideShapes Go.ChangeAt Go.RowKit Go.Maps Go.WideMaps
set_option linter.unusedVariables false
set_option linter.unusedSimpArgs false

theorem sts_get (b r : Nat) (h : r < 6) : (sts b)[r * 2]? = some (.func (Fn.func (fitN r)) #[.pointer (some ⟨b, 0, none⟩)] #[]) ∧ (sts b)[r * 2 + 1]? = some (.func (Fn.func (cutN r)) #[.pointer (some ⟨b, 0, none⟩)] #[]) := by
  match r, h with
  | 0, _ => exact ⟨rfl, rfl⟩
  | 1, _ => exact ⟨rfl, rfl⟩
  | 2, _ => exact ⟨rfl, rfl⟩
  | 3, _ => exact ⟨rfl, rfl⟩
  | 4, _ => exact ⟨rfl, rfl⟩
  | 5, _ => exact ⟨rfl, rfl⟩
/-- where pieces works: the scanner's, its own fault and the row of tokens -/
structure Pw3 (w0 w2 : World) (b M F : Nat) (s : ByteArray) (so : Value) (acc : List Tk) (v : World) : Prop where
  ins : In w0 b M s v
  own : v.ownsRow w2.heap.size 50 3 so acc.length (flat acc)
  flt : Bx v F #[.int .i64 0, .int .i64 0, .int .i64 0] 26
  sz : w2.heap.size ≤ v.heap.size
theorem Pw3.below {w0 w2 v v' : World} {b M F : Nat} {s : ByteArray} {so : Value} {acc : List Tk} (h : Pw3 w0 w2 b M F s so acc v) (hb : Below v.heap.size v v') : Pw3 w0 w2 b M F s so acc v' :=
  ⟨h.ins.below hb, ownsRow_below h.own hb (Nat.le_refl _), h.flt.below hb h.flt.lt, Nat.le_trans h.sz hb.size⟩
theorem Pw3.grown {w0 w2 v v' : World} {b M F : Nat} {s : ByteArray} {so : Value} {acc : List Tk} (h : Pw3 w0 w2 b M F s so acc v) (hb2 : b < w2.heap.size) (hF : F ≠ b) (hg : v.grownBy v' (some b)) (hi : In w0 b M s v') : Pw3 w0 w2 b M F s so acc v' :=
  ⟨hi, h.own.kept hg (by
    cases hO : so.ownBlock with
    | none => exact .inl rfl
    | some g => exact .inr (by have := (h.own.lt g hO).1; simp; omega)), (hg.block F h.flt.lt (by simp; exact hF)).trans h.flt, Nat.le_trans h.sz hg.size⟩
/-- a scanner stands while a row of tokens grows -/
theorem Sg.row {v v' : World} {b M B n : Nat} {s : ByteArray} {so : Value} {xs : List Value} (h : Sg v b M s) (ho : v.ownsRow B 50 3 so n xs) (hg : v.grownBy v' so.ownBlock) : Sg v' b M s := by
  have keep : ∀ {k : Nat} {us : Array Value} {t : TypeId}, Bx v k us t → 50 ≠ t → Bx v' k us t := fun {k us t} Y hne => by
    refine (hg.block k Y.lt (fun e => ?_)).trans Y
    obtain ⟨c, fz, hh⟩ := row_kindR ho k e.symm
    have hY : v.heap[k]? = some (Obj.cells us t (0, 0)) := Y
    rw [hh] at hY
    cases hY
    exact hne rfl
  obtain ⟨d, mk, h1, h2, h3⟩ := h
  refine ⟨d, mk, keep h1 (by decide), keep h2 (by decide), ?_⟩
  rcases h3 with h3 | ⟨e1, B', A, V, e2, e3, e4⟩
  · exact .inl h3
  · refine .inr ⟨e1, B', A, V, e2, ⟨fun i t hi => ⟨(e3.box i t hi).1, keep (e3.box i t hi).2 (by decide)⟩, fun j t hj => ?_, e3.one, e3.apart, e3.kid, e3.lim⟩, e4⟩
    refine (e3.row j t hj).kept hg ?_
    cases hO : (V j).ownBlock with
    | none => exact .inl rfl
    | some g =>
      refine .inr (fun e => ?_)
      obtain ⟨c, fz, hh⟩ := row_kindR (e3.row j t hj) g hO
      obtain ⟨c', fz', hh'⟩ := row_kindR ho g e.symm
      rw [hh] at hh'
      cases hh'
theorem In.row {w0 v v' : World} {b M B n : Nat} {s : ByteArray} {so : Value} {xs : List Value} (h : In w0 b M s v) (hB : w0.heap.size ≤ B) (ho : v.ownsRow B 50 3 so n xs) (hg : v.grownBy v' so.ownBlock) : In w0 b M s v' := by
  refine ⟨h.bel.grown hg h.bel.size (fun j hj => Nat.le_trans hB (ho.lt j hj).1), h.sg.row ho hg, ?_⟩
  obtain ⟨es, clock, h1, h2, h3, h4⟩ := h.map
  refine ⟨es, clock, (hg.block M (ownsMap_lt h.map) (fun e => ?_)).trans h1, h2, h3, h4⟩
  obtain ⟨c, fz, hh⟩ := row_kindR ho M e.symm
  rw [h1] at hh
  cases hh
theorem quP_no {s : ByteArray} {p y z : Nat} (hp : p < s.size) (h : quP s p = .no y z) : 20 ≤ y ∧ y ≤ 24 := by
  unfold quP at h
  split at h
  · split at h
    · cases h
    · cases h; omega
  · split at h
    · cases h; omega
    · split at h
      · cases h; omega
      · split at h
        · cases h; omega
        · cases h
theorem pce_no {s : ByteArray} {p y z : Nat} (hp : p < s.size) (h : pce s p = .no y z) : 20 ≤ y ∧ y ≤ 24 := by
  unfold pce at h
  split at h
  · cases h
  · split at h
    · cases h
    · split at h
      · split at h
        · cases h
        · cases h; omega
      · split at h
        · unfold nmP at h
          split at h
          · cases h; omega
          · cases h
        · split at h
          · unfold ruP at h
            split at h
            · cases h
            · cases h; omega
          · split at h
            · exact quP_no hp h
            · unfold mkP at h
              split at h
              · cases h; omega
              · cases h
theorem flat_snoc (acc : List Tk) (k p t : Nat) : flat (acc ++ [(⟨k, p, t⟩ : Tk)]) = flat acc ++ [.int .u8 (k : Int), .int .i64 (p : Int), .int .i64 (t : Int)] := by
  unfold flat
  rw [List.flatMap_append]
  rfl
/-- a token more -/
theorem pw_app {w0 w2 w5 w9 : World} {b M F k p t : Nat} {s : ByteArray} {so v9 : Value} {acc : List Tk} (h : Pw3 w0 w2 b M F s so acc w5) (hB : w0.heap.size ≤ w2.heap.size) (ht : p < t)
    (ho : w9.ownsRow w2.heap.size 50 3 v9 (acc.length + 1) (flat acc ++ [.int .u8 (k : Int), .int .i64 (p : Int), .int .i64 (t : Int)]))
    (hg : (((w5.alloc (.cells #[.int .u8 (k : Int), .int .i64 (p : Int), .int .i64 (t : Int)] 50)).alloc (.cells #[.int .i64 0, .int .i64 0, .int .i64 0] 26)).alloc (.cells #[.int .u8 (k : Int), .int .i64 (p : Int), .int .i64 (t : Int)] 50)).grownBy w9 so.ownBlock) :
    Pw3 w0 w2 b M F s v9 (acc ++ [(⟨k, p, t⟩ : Tk)]) w9 ∧ w9.cell? ⟨w5.heap.size, 2, none⟩ = some (.int .i64 (t : Int)) ∧ w5.heap.size < w9.heap.size := by
  have hb5 : Below w5.heap.size w5 (((w5.alloc (.cells #[.int .u8 (k : Int), .int .i64 (p : Int), .int .i64 (t : Int)] 50)).alloc (.cells #[.int .i64 0, .int .i64 0, .int .i64 0] 26)).alloc (.cells #[.int .u8 (k : Int), .int .i64 (p : Int), .int .i64 (t : Int)] 50)) := (((Below.refl _ w5).alloc (Nat.le_refl _) _).alloc (by simp) _).alloc (by simp; omega) _
  have h8 := h.below hb5
  have X8 := (((Bx.new w5 #[.int .u8 (k : Int), .int .i64 (p : Int), .int .i64 (t : Int)] 50).alloc (.cells #[.int .i64 0, .int .i64 0, .int .i64 0] 26)).alloc (.cells #[.int .u8 (k : Int), .int .i64 (p : Int), .int .i64 (t : Int)] 50))
  have X9 : Bx w9 w5.heap.size #[.int .u8 (k : Int), .int .i64 (p : Int), .int .i64 (t : Int)] 50 := (hg.block w5.heap.size X8.lt (fun e => by have := (h.own.lt _ e.symm).2; omega)).trans X8
  refine ⟨⟨h8.ins.row hB h8.own hg, ?_, ?_, Nat.le_trans h8.sz hg.size⟩, X9.cell 2, X9.lt⟩
  · rw [flat_snoc, List.length_append]
    exact ho
  · refine (hg.block F h8.flt.lt (fun e => ?_)).trans h8.flt
    obtain ⟨c, fz, hh⟩ := row_kindR h8.own F e.symm
    have hY : (((w5.alloc (.cells #[.int .u8 (k : Int), .int .i64 (p : Int), .int .i64 (t : Int)] 50)).alloc (.cells #[.int .i64 0, .int .i64 0, .int .i64 0] 26)).alloc (.cells #[.int .u8 (k : Int), .int .i64 (p : Int), .int .i64 (t : Int)] 50)).heap[F]? = some (Obj.cells _ _ (0, 0)) := h8.flt
    rw [hh] at hY
    cases hY
/-- how pieces ends -/
def PcE (w0 w2 : World) (s : ByteArray) (e : Ending) (w' : World) : Prop := Below w0.heap.size w0 w' ∧
  match (cut s 0).2 with
  | none => ∃ a c, e = .returned (.tuple #[.slice a (cut s 0).1.length c, .int .i64 (s.size : Int), .agg #[.int .i64 0, .int .i64 0, .int .i64 0]]) ∧ w'.ownsRow w2.heap.size 50 3 (.slice a (cut s 0).1.length c) (cut s 0).1.length (flat (cut s 0).1)
  | some (y, z) => e = .returned (.tuple #[.slice none 0 0, .int .i64 0, .agg #[.int .i64 (y : Int), .int .i64 0, .int .i64 (z : Int)]])

theorem PcE.no {w0 w2 w' : World} {s : ByteArray} {e : Ending} {acc : List Tk} {y z : Nat} (hc : cut s 0 = (acc, some (y, z))) (hb : Below w0.heap.size w0 w') (he : e = .returned (.tuple #[.slice none 0 0, .int .i64 0, .agg #[.int .i64 (y : Int), .int .i64 0, .int .i64 (z : Int)]])) : PcE w0 w2 s e w' := by
  unfold PcE
  rw [hc]
  exact ⟨hb, he⟩
theorem PcE.ok {w0 w2 w' : World} {s : ByteArray} {e : Ending} {acc : List Tk} (hc : cut s 0 = (acc, none)) (hb : Below w0.heap.size w0 w') (he : ∃ a c, e = .returned (.tuple #[.slice a acc.length c, .int .i64 (s.size : Int), .agg #[.int .i64 0, .int .i64 0, .int .i64 0]]) ∧ w'.ownsRow w2.heap.size 50 3 (.slice a acc.length c) acc.length (flat acc)) : PcE w0 w2 s e w' := by
  unfold PcE
  rw [hc]
  exact ⟨hb, he⟩

set_option maxRecDepth 1000000 in
set_option maxHeartbeats 8000000 in
theorem pieces_any {w0 : World} {b M : Nat} (G : Gd w0 b M) (s : ByteArray) (hs : s.size ≤ 4294967280) (w : World) (h : In w0 b M s w) :
    Calls Tryz.prog 13 #[.pointer (some ⟨b, 0, none⟩), .int .i64 0, .func (Fn.func 14) #[] #[]] w fun e w' => ∃ w2, Below w.heap.size w w2 ∧ PcE w0 w2 s e w' := by
  obtain ⟨i0, hi, hz0, hz1, hz2⟩ := info_parts (show (Tryz.prog.info? 50).map (fun i => (i.zero, i.size, i.bytes)) = some (some (.agg #[.int .u8 0, .int .i64 0, .int .i64 0]), 3, 24) by kernel_rfl)
  have hbl : b < w.heap.size := World.block_lt_of_cell? _ _ h.cell.1
  obtain ⟨w2, e2, hw, hs2, B0⟩ := bx1 w #[.int .i64 0, .int .i64 0, .int .i64 0] 26
  have HE2 : Hid (w.alloc (.cells #[.int .i64 0, .int .i64 0, .int .i64 0] 26) = w2) := e2
  have HB2 : Hid (Below w.heap.size w w2) := hw
  have HP2 : Hid (Pw3 w0 w2 b M w.heap.size s (.slice none 0 0) [] w2) := ⟨h.below hw, World.ownsRow_nil _ _ _ _, B0, Nat.le_refl _⟩
  have hb2 : b < w2.heap.size := by omega
  have HG : Hid (Gd w0 b M) := G
  clear e2 hw B0 h G
  go_enter Tryz.func13, Tryz.ntmps13
  go_wp2
  go_step3
  go_wp2
  go_step3
  go_wp2
  rw [HE2.out]
  go_loopw [1, 9] (fun sa so wr => ∃ (p : Nat) (acc : List Tk), p ≤ s.size ∧ sa = .int .i64 (p : Int) ∧ acc.length ≤ p ∧ cut s 0 = (acc ++ (cut s p).1, (cut s p).2) ∧ Pw3 w0 w2 b M w.heap.size s so acc wr) (fun sa _ _ => s.size - (intOf sa).toNat)
  case atStart => exact ⟨0, [], Nat.zero_le _, rfl, Nat.zero_le _, rfl, HP2.out⟩
  case round =>
    obtain ⟨p, acc, hp, rfl, hal, hcut, hpw⟩ := hrel
    have HC : Hid (cut s 0 = (acc ++ (cut s p).1, (cut s p).2)) := hcut
    have HP : Hid (Pw3 w0 w2 b M w.heap.size s u9 acc wr) := hpw
    clear hcut hpw HP2
    have HCL : Hid (∀ (so : Value) (v : World), Pw3 w0 w2 b M w.heap.size s so acc v → v.cell? ⟨b, 0, none⟩ = some (.string s) ∧ v.cell? ⟨b, 1, none⟩ = some (.slice (some ⟨b + 1, 0, none⟩) 6 6) ∧ Bx v (b + 1) (sts b) 80 ∧ b < v.heap.size ∧ b + 1 < v.heap.size) := fun so v hv => by
      obtain ⟨d, mk, h1, h2, -⟩ := hv.ins.sg
      exact ⟨h1.cell 0, h1.cell 1, h2, h1.lt, h2.lt⟩
    by_cases hlt : p < s.size
    · have hlt' : (p : Int) < (s.size : Int) := by omega
      obtain ⟨c0, c1, -, q0, q1⟩ := HCL.out _ wr HP.out
      have HF9 : Hid (w.heap.size ≠ b) := by unfold Hid; omega
      have hB0 : w0.heap.size ≤ w2.heap.size := by have := HG.out.b0; omega
      have hW0 : w0.heap.size ≤ w.heap.size := by have := HG.out.b0; omega
      go_wp2_with (go_at_call 14; (with_reducible refine (never_any _ _).mono ?_); rintro e w3 ⟨rfl, hw3⟩; have hw4 := hw3.symm; clear hw3; subst hw4)
      go_loopw [1, 9, 32] (fun s1 s9 si wi => ∃ r : Nat, r ≤ 6 ∧ s1 = .int .i64 (p : Int) ∧ s9 = u9 ∧ si = .int .i64 (r : Int) ∧ (∀ i, i < r → fR s p i = false) ∧ Pw3 w0 w2 b M w.heap.size s u9 acc wi) (fun _ _ si _ => 6 - (intOf si).toNat)
      case atStart => exact ⟨0, by omega, rfl, rfl, rfl, fun i hi => by omega, HP.out⟩
      case round =>
        clear HP c0 c1 q0 q1
        obtain ⟨r, hr, rfl, rfl, rfl, hno, hpw⟩ := hrel
        have HP : Hid (Pw3 w0 w2 b M w.heap.size s u9 acc wr) := hpw
        have HNO : Hid (∀ i, i < r → fR s p i = false) := hno
        obtain ⟨c0, c1, XS, q0, q1⟩ := HCL.out _ wr hpw
        clear hpw hno
        have HR : r = 0 ∨ r = 1 ∨ r = 2 ∨ r = 3 ∨ r = 4 ∨ r = 5 ∨ r = 6 := by omega
        rcases HR with rfl | rfl | rfl | rfl | rfl | rfl | rfl
        · have y0 : wr.cell? ⟨b + 1, 0, none⟩ = some (.func (Fn.func 28) #[.pointer (some ⟨b, 0, none⟩)] #[]) := XS.cell 0
          have y1 : wr.cell? ⟨b + 1, 1, none⟩ = some (.func (Fn.func 29) #[.pointer (some ⟨b, 0, none⟩)] #[]) := XS.cell 1
          have HF0 : Hid (∀ v, In w0 b M s v → Calls Tryz.prog 28 #[.pointer (some ⟨b, 0, none⟩), .int .i64 (p : Int)] v fun e v' => e = .returned (.bool (fR s p 0)) ∧ In w0 b M s v' ∧ v.grownBy v' (some b)) := fun v hv => fits_any HG.out s p 0 hs hlt (by omega) v hv
          have HPa : Hid (Pw3 w0 w2 b M w.heap.size s u9 acc (wr.alloc (.cells #[.func (Fn.func 28) #[.pointer (some ⟨b, 0, none⟩)] #[], .func (Fn.func 29) #[.pointer (some ⟨b, 0, none⟩)] #[]] 80))) := HP.out.below ((Below.refl _ wr).alloc (Nat.le_refl _) _)
          have HXa : Hid (Bx (wr.alloc (.cells #[.func (Fn.func 28) #[.pointer (some ⟨b, 0, none⟩)] #[], .func (Fn.func 29) #[.pointer (some ⟨b, 0, none⟩)] #[]] 80)) wr.heap.size #[.func (Fn.func 28) #[.pointer (some ⟨b, 0, none⟩)] #[], .func (Fn.func 29) #[.pointer (some ⟨b, 0, none⟩)] #[]] 80) := Bx.new _ _ _
          clear XS
          cases hZ : fR s p 0 with
          | false =>
            rw [hZ] at HF0
            have HN2 : Hid (∀ i, i < 1 → fR s p i = false) := fun i hi => by
              by_cases h : i = 0
              · subst h; exact hZ
              · exact HNO.out i (by omega)
            go_wp2_with (go_at_call 28; (with_reducible refine (HF0.out _ HPa.out.ins).mono ?_); rintro e w3 ⟨rfl, hi3, hg3⟩; have HP3 : Hid (Pw3 w0 w2 b M w.heap.size s u9 acc w3) := HPa.out.grown hb2 HF9.out hg3 hi3; have X3 : Bx w3 wr.heap.size #[.func (Fn.func 28) #[.pointer (some ⟨b, 0, none⟩)] #[], .func (Fn.func 29) #[.pointer (some ⟨b, 0, none⟩)] #[]] 80 := (hg3.block wr.heap.size (by simp) (by simp; omega)).trans HXa.out; have x1 := X3.cell 1; simp at x1; have hx3 := X3.lt; obtain ⟨d0, d1, -, e0, e1⟩ := HCL.out _ w3 HP3.out; clear hi3 hg3 X3)
            go_roundw
            case rel => exact ⟨1, by omega, rfl, rfl, by first | rfl | go_num, HN2.out, HP3.out⟩
            case measure => simp [intOf]
          | true =>
            rw [hZ] at HF0
            have HCU : Hid (∀ v, In w0 b M s v → Calls Tryz.prog 29 #[.pointer (some ⟨b, 0, none⟩), .int .i64 (p : Int)] v fun e v' => e = .returned (.tuple #[tokV p (cR s p 0), fltV (cR s p 0)]) ∧ In w0 b M s v' ∧ v.grownBy v' (some b)) := fun v hv => cuts_any HG.out s p 0 hs hlt (by omega) hZ v hv
            have hpce := row_pce s p 0 (by omega) HNO.out hZ
            cases hV : cR s p 0 with
            | ok k t =>
              rw [hV] at hpce HCU
              obtain ⟨t1, t2, t3⟩ := pce_ok hlt hpce
              have HCN : Hid (cut s 0 = ((acc ++ [(⟨k, p, t⟩ : Tk)]) ++ (cut s t).1, (cut s t).2)) := by unfold Hid; rw [HC.out, cut_ok hlt hpce]; simp
              have HCU' : Hid (∀ v, In w0 b M s v → Calls Tryz.prog 29 #[.pointer (some ⟨b, 0, none⟩), .int .i64 (p : Int)] v fun e v' => e = .returned (.tuple #[.agg #[.int .u8 (k : Int), .int .i64 (p : Int), .int .i64 (t : Int)], .agg #[.int .i64 0, .int .i64 0, .int .i64 0]]) ∧ In w0 b M s v' ∧ v.grownBy v' (some b)) := HCU
              clear hV hpce HCU hZ HNO
              go_wp2_with (first
                | (go_at_call 28; (with_reducible refine (HF0.out _ HPa.out.ins).mono ?_); rintro e w3 ⟨rfl, hi3, hg3⟩; have HP3 : Hid (Pw3 w0 w2 b M w.heap.size s u9 acc w3) := HPa.out.grown hb2 HF9.out hg3 hi3; have X3 : Bx w3 wr.heap.size #[.func (Fn.func 28) #[.pointer (some ⟨b, 0, none⟩)] #[], .func (Fn.func 29) #[.pointer (some ⟨b, 0, none⟩)] #[]] 80 := (hg3.block wr.heap.size (by simp) (by simp; omega)).trans HXa.out; have x1 := X3.cell 1; simp at x1; have hx3 := X3.lt; obtain ⟨d0, d1, -, e0, e1⟩ := HCL.out _ w3 HP3.out; clear hi3 hg3 X3)
                | (go_at_call 29; (with_reducible refine (HCU'.out _ HP3.out.ins).mono ?_); rintro e w5 ⟨rfl, hi5, hg5⟩; have HP5 : Hid (Pw3 w0 w2 b M w.heap.size s u9 acc w5) := HP3.out.grown hb2 HF9.out hg5 hi5; have hs5 : w2.heap.size ≤ w5.heap.size := HP5.out.sz; clear hi5 hg5 d0 d1 e0 e1 x1 hx3)
                | (at_builtin; (refine wpList_append_at _ rfl (.tmp 52) (.tmp 54) 23 rfl w2.heap.size 50 i0 (.agg #[.int .u8 0, .int .i64 0, .int .i64 0]) 3 24 Tryz.underlying23 hi hz0 hz1 hz2 rfl (by decide) _ acc.length (flat acc) rfl (((HP5.out.own.alloc _).alloc _).alloc _) (some ⟨_, 0, none⟩) 1 1 [.int .u8 (k : Int), .int .i64 (p : Int), .int .i64 (t : Int)] rfl rfl (fun h => by cases h) (fun ad had => by cases had; exact cells_new3 _ _ _ _ _) (fun u hu => by simp at hu; rcases hu with rfl | rfl | rfl <;> rfl) (by unfold maxLen; omega) (by omega) (by simp; omega) ?_); intro v9 w9 ho9 hg9 _; obtain ⟨HPn, k2, kz⟩ := pw_app HP5.out hB0 t1 ho9 hg9; have HP9 : Hid (Pw3 w0 w2 b M w.heap.size s v9 (acc ++ [(⟨k, p, t⟩ : Tk)]) w9) := HPn; clear ho9 hg9 HPn))
              exact ⟨⟨t, acc ++ [(⟨k, p, t⟩ : Tk)], t2, rfl, by simp; omega, HCN.out, HP9.out⟩, by simp [intOf]; omega⟩
            | no y z =>
              rw [hV] at hpce HCU
              have hy := pce_no hlt hpce
              have HCN : Hid (cut s 0 = (acc, some (y, z))) := by unfold Hid; rw [HC.out, cut_no hlt hpce]; simp
              have HCU' : Hid (∀ v, In w0 b M s v → Calls Tryz.prog 29 #[.pointer (some ⟨b, 0, none⟩), .int .i64 (p : Int)] v fun e v' => e = .returned (.tuple #[.agg #[.int .u8 0, .int .i64 0, .int .i64 0], .agg #[.int .i64 (y : Int), .int .i64 0, .int .i64 (z : Int)]]) ∧ In w0 b M s v' ∧ v.grownBy v' (some b)) := HCU
              have hy0 : ((y : Int) == 0) = false := by simp; omega
              clear hV hpce HCU hZ HNO
              go_wp2_with (first
                | (go_at_call 28; (with_reducible refine (HF0.out _ HPa.out.ins).mono ?_); rintro e w3 ⟨rfl, hi3, hg3⟩; have HP3 : Hid (Pw3 w0 w2 b M w.heap.size s u9 acc w3) := HPa.out.grown hb2 HF9.out hg3 hi3; have X3 : Bx w3 wr.heap.size #[.func (Fn.func 28) #[.pointer (some ⟨b, 0, none⟩)] #[], .func (Fn.func 29) #[.pointer (some ⟨b, 0, none⟩)] #[]] 80 := (hg3.block wr.heap.size (by simp) (by simp; omega)).trans HXa.out; have x1 := X3.cell 1; simp at x1; have hx3 := X3.lt; obtain ⟨d0, d1, -, e0, e1⟩ := HCL.out _ w3 HP3.out; clear hi3 hg3 X3)
                | (go_at_call 29; (with_reducible refine (HCU'.out _ HP3.out.ins).mono ?_); rintro e w5 ⟨rfl, hi5, hg5⟩; have HP5 : Hid (Pw3 w0 w2 b M w.heap.size s u9 acc w5) := HP3.out.grown hb2 HF9.out hg5 hi5; have hs5 : w2.heap.size ≤ w5.heap.size := HP5.out.sz; clear hi5 hg5 d0 d1 e0 e1 x1 hx3))
              obtain ⟨w7, e7⟩ : ∃ w7, (w5.alloc (.cells #[.int .u8 0, .int .i64 0, .int .i64 0] 50)).alloc (.cells #[.int .i64 (y : Int), .int .i64 0, .int .i64 (z : Int)] 26) = w7 := ⟨_, rfl⟩
              have F7 : Bx w7 w.heap.size #[.int .i64 0, .int .i64 0, .int .i64 0] 26 := by rw [← e7]; exact (HP5.out.flt.alloc _).alloc _
              have Y7 : Bx w7 (w5.heap.size + 1) #[.int .i64 (y : Int), .int .i64 0, .int .i64 (z : Int)] 26 := by
                rw [← e7]
                have := Bx.new (w5.alloc (.cells #[.int .u8 0, .int .i64 0, .int .i64 0] 50)) #[.int .i64 (y : Int), .int .i64 0, .int .i64 (z : Int)] 26
                simpa using this
              have HB7 : Hid (Below w0.heap.size w0 w7) := by unfold Hid; rw [← e7]; exact (HP5.out.ins.bel.alloc HP5.out.ins.bel.size _).alloc (by have := HP5.out.ins.bel.size; simp; omega) _
              rw [e7]
              clear e7 HP5 HP3 HPa HXa HF0 HCU' y0 y1
              have z0 := F7.cell 0
              have z1 := F7.cell 1
              have z2 := F7.cell 2
              have f0 := F7.free 0
              have f1 := F7.free 1
              have f2 := F7.free 2
              have t0 := Y7.cell 0
              have t1 := Y7.cell 1
              have t2 := Y7.cell 2
              have l7 := F7.lt
              have m7 := Y7.lt
              simp at z0 z1 z2 t0 t1 t2
              have HF7 : Hid (Bx w7 w.heap.size #[.int .i64 0, .int .i64 0, .int .i64 0] 26) := F7
              clear F7 Y7
              go_region
              all_goals
                go_wp2
                rw [Exit.noGoto_ret]
                obtain ⟨r0, r1, r2⟩ := HF7.out.read3 (.int .i64 (y : Int)) (.int .i64 0) (.int .i64 (z : Int))
                refine bodyPost_ret (v := .tuple #[.slice none 0 0, .int .i64 0, .agg #[.int .i64 (y : Int), .int .i64 0, .int .i64 (z : Int)]]) (by simp [results, Tryz.results13, go_sem, r0, r1, r2]) rfl ⟨w2, HB2.out, PcE.no HCN.out ((bel_put3 HB7.out hW0).drew) rfl⟩
        · have y0 : wr.cell? ⟨b + 1, 2, none⟩ = some (.func (Fn.func 30) #[.pointer (some ⟨b, 0, none⟩)] #[]) := XS.cell 2
          have y1 : wr.cell? ⟨b + 1, 3, none⟩ = some (.func (Fn.func 31) #[.pointer (some ⟨b, 0, none⟩)] #[]) := XS.cell 3
          have HF0 : Hid (∀ v, In w0 b M s v → Calls Tryz.prog 30 #[.pointer (some ⟨b, 0, none⟩), .int .i64 (p : Int)] v fun e v' => e = .returned (.bool (fR s p 1)) ∧ In w0 b M s v' ∧ v.grownBy v' (some b)) := fun v hv => fits_any HG.out s p 1 hs hlt (by omega) v hv
          have HPa : Hid (Pw3 w0 w2 b M w.heap.size s u9 acc (wr.alloc (.cells #[.func (Fn.func 30) #[.pointer (some ⟨b, 0, none⟩)] #[], .func (Fn.func 31) #[.pointer (some ⟨b, 0, none⟩)] #[]] 80))) := HP.out.below ((Below.refl _ wr).alloc (Nat.le_refl _) _)
          have HXa : Hid (Bx (wr.alloc (.cells #[.func (Fn.func 30) #[.pointer (some ⟨b, 0, none⟩)] #[], .func (Fn.func 31) #[.pointer (some ⟨b, 0, none⟩)] #[]] 80)) wr.heap.size #[.func (Fn.func 30) #[.pointer (some ⟨b, 0, none⟩)] #[], .func (Fn.func 31) #[.pointer (some ⟨b, 0, none⟩)] #[]] 80) := Bx.new _ _ _
          clear XS
          cases hZ : fR s p 1 with
          | false =>
            rw [hZ] at HF0
            have HN2 : Hid (∀ i, i < 2 → fR s p i = false) := fun i hi => by
              by_cases h : i = 1
              · subst h; exact hZ
              · exact HNO.out i (by omega)
            go_wp2_with (go_at_call 30; (with_reducible refine (HF0.out _ HPa.out.ins).mono ?_); rintro e w3 ⟨rfl, hi3, hg3⟩; have HP3 : Hid (Pw3 w0 w2 b M w.heap.size s u9 acc w3) := HPa.out.grown hb2 HF9.out hg3 hi3; have X3 : Bx w3 wr.heap.size #[.func (Fn.func 30) #[.pointer (some ⟨b, 0, none⟩)] #[], .func (Fn.func 31) #[.pointer (some ⟨b, 0, none⟩)] #[]] 80 := (hg3.block wr.heap.size (by simp) (by simp; omega)).trans HXa.out; have x1 := X3.cell 1; simp at x1; have hx3 := X3.lt; obtain ⟨d0, d1, -, e0, e1⟩ := HCL.out _ w3 HP3.out; clear hi3 hg3 X3)
            go_roundw
            case rel => exact ⟨2, by omega, rfl, rfl, by first | rfl | go_num, HN2.out, HP3.out⟩
            case measure => simp [intOf]
          | true =>
            rw [hZ] at HF0
            have HCU : Hid (∀ v, In w0 b M s v → Calls Tryz.prog 31 #[.pointer (some ⟨b, 0, none⟩), .int .i64 (p : Int)] v fun e v' => e = .returned (.tuple #[tokV p (cR s p 1), fltV (cR s p 1)]) ∧ In w0 b M s v' ∧ v.grownBy v' (some b)) := fun v hv => cuts_any HG.out s p 1 hs hlt (by omega) hZ v hv
            have hpce := row_pce s p 1 (by omega) HNO.out hZ
            cases hV : cR s p 1 with
            | ok k t =>
              rw [hV] at hpce HCU
              obtain ⟨t1, t2, t3⟩ := pce_ok hlt hpce
              have HCN : Hid (cut s 0 = ((acc ++ [(⟨k, p, t⟩ : Tk)]) ++ (cut s t).1, (cut s t).2)) := by unfold Hid; rw [HC.out, cut_ok hlt hpce]; simp
              have HCU' : Hid (∀ v, In w0 b M s v → Calls Tryz.prog 31 #[.pointer (some ⟨b, 0, none⟩), .int .i64 (p : Int)] v fun e v' => e = .returned (.tuple #[.agg #[.int .u8 (k : Int), .int .i64 (p : Int), .int .i64 (t : Int)], .agg #[.int .i64 0, .int .i64 0, .int .i64 0]]) ∧ In w0 b M s v' ∧ v.grownBy v' (some b)) := HCU
              clear hV hpce HCU hZ HNO
              go_wp2_with (first
                | (go_at_call 30; (with_reducible refine (HF0.out _ HPa.out.ins).mono ?_); rintro e w3 ⟨rfl, hi3, hg3⟩; have HP3 : Hid (Pw3 w0 w2 b M w.heap.size s u9 acc w3) := HPa.out.grown hb2 HF9.out hg3 hi3; have X3 : Bx w3 wr.heap.size #[.func (Fn.func 30) #[.pointer (some ⟨b, 0, none⟩)] #[], .func (Fn.func 31) #[.pointer (some ⟨b, 0, none⟩)] #[]] 80 := (hg3.block wr.heap.size (by simp) (by simp; omega)).trans HXa.out; have x1 := X3.cell 1; simp at x1; have hx3 := X3.lt; obtain ⟨d0, d1, -, e0, e1⟩ := HCL.out _ w3 HP3.out; clear hi3 hg3 X3)
                | (go_at_call 31; (with_reducible refine (HCU'.out _ HP3.out.ins).mono ?_); rintro e w5 ⟨rfl, hi5, hg5⟩; have HP5 : Hid (Pw3 w0 w2 b M w.heap.size s u9 acc w5) := HP3.out.grown hb2 HF9.out hg5 hi5; have hs5 : w2.heap.size ≤ w5.heap.size := HP5.out.sz; clear hi5 hg5 d0 d1 e0 e1 x1 hx3)
                | (at_builtin; (refine wpList_append_at _ rfl (.tmp 52) (.tmp 54) 23 rfl w2.heap.size 50 i0 (.agg #[.int .u8 0, .int .i64 0, .int .i64 0]) 3 24 Tryz.underlying23 hi hz0 hz1 hz2 rfl (by decide) _ acc.length (flat acc) rfl (((HP5.out.own.alloc _).alloc _).alloc _) (some ⟨_, 0, none⟩) 1 1 [.int .u8 (k : Int), .int .i64 (p : Int), .int .i64 (t : Int)] rfl rfl (fun h => by cases h) (fun ad had => by cases had; exact cells_new3 _ _ _ _ _) (fun u hu => by simp at hu; rcases hu with rfl | rfl | rfl <;> rfl) (by unfold maxLen; omega) (by omega) (by simp; omega) ?_); intro v9 w9 ho9 hg9 _; obtain ⟨HPn, k2, kz⟩ := pw_app HP5.out hB0 t1 ho9 hg9; have HP9 : Hid (Pw3 w0 w2 b M w.heap.size s v9 (acc ++ [(⟨k, p, t⟩ : Tk)]) w9) := HPn; clear ho9 hg9 HPn))
              exact ⟨⟨t, acc ++ [(⟨k, p, t⟩ : Tk)], t2, rfl, by simp; omega, HCN.out, HP9.out⟩, by simp [intOf]; omega⟩
            | no y z =>
              rw [hV] at hpce HCU
              have hy := pce_no hlt hpce
              have HCN : Hid (cut s 0 = (acc, some (y, z))) := by unfold Hid; rw [HC.out, cut_no hlt hpce]; simp
              have HCU' : Hid (∀ v, In w0 b M s v → Calls Tryz.prog 31 #[.pointer (some ⟨b, 0, none⟩), .int .i64 (p : Int)] v fun e v' => e = .returned (.tuple #[.agg #[.int .u8 0, .int .i64 0, .int .i64 0], .agg #[.int .i64 (y : Int), .int .i64 0, .int .i64 (z : Int)]]) ∧ In w0 b M s v' ∧ v.grownBy v' (some b)) := HCU
              have hy0 : ((y : Int) == 0) = false := by simp; omega
              clear hV hpce HCU hZ HNO
              go_wp2_with (first
                | (go_at_call 30; (with_reducible refine (HF0.out _ HPa.out.ins).mono ?_); rintro e w3 ⟨rfl, hi3, hg3⟩; have HP3 : Hid (Pw3 w0 w2 b M w.heap.size s u9 acc w3) := HPa.out.grown hb2 HF9.out hg3 hi3; have X3 : Bx w3 wr.heap.size #[.func (Fn.func 30) #[.pointer (some ⟨b, 0, none⟩)] #[], .func (Fn.func 31) #[.pointer (some ⟨b, 0, none⟩)] #[]] 80 := (hg3.block wr.heap.size (by simp) (by simp; omega)).trans HXa.out; have x1 := X3.cell 1; simp at x1; have hx3 := X3.lt; obtain ⟨d0, d1, -, e0, e1⟩ := HCL.out _ w3 HP3.out; clear hi3 hg3 X3)
                | (go_at_call 31; (with_reducible refine (HCU'.out _ HP3.out.ins).mono ?_); rintro e w5 ⟨rfl, hi5, hg5⟩; have HP5 : Hid (Pw3 w0 w2 b M w.heap.size s u9 acc w5) := HP3.out.grown hb2 HF9.out hg5 hi5; have hs5 : w2.heap.size ≤ w5.heap.size := HP5.out.sz; clear hi5 hg5 d0 d1 e0 e1 x1 hx3))
              obtain ⟨w7, e7⟩ : ∃ w7, (w5.alloc (.cells #[.int .u8 0, .int .i64 0, .int .i64 0] 50)).alloc (.cells #[.int .i64 (y : Int), .int .i64 0, .int .i64 (z : Int)] 26) = w7 := ⟨_, rfl⟩
              have F7 : Bx w7 w.heap.size #[.int .i64 0, .int .i64 0, .int .i64 0] 26 := by rw [← e7]; exact (HP5.out.flt.alloc _).alloc _
              have Y7 : Bx w7 (w5.heap.size + 1) #[.int .i64 (y : Int), .int .i64 0, .int .i64 (z : Int)] 26 := by
                rw [← e7]
                have := Bx.new (w5.alloc (.cells #[.int .u8 0, .int .i64 0, .int .i64 0] 50)) #[.int .i64 (y : Int), .int .i64 0, .int .i64 (z : Int)] 26
                simpa using this
              have HB7 : Hid (Below w0.heap.size w0 w7) := by unfold Hid; rw [← e7]; exact (HP5.out.ins.bel.alloc HP5.out.ins.bel.size _).alloc (by have := HP5.out.ins.bel.size; simp; omega) _
              rw [e7]
              clear e7 HP5 HP3 HPa HXa HF0 HCU' y0 y1
              have z0 := F7.cell 0
              have z1 := F7.cell 1
              have z2 := F7.cell 2
              have f0 := F7.free 0
              have f1 := F7.free 1
              have f2 := F7.free 2
              have t0 := Y7.cell 0
              have t1 := Y7.cell 1
              have t2 := Y7.cell 2
              have l7 := F7.lt
              have m7 := Y7.lt
              simp at z0 z1 z2 t0 t1 t2
              have HF7 : Hid (Bx w7 w.heap.size #[.int .i64 0, .int .i64 0, .int .i64 0] 26) := F7
              clear F7 Y7
              go_region
              all_goals
                go_wp2
                rw [Exit.noGoto_ret]
                obtain ⟨r0, r1, r2⟩ := HF7.out.read3 (.int .i64 (y : Int)) (.int .i64 0) (.int .i64 (z : Int))
                refine bodyPost_ret (v := .tuple #[.slice none 0 0, .int .i64 0, .agg #[.int .i64 (y : Int), .int .i64 0, .int .i64 (z : Int)]]) (by simp [results, Tryz.results13, go_sem, r0, r1, r2]) rfl ⟨w2, HB2.out, PcE.no HCN.out ((bel_put3 HB7.out hW0).drew) rfl⟩
        · have y0 : wr.cell? ⟨b + 1, 4, none⟩ = some (.func (Fn.func 32) #[.pointer (some ⟨b, 0, none⟩)] #[]) := XS.cell 4
          have y1 : wr.cell? ⟨b + 1, 5, none⟩ = some (.func (Fn.func 33) #[.pointer (some ⟨b, 0, none⟩)] #[]) := XS.cell 5
          have HF0 : Hid (∀ v, In w0 b M s v → Calls Tryz.prog 32 #[.pointer (some ⟨b, 0, none⟩), .int .i64 (p : Int)] v fun e v' => e = .returned (.bool (fR s p 2)) ∧ In w0 b M s v' ∧ v.grownBy v' (some b)) := fun v hv => fits_any HG.out s p 2 hs hlt (by omega) v hv
          have HPa : Hid (Pw3 w0 w2 b M w.heap.size s u9 acc (wr.alloc (.cells #[.func (Fn.func 32) #[.pointer (some ⟨b, 0, none⟩)] #[], .func (Fn.func 33) #[.pointer (some ⟨b, 0, none⟩)] #[]] 80))) := HP.out.below ((Below.refl _ wr).alloc (Nat.le_refl _) _)
          have HXa : Hid (Bx (wr.alloc (.cells #[.func (Fn.func 32) #[.pointer (some ⟨b, 0, none⟩)] #[], .func (Fn.func 33) #[.pointer (some ⟨b, 0, none⟩)] #[]] 80)) wr.heap.size #[.func (Fn.func 32) #[.pointer (some ⟨b, 0, none⟩)] #[], .func (Fn.func 33) #[.pointer (some ⟨b, 0, none⟩)] #[]] 80) := Bx.new _ _ _
          clear XS
          cases hZ : fR s p 2 with
          | false =>
            rw [hZ] at HF0
            have HN2 : Hid (∀ i, i < 3 → fR s p i = false) := fun i hi => by
              by_cases h : i = 2
              · subst h; exact hZ
              · exact HNO.out i (by omega)
            go_wp2_with (go_at_call 32; (with_reducible refine (HF0.out _ HPa.out.ins).mono ?_); rintro e w3 ⟨rfl, hi3, hg3⟩; have HP3 : Hid (Pw3 w0 w2 b M w.heap.size s u9 acc w3) := HPa.out.grown hb2 HF9.out hg3 hi3; have X3 : Bx w3 wr.heap.size #[.func (Fn.func 32) #[.pointer (some ⟨b, 0, none⟩)] #[], .func (Fn.func 33) #[.pointer (some ⟨b, 0, none⟩)] #[]] 80 := (hg3.block wr.heap.size (by simp) (by simp; omega)).trans HXa.out; have x1 := X3.cell 1; simp at x1; have hx3 := X3.lt; obtain ⟨d0, d1, -, e0, e1⟩ := HCL.out _ w3 HP3.out; clear hi3 hg3 X3)
            go_roundw
            case rel => exact ⟨3, by omega, rfl, rfl, by first | rfl | go_num, HN2.out, HP3.out⟩
            case measure => simp [intOf]
          | true =>
            rw [hZ] at HF0
            have HCU : Hid (∀ v, In w0 b M s v → Calls Tryz.prog 33 #[.pointer (some ⟨b, 0, none⟩), .int .i64 (p : Int)] v fun e v' => e = .returned (.tuple #[tokV p (cR s p 2), fltV (cR s p 2)]) ∧ In w0 b M s v' ∧ v.grownBy v' (some b)) := fun v hv => cuts_any HG.out s p 2 hs hlt (by omega) hZ v hv
            have hpce := row_pce s p 2 (by omega) HNO.out hZ
            cases hV : cR s p 2 with
            | ok k t =>
              rw [hV] at hpce HCU
              obtain ⟨t1, t2, t3⟩ := pce_ok hlt hpce
              have HCN : Hid (cut s 0 = ((acc ++ [(⟨k, p, t⟩ : Tk)]) ++ (cut s t).1, (cut s t).2)) := by unfold Hid; rw [HC.out, cut_ok hlt hpce]; simp
              have HCU' : Hid (∀ v, In w0 b M s v → Calls Tryz.prog 33 #[.pointer (some ⟨b, 0, none⟩), .int .i64 (p : Int)] v fun e v' => e = .returned (.tuple #[.agg #[.int .u8 (k : Int), .int .i64 (p : Int), .int .i64 (t : Int)], .agg #[.int .i64 0, .int .i64 0, .int .i64 0]]) ∧ In w0 b M s v' ∧ v.grownBy v' (some b)) := HCU
              clear hV hpce HCU hZ HNO
              go_wp2_with (first
                | (go_at_call 32; (with_reducible refine (HF0.out _ HPa.out.ins).mono ?_); rintro e w3 ⟨rfl, hi3, hg3⟩; have HP3 : Hid (Pw3 w0 w2 b M w.heap.size s u9 acc w3) := HPa.out.grown hb2 HF9.out hg3 hi3; have X3 : Bx w3 wr.heap.size #[.func (Fn.func 32) #[.pointer (some ⟨b, 0, none⟩)] #[], .func (Fn.func 33) #[.pointer (some ⟨b, 0, none⟩)] #[]] 80 := (hg3.block wr.heap.size (by simp) (by simp; omega)).trans HXa.out; have x1 := X3.cell 1; simp at x1; have hx3 := X3.lt; obtain ⟨d0, d1, -, e0, e1⟩ := HCL.out _ w3 HP3.out; clear hi3 hg3 X3)
                | (go_at_call 33; (with_reducible refine (HCU'.out _ HP3.out.ins).mono ?_); rintro e w5 ⟨rfl, hi5, hg5⟩; have HP5 : Hid (Pw3 w0 w2 b M w.heap.size s u9 acc w5) := HP3.out.grown hb2 HF9.out hg5 hi5; have hs5 : w2.heap.size ≤ w5.heap.size := HP5.out.sz; clear hi5 hg5 d0 d1 e0 e1 x1 hx3)
                | (at_builtin; (refine wpList_append_at _ rfl (.tmp 52) (.tmp 54) 23 rfl w2.heap.size 50 i0 (.agg #[.int .u8 0, .int .i64 0, .int .i64 0]) 3 24 Tryz.underlying23 hi hz0 hz1 hz2 rfl (by decide) _ acc.length (flat acc) rfl (((HP5.out.own.alloc _).alloc _).alloc _) (some ⟨_, 0, none⟩) 1 1 [.int .u8 (k : Int), .int .i64 (p : Int), .int .i64 (t : Int)] rfl rfl (fun h => by cases h) (fun ad had => by cases had; exact cells_new3 _ _ _ _ _) (fun u hu => by simp at hu; rcases hu with rfl | rfl | rfl <;> rfl) (by unfold maxLen; omega) (by omega) (by simp; omega) ?_); intro v9 w9 ho9 hg9 _; obtain ⟨HPn, k2, kz⟩ := pw_app HP5.out hB0 t1 ho9 hg9; have HP9 : Hid (Pw3 w0 w2 b M w.heap.size s v9 (acc ++ [(⟨k, p, t⟩ : Tk)]) w9) := HPn; clear ho9 hg9 HPn))
              exact ⟨⟨t, acc ++ [(⟨k, p, t⟩ : Tk)], t2, rfl, by simp; omega, HCN.out, HP9.out⟩, by simp [intOf]; omega⟩
            | no y z =>
              rw [hV] at hpce HCU
              have hy := pce_no hlt hpce
              have HCN : Hid (cut s 0 = (acc, some (y, z))) := by unfold Hid; rw [HC.out, cut_no hlt hpce]; simp
              have HCU' : Hid (∀ v, In w0 b M s v → Calls Tryz.prog 33 #[.pointer (some ⟨b, 0, none⟩), .int .i64 (p : Int)] v fun e v' => e = .returned (.tuple #[.agg #[.int .u8 0, .int .i64 0, .int .i64 0], .agg #[.int .i64 (y : Int), .int .i64 0, .int .i64 (z : Int)]]) ∧ In w0 b M s v' ∧ v.grownBy v' (some b)) := HCU
              have hy0 : ((y : Int) == 0) = false := by simp; omega
              clear hV hpce HCU hZ HNO
              go_wp2_with (first
                | (go_at_call 32; (with_reducible refine (HF0.out _ HPa.out.ins).mono ?_); rintro e w3 ⟨rfl, hi3, hg3⟩; have HP3 : Hid (Pw3 w0 w2 b M w.heap.size s u9 acc w3) := HPa.out.grown hb2 HF9.out hg3 hi3; have X3 : Bx w3 wr.heap.size #[.func (Fn.func 32) #[.pointer (some ⟨b, 0, none⟩)] #[], .func (Fn.func 33) #[.pointer (some ⟨b, 0, none⟩)] #[]] 80 := (hg3.block wr.heap.size (by simp) (by simp; omega)).trans HXa.out; have x1 := X3.cell 1; simp at x1; have hx3 := X3.lt; obtain ⟨d0, d1, -, e0, e1⟩ := HCL.out _ w3 HP3.out; clear hi3 hg3 X3)
                | (go_at_call 33; (with_reducible refine (HCU'.out _ HP3.out.ins).mono ?_); rintro e w5 ⟨rfl, hi5, hg5⟩; have HP5 : Hid (Pw3 w0 w2 b M w.heap.size s u9 acc w5) := HP3.out.grown hb2 HF9.out hg5 hi5; have hs5 : w2.heap.size ≤ w5.heap.size := HP5.out.sz; clear hi5 hg5 d0 d1 e0 e1 x1 hx3))
              obtain ⟨w7, e7⟩ : ∃ w7, (w5.alloc (.cells #[.int .u8 0, .int .i64 0, .int .i64 0] 50)).alloc (.cells #[.int .i64 (y : Int), .int .i64 0, .int .i64 (z : Int)] 26) = w7 := ⟨_, rfl⟩
              have F7 : Bx w7 w.heap.size #[.int .i64 0, .int .i64 0, .int .i64 0] 26 := by rw [← e7]; exact (HP5.out.flt.alloc _).alloc _
              have Y7 : Bx w7 (w5.heap.size + 1) #[.int .i64 (y : Int), .int .i64 0, .int .i64 (z : Int)] 26 := by
                rw [← e7]
                have := Bx.new (w5.alloc (.cells #[.int .u8 0, .int .i64 0, .int .i64 0] 50)) #[.int .i64 (y : Int), .int .i64 0, .int .i64 (z : Int)] 26
                simpa using this
              have HB7 : Hid (Below w0.heap.size w0 w7) := by unfold Hid; rw [← e7]; exact (HP5.out.ins.bel.alloc HP5.out.ins.bel.size _).alloc (by have := HP5.out.ins.bel.size; simp; omega) _
              rw [e7]
              clear e7 HP5 HP3 HPa HXa HF0 HCU' y0 y1
              have z0 := F7.cell 0
              have z1 := F7.cell 1
              have z2 := F7.cell 2
              have f0 := F7.free 0
              have f1 := F7.free 1
              have f2 := F7.free 2
              have t0 := Y7.cell 0
              have t1 := Y7.cell 1
              have t2 := Y7.cell 2
              have l7 := F7.lt
              have m7 := Y7.lt
              simp at z0 z1 z2 t0 t1 t2
              have HF7 : Hid (Bx w7 w.heap.size #[.int .i64 0, .int .i64 0, .int .i64 0] 26) := F7
              clear F7 Y7
              go_region
              all_goals
                go_wp2
                rw [Exit.noGoto_ret]
                obtain ⟨r0, r1, r2⟩ := HF7.out.read3 (.int .i64 (y : Int)) (.int .i64 0) (.int .i64 (z : Int))
                refine bodyPost_ret (v := .tuple #[.slice none 0 0, .int .i64 0, .agg #[.int .i64 (y : Int), .int .i64 0, .int .i64 (z : Int)]]) (by simp [results, Tryz.results13, go_sem, r0, r1, r2]) rfl ⟨w2, HB2.out, PcE.no HCN.out ((bel_put3 HB7.out hW0).drew) rfl⟩
        · have y0 : wr.cell? ⟨b + 1, 6, none⟩ = some (.func (Fn.func 34) #[.pointer (some ⟨b, 0, none⟩)] #[]) := XS.cell 6
          have y1 : wr.cell? ⟨b + 1, 7, none⟩ = some (.func (Fn.func 35) #[.pointer (some ⟨b, 0, none⟩)] #[]) := XS.cell 7
          have HF0 : Hid (∀ v, In w0 b M s v → Calls Tryz.prog 34 #[.pointer (some ⟨b, 0, none⟩), .int .i64 (p : Int)] v fun e v' => e = .returned (.bool (fR s p 3)) ∧ In w0 b M s v' ∧ v.grownBy v' (some b)) := fun v hv => fits_any HG.out s p 3 hs hlt (by omega) v hv
          have HPa : Hid (Pw3 w0 w2 b M w.heap.size s u9 acc (wr.alloc (.cells #[.func (Fn.func 34) #[.pointer (some ⟨b, 0, none⟩)] #[], .func (Fn.func 35) #[.pointer (some ⟨b, 0, none⟩)] #[]] 80))) := HP.out.below ((Below.refl _ wr).alloc (Nat.le_refl _) _)
          have HXa : Hid (Bx (wr.alloc (.cells #[.func (Fn.func 34) #[.pointer (some ⟨b, 0, none⟩)] #[], .func (Fn.func 35) #[.pointer (some ⟨b, 0, none⟩)] #[]] 80)) wr.heap.size #[.func (Fn.func 34) #[.pointer (some ⟨b, 0, none⟩)] #[], .func (Fn.func 35) #[.pointer (some ⟨b, 0, none⟩)] #[]] 80) := Bx.new _ _ _
          clear XS
          cases hZ : fR s p 3 with
          | false =>
            rw [hZ] at HF0
            have HN2 : Hid (∀ i, i < 4 → fR s p i = false) := fun i hi => by
              by_cases h : i = 3
              · subst h; exact hZ
              · exact HNO.out i (by omega)
            go_wp2_with (go_at_call 34; (with_reducible refine (HF0.out _ HPa.out.ins).mono ?_); rintro e w3 ⟨rfl, hi3, hg3⟩; have HP3 : Hid (Pw3 w0 w2 b M w.heap.size s u9 acc w3) := HPa.out.grown hb2 HF9.out hg3 hi3; have X3 : Bx w3 wr.heap.size #[.func (Fn.func 34) #[.pointer (some ⟨b, 0, none⟩)] #[], .func (Fn.func 35) #[.pointer (some ⟨b, 0, none⟩)] #[]] 80 := (hg3.block wr.heap.size (by simp) (by simp; omega)).trans HXa.out; have x1 := X3.cell 1; simp at x1; have hx3 := X3.lt; obtain ⟨d0, d1, -, e0, e1⟩ := HCL.out _ w3 HP3.out; clear hi3 hg3 X3)
            go_roundw
            case rel => exact ⟨4, by omega, rfl, rfl, by first | rfl | go_num, HN2.out, HP3.out⟩
            case measure => simp [intOf]
          | true =>
            rw [hZ] at HF0
            have HCU : Hid (∀ v, In w0 b M s v → Calls Tryz.prog 35 #[.pointer (some ⟨b, 0, none⟩), .int .i64 (p : Int)] v fun e v' => e = .returned (.tuple #[tokV p (cR s p 3), fltV (cR s p 3)]) ∧ In w0 b M s v' ∧ v.grownBy v' (some b)) := fun v hv => cuts_any HG.out s p 3 hs hlt (by omega) hZ v hv
            have hpce := row_pce s p 3 (by omega) HNO.out hZ
            cases hV : cR s p 3 with
            | ok k t =>
              rw [hV] at hpce HCU
              obtain ⟨t1, t2, t3⟩ := pce_ok hlt hpce
              have HCN : Hid (cut s 0 = ((acc ++ [(⟨k, p, t⟩ : Tk)]) ++ (cut s t).1, (cut s t).2)) := by unfold Hid; rw [HC.out, cut_ok hlt hpce]; simp
              have HCU' : Hid (∀ v, In w0 b M s v → Calls Tryz.prog 35 #[.pointer (some ⟨b, 0, none⟩), .int .i64 (p : Int)] v fun e v' => e = .returned (.tuple #[.agg #[.int .u8 (k : Int), .int .i64 (p : Int), .int .i64 (t : Int)], .agg #[.int .i64 0, .int .i64 0, .int .i64 0]]) ∧ In w0 b M s v' ∧ v.grownBy v' (some b)) := HCU
              clear hV hpce HCU hZ HNO
              go_wp2_with (first
                | (go_at_call 34; (with_reducible refine (HF0.out _ HPa.out.ins).mono ?_); rintro e w3 ⟨rfl, hi3, hg3⟩; have HP3 : Hid (Pw3 w0 w2 b M w.heap.size s u9 acc w3) := HPa.out.grown hb2 HF9.out hg3 hi3; have X3 : Bx w3 wr.heap.size #[.func (Fn.func 34) #[.pointer (some ⟨b, 0, none⟩)] #[], .func (Fn.func 35) #[.pointer (some ⟨b, 0, none⟩)] #[]] 80 := (hg3.block wr.heap.size (by simp) (by simp; omega)).trans HXa.out; have x1 := X3.cell 1; simp at x1; have hx3 := X3.lt; obtain ⟨d0, d1, -, e0, e1⟩ := HCL.out _ w3 HP3.out; clear hi3 hg3 X3)
                | (go_at_call 35; (with_reducible refine (HCU'.out _ HP3.out.ins).mono ?_); rintro e w5 ⟨rfl, hi5, hg5⟩; have HP5 : Hid (Pw3 w0 w2 b M w.heap.size s u9 acc w5) := HP3.out.grown hb2 HF9.out hg5 hi5; have hs5 : w2.heap.size ≤ w5.heap.size := HP5.out.sz; clear hi5 hg5 d0 d1 e0 e1 x1 hx3)
                | (at_builtin; (refine wpList_append_at _ rfl (.tmp 52) (.tmp 54) 23 rfl w2.heap.size 50 i0 (.agg #[.int .u8 0, .int .i64 0, .int .i64 0]) 3 24 Tryz.underlying23 hi hz0 hz1 hz2 rfl (by decide) _ acc.length (flat acc) rfl (((HP5.out.own.alloc _).alloc _).alloc _) (some ⟨_, 0, none⟩) 1 1 [.int .u8 (k : Int), .int .i64 (p : Int), .int .i64 (t : Int)] rfl rfl (fun h => by cases h) (fun ad had => by cases had; exact cells_new3 _ _ _ _ _) (fun u hu => by simp at hu; rcases hu with rfl | rfl | rfl <;> rfl) (by unfold maxLen; omega) (by omega) (by simp; omega) ?_); intro v9 w9 ho9 hg9 _; obtain ⟨HPn, k2, kz⟩ := pw_app HP5.out hB0 t1 ho9 hg9; have HP9 : Hid (Pw3 w0 w2 b M w.heap.size s v9 (acc ++ [(⟨k, p, t⟩ : Tk)]) w9) := HPn; clear ho9 hg9 HPn))
              exact ⟨⟨t, acc ++ [(⟨k, p, t⟩ : Tk)], t2, rfl, by simp; omega, HCN.out, HP9.out⟩, by simp [intOf]; omega⟩
            | no y z =>
              rw [hV] at hpce HCU
              have hy := pce_no hlt hpce
              have HCN : Hid (cut s 0 = (acc, some (y, z))) := by unfold Hid; rw [HC.out, cut_no hlt hpce]; simp
              have HCU' : Hid (∀ v, In w0 b M s v → Calls Tryz.prog 35 #[.pointer (some ⟨b, 0, none⟩), .int .i64 (p : Int)] v fun e v' => e = .returned (.tuple #[.agg #[.int .u8 0, .int .i64 0, .int .i64 0], .agg #[.int .i64 (y : Int), .int .i64 0, .int .i64 (z : Int)]]) ∧ In w0 b M s v' ∧ v.grownBy v' (some b)) := HCU
              have hy0 : ((y : Int) == 0) = false := by simp; omega
              clear hV hpce HCU hZ HNO
              go_wp2_with (first
                | (go_at_call 34; (with_reducible refine (HF0.out _ HPa.out.ins).mono ?_); rintro e w3 ⟨rfl, hi3, hg3⟩; have HP3 : Hid (Pw3 w0 w2 b M w.heap.size s u9 acc w3) := HPa.out.grown hb2 HF9.out hg3 hi3; have X3 : Bx w3 wr.heap.size #[.func (Fn.func 34) #[.pointer (some ⟨b, 0, none⟩)] #[], .func (Fn.func 35) #[.pointer (some ⟨b, 0, none⟩)] #[]] 80 := (hg3.block wr.heap.size (by simp) (by simp; omega)).trans HXa.out; have x1 := X3.cell 1; simp at x1; have hx3 := X3.lt; obtain ⟨d0, d1, -, e0, e1⟩ := HCL.out _ w3 HP3.out; clear hi3 hg3 X3)
                | (go_at_call 35; (with_reducible refine (HCU'.out _ HP3.out.ins).mono ?_); rintro e w5 ⟨rfl, hi5, hg5⟩; have HP5 : Hid (Pw3 w0 w2 b M w.heap.size s u9 acc w5) := HP3.out.grown hb2 HF9.out hg5 hi5; have hs5 : w2.heap.size ≤ w5.heap.size := HP5.out.sz; clear hi5 hg5 d0 d1 e0 e1 x1 hx3))
              obtain ⟨w7, e7⟩ : ∃ w7, (w5.alloc (.cells #[.int .u8 0, .int .i64 0, .int .i64 0] 50)).alloc (.cells #[.int .i64 (y : Int), .int .i64 0, .int .i64 (z : Int)] 26) = w7 := ⟨_, rfl⟩
              have F7 : Bx w7 w.heap.size #[.int .i64 0, .int .i64 0, .int .i64 0] 26 := by rw [← e7]; exact (HP5.out.flt.alloc _).alloc _
              have Y7 : Bx w7 (w5.heap.size + 1) #[.int .i64 (y : Int), .int .i64 0, .int .i64 (z : Int)] 26 := by
                rw [← e7]
                have := Bx.new (w5.alloc (.cells #[.int .u8 0, .int .i64 0, .int .i64 0] 50)) #[.int .i64 (y : Int), .int .i64 0, .int .i64 (z : Int)] 26
                simpa using this
              have HB7 : Hid (Below w0.heap.size w0 w7) := by unfold Hid; rw [← e7]; exact (HP5.out.ins.bel.alloc HP5.out.ins.bel.size _).alloc (by have := HP5.out.ins.bel.size; simp; omega) _
              rw [e7]
              clear e7 HP5 HP3 HPa HXa HF0 HCU' y0 y1
              have z0 := F7.cell 0
              have z1 := F7.cell 1
              have z2 := F7.cell 2
              have f0 := F7.free 0
              have f1 := F7.free 1
              have f2 := F7.free 2
              have t0 := Y7.cell 0
              have t1 := Y7.cell 1
              have t2 := Y7.cell 2
              have l7 := F7.lt
              have m7 := Y7.lt
              simp at z0 z1 z2 t0 t1 t2
              have HF7 : Hid (Bx w7 w.heap.size #[.int .i64 0, .int .i64 0, .int .i64 0] 26) := F7
              clear F7 Y7
              go_region
              all_goals
                go_wp2
                rw [Exit.noGoto_ret]
                obtain ⟨r0, r1, r2⟩ := HF7.out.read3 (.int .i64 (y : Int)) (.int .i64 0) (.int .i64 (z : Int))
                refine bodyPost_ret (v := .tuple #[.slice none 0 0, .int .i64 0, .agg #[.int .i64 (y : Int), .int .i64 0, .int .i64 (z : Int)]]) (by simp [results, Tryz.results13, go_sem, r0, r1, r2]) rfl ⟨w2, HB2.out, PcE.no HCN.out ((bel_put3 HB7.out hW0).drew) rfl⟩
        · have y0 : wr.cell? ⟨b + 1, 8, none⟩ = some (.func (Fn.func 36) #[.pointer (some ⟨b, 0, none⟩)] #[]) := XS.cell 8
          have y1 : wr.cell? ⟨b + 1, 9, none⟩ = some (.func (Fn.func 37) #[.pointer (some ⟨b, 0, none⟩)] #[]) := XS.cell 9
          have HF0 : Hid (∀ v, In w0 b M s v → Calls Tryz.prog 36 #[.pointer (some ⟨b, 0, none⟩), .int .i64 (p : Int)] v fun e v' => e = .returned (.bool (fR s p 4)) ∧ In w0 b M s v' ∧ v.grownBy v' (some b)) := fun v hv => fits_any HG.out s p 4 hs hlt (by omega) v hv
          have HPa : Hid (Pw3 w0 w2 b M w.heap.size s u9 acc (wr.alloc (.cells #[.func (Fn.func 36) #[.pointer (some ⟨b, 0, none⟩)] #[], .func (Fn.func 37) #[.pointer (some ⟨b, 0, none⟩)] #[]] 80))) := HP.out.below ((Below.refl _ wr).alloc (Nat.le_refl _) _)
          have HXa : Hid (Bx (wr.alloc (.cells #[.func (Fn.func 36) #[.pointer (some ⟨b, 0, none⟩)] #[], .func (Fn.func 37) #[.pointer (some ⟨b, 0, none⟩)] #[]] 80)) wr.heap.size #[.func (Fn.func 36) #[.pointer (some ⟨b, 0, none⟩)] #[], .func (Fn.func 37) #[.pointer (some ⟨b, 0, none⟩)] #[]] 80) := Bx.new _ _ _
          clear XS
          cases hZ : fR s p 4 with
          | false =>
            rw [hZ] at HF0
            have HN2 : Hid (∀ i, i < 5 → fR s p i = false) := fun i hi => by
              by_cases h : i = 4
              · subst h; exact hZ
              · exact HNO.out i (by omega)
            go_wp2_with (go_at_call 36; (with_reducible refine (HF0.out _ HPa.out.ins).mono ?_); rintro e w3 ⟨rfl, hi3, hg3⟩; have HP3 : Hid (Pw3 w0 w2 b M w.heap.size s u9 acc w3) := HPa.out.grown hb2 HF9.out hg3 hi3; have X3 : Bx w3 wr.heap.size #[.func (Fn.func 36) #[.pointer (some ⟨b, 0, none⟩)] #[], .func (Fn.func 37) #[.pointer (some ⟨b, 0, none⟩)] #[]] 80 := (hg3.block wr.heap.size (by simp) (by simp; omega)).trans HXa.out; have x1 := X3.cell 1; simp at x1; have hx3 := X3.lt; obtain ⟨d0, d1, -, e0, e1⟩ := HCL.out _ w3 HP3.out; clear hi3 hg3 X3)
            go_roundw
            case rel => exact ⟨5, by omega, rfl, rfl, by first | rfl | go_num, HN2.out, HP3.out⟩
            case measure => simp [intOf]
          | true =>
            rw [hZ] at HF0
            have HCU : Hid (∀ v, In w0 b M s v → Calls Tryz.prog 37 #[.pointer (some ⟨b, 0, none⟩), .int .i64 (p : Int)] v fun e v' => e = .returned (.tuple #[tokV p (cR s p 4), fltV (cR s p 4)]) ∧ In w0 b M s v' ∧ v.grownBy v' (some b)) := fun v hv => cuts_any HG.out s p 4 hs hlt (by omega) hZ v hv
            have hpce := row_pce s p 4 (by omega) HNO.out hZ
            cases hV : cR s p 4 with
            | ok k t =>
              rw [hV] at hpce HCU
              obtain ⟨t1, t2, t3⟩ := pce_ok hlt hpce
              have HCN : Hid (cut s 0 = ((acc ++ [(⟨k, p, t⟩ : Tk)]) ++ (cut s t).1, (cut s t).2)) := by unfold Hid; rw [HC.out, cut_ok hlt hpce]; simp
              have HCU' : Hid (∀ v, In w0 b M s v → Calls Tryz.prog 37 #[.pointer (some ⟨b, 0, none⟩), .int .i64 (p : Int)] v fun e v' => e = .returned (.tuple #[.agg #[.int .u8 (k : Int), .int .i64 (p : Int), .int .i64 (t : Int)], .agg #[.int .i64 0, .int .i64 0, .int .i64 0]]) ∧ In w0 b M s v' ∧ v.grownBy v' (some b)) := HCU
              clear hV hpce HCU hZ HNO
              go_wp2_with (first
                | (go_at_call 36; (with_reducible refine (HF0.out _ HPa.out.ins).mono ?_); rintro e w3 ⟨rfl, hi3, hg3⟩; have HP3 : Hid (Pw3 w0 w2 b M w.heap.size s u9 acc w3) := HPa.out.grown hb2 HF9.out hg3 hi3; have X3 : Bx w3 wr.heap.size #[.func (Fn.func 36) #[.pointer (some ⟨b, 0, none⟩)] #[], .func (Fn.func 37) #[.pointer (some ⟨b, 0, none⟩)] #[]] 80 := (hg3.block wr.heap.size (by simp) (by simp; omega)).trans HXa.out; have x1 := X3.cell 1; simp at x1; have hx3 := X3.lt; obtain ⟨d0, d1, -, e0, e1⟩ := HCL.out _ w3 HP3.out; clear hi3 hg3 X3)
                | (go_at_call 37; (with_reducible refine (HCU'.out _ HP3.out.ins).mono ?_); rintro e w5 ⟨rfl, hi5, hg5⟩; have HP5 : Hid (Pw3 w0 w2 b M w.heap.size s u9 acc w5) := HP3.out.grown hb2 HF9.out hg5 hi5; have hs5 : w2.heap.size ≤ w5.heap.size := HP5.out.sz; clear hi5 hg5 d0 d1 e0 e1 x1 hx3)
                | (at_builtin; (refine wpList_append_at _ rfl (.tmp 52) (.tmp 54) 23 rfl w2.heap.size 50 i0 (.agg #[.int .u8 0, .int .i64 0, .int .i64 0]) 3 24 Tryz.underlying23 hi hz0 hz1 hz2 rfl (by decide) _ acc.length (flat acc) rfl (((HP5.out.own.alloc _).alloc _).alloc _) (some ⟨_, 0, none⟩) 1 1 [.int .u8 (k : Int), .int .i64 (p : Int), .int .i64 (t : Int)] rfl rfl (fun h => by cases h) (fun ad had => by cases had; exact cells_new3 _ _ _ _ _) (fun u hu => by simp at hu; rcases hu with rfl | rfl | rfl <;> rfl) (by unfold maxLen; omega) (by omega) (by simp; omega) ?_); intro v9 w9 ho9 hg9 _; obtain ⟨HPn, k2, kz⟩ := pw_app HP5.out hB0 t1 ho9 hg9; have HP9 : Hid (Pw3 w0 w2 b M w.heap.size s v9 (acc ++ [(⟨k, p, t⟩ : Tk)]) w9) := HPn; clear ho9 hg9 HPn))
              exact ⟨⟨t, acc ++ [(⟨k, p, t⟩ : Tk)], t2, rfl, by simp; omega, HCN.out, HP9.out⟩, by simp [intOf]; omega⟩
            | no y z =>
              rw [hV] at hpce HCU
              have hy := pce_no hlt hpce
              have HCN : Hid (cut s 0 = (acc, some (y, z))) := by unfold Hid; rw [HC.out, cut_no hlt hpce]; simp
              have HCU' : Hid (∀ v, In w0 b M s v → Calls Tryz.prog 37 #[.pointer (some ⟨b, 0, none⟩), .int .i64 (p : Int)] v fun e v' => e = .returned (.tuple #[.agg #[.int .u8 0, .int .i64 0, .int .i64 0], .agg #[.int .i64 (y : Int), .int .i64 0, .int .i64 (z : Int)]]) ∧ In w0 b M s v' ∧ v.grownBy v' (some b)) := HCU
              have hy0 : ((y : Int) == 0) = false := by simp; omega
              clear hV hpce HCU hZ HNO
              go_wp2_with (first
                | (go_at_call 36; (with_reducible refine (HF0.out _ HPa.out.ins).mono ?_); rintro e w3 ⟨rfl, hi3, hg3⟩; have HP3 : Hid (Pw3 w0 w2 b M w.heap.size s u9 acc w3) := HPa.out.grown hb2 HF9.out hg3 hi3; have X3 : Bx w3 wr.heap.size #[.func (Fn.func 36) #[.pointer (some ⟨b, 0, none⟩)] #[], .func (Fn.func 37) #[.pointer (some ⟨b, 0, none⟩)] #[]] 80 := (hg3.block wr.heap.size (by simp) (by simp; omega)).trans HXa.out; have x1 := X3.cell 1; simp at x1; have hx3 := X3.lt; obtain ⟨d0, d1, -, e0, e1⟩ := HCL.out _ w3 HP3.out; clear hi3 hg3 X3)
                | (go_at_call 37; (with_reducible refine (HCU'.out _ HP3.out.ins).mono ?_); rintro e w5 ⟨rfl, hi5, hg5⟩; have HP5 : Hid (Pw3 w0 w2 b M w.heap.size s u9 acc w5) := HP3.out.grown hb2 HF9.out hg5 hi5; have hs5 : w2.heap.size ≤ w5.heap.size := HP5.out.sz; clear hi5 hg5 d0 d1 e0 e1 x1 hx3))
              obtain ⟨w7, e7⟩ : ∃ w7, (w5.alloc (.cells #[.int .u8 0, .int .i64 0, .int .i64 0] 50)).alloc (.cells #[.int .i64 (y : Int), .int .i64 0, .int .i64 (z : Int)] 26) = w7 := ⟨_, rfl⟩
              have F7 : Bx w7 w.heap.size #[.int .i64 0, .int .i64 0, .int .i64 0] 26 := by rw [← e7]; exact (HP5.out.flt.alloc _).alloc _
              have Y7 : Bx w7 (w5.heap.size + 1) #[.int .i64 (y : Int), .int .i64 0, .int .i64 (z : Int)] 26 := by
                rw [← e7]
                have := Bx.new (w5.alloc (.cells #[.int .u8 0, .int .i64 0, .int .i64 0] 50)) #[.int .i64 (y : Int), .int .i64 0, .int .i64 (z : Int)] 26
                simpa using this
              have HB7 : Hid (Below w0.heap.size w0 w7) := by unfold Hid; rw [← e7]; exact (HP5.out.ins.bel.alloc HP5.out.ins.bel.size _).alloc (by have := HP5.out.ins.bel.size; simp; omega) _
              rw [e7]
              clear e7 HP5 HP3 HPa HXa HF0 HCU' y0 y1
              have z0 := F7.cell 0
              have z1 := F7.cell 1
              have z2 := F7.cell 2
              have f0 := F7.free 0
              have f1 := F7.free 1
              have f2 := F7.free 2
              have t0 := Y7.cell 0
              have t1 := Y7.cell 1
              have t2 := Y7.cell 2
              have l7 := F7.lt
              have m7 := Y7.lt
              simp at z0 z1 z2 t0 t1 t2
              have HF7 : Hid (Bx w7 w.heap.size #[.int .i64 0, .int .i64 0, .int .i64 0] 26) := F7
              clear F7 Y7
              go_region
              all_goals
                go_wp2
                rw [Exit.noGoto_ret]
                obtain ⟨r0, r1, r2⟩ := HF7.out.read3 (.int .i64 (y : Int)) (.int .i64 0) (.int .i64 (z : Int))
                refine bodyPost_ret (v := .tuple #[.slice none 0 0, .int .i64 0, .agg #[.int .i64 (y : Int), .int .i64 0, .int .i64 (z : Int)]]) (by simp [results, Tryz.results13, go_sem, r0, r1, r2]) rfl ⟨w2, HB2.out, PcE.no HCN.out ((bel_put3 HB7.out hW0).drew) rfl⟩
        · have y0 : wr.cell? ⟨b + 1, 10, none⟩ = some (.func (Fn.func 38) #[.pointer (some ⟨b, 0, none⟩)] #[]) := XS.cell 10
          have y1 : wr.cell? ⟨b + 1, 11, none⟩ = some (.func (Fn.func 39) #[.pointer (some ⟨b, 0, none⟩)] #[]) := XS.cell 11
          have HF0 : Hid (∀ v, In w0 b M s v → Calls Tryz.prog 38 #[.pointer (some ⟨b, 0, none⟩), .int .i64 (p : Int)] v fun e v' => e = .returned (.bool (fR s p 5)) ∧ In w0 b M s v' ∧ v.grownBy v' (some b)) := fun v hv => fits_any HG.out s p 5 hs hlt (by omega) v hv
          have HPa : Hid (Pw3 w0 w2 b M w.heap.size s u9 acc (wr.alloc (.cells #[.func (Fn.func 38) #[.pointer (some ⟨b, 0, none⟩)] #[], .func (Fn.func 39) #[.pointer (some ⟨b, 0, none⟩)] #[]] 80))) := HP.out.below ((Below.refl _ wr).alloc (Nat.le_refl _) _)
          have HXa : Hid (Bx (wr.alloc (.cells #[.func (Fn.func 38) #[.pointer (some ⟨b, 0, none⟩)] #[], .func (Fn.func 39) #[.pointer (some ⟨b, 0, none⟩)] #[]] 80)) wr.heap.size #[.func (Fn.func 38) #[.pointer (some ⟨b, 0, none⟩)] #[], .func (Fn.func 39) #[.pointer (some ⟨b, 0, none⟩)] #[]] 80) := Bx.new _ _ _
          clear XS
          cases hZ : fR s p 5 with
          | false =>
            rw [hZ] at HF0
            have HN2 : Hid (∀ i, i < 6 → fR s p i = false) := fun i hi => by
              by_cases h : i = 5
              · subst h; exact hZ
              · exact HNO.out i (by omega)
            go_wp2_with (go_at_call 38; (with_reducible refine (HF0.out _ HPa.out.ins).mono ?_); rintro e w3 ⟨rfl, hi3, hg3⟩; have HP3 : Hid (Pw3 w0 w2 b M w.heap.size s u9 acc w3) := HPa.out.grown hb2 HF9.out hg3 hi3; have X3 : Bx w3 wr.heap.size #[.func (Fn.func 38) #[.pointer (some ⟨b, 0, none⟩)] #[], .func (Fn.func 39) #[.pointer (some ⟨b, 0, none⟩)] #[]] 80 := (hg3.block wr.heap.size (by simp) (by simp; omega)).trans HXa.out; have x1 := X3.cell 1; simp at x1; have hx3 := X3.lt; obtain ⟨d0, d1, -, e0, e1⟩ := HCL.out _ w3 HP3.out; clear hi3 hg3 X3)
            go_roundw
            case rel => exact ⟨6, by omega, rfl, rfl, by first | rfl | go_num, HN2.out, HP3.out⟩
            case measure => simp [intOf]
          | true =>
            rw [hZ] at HF0
            have HCU : Hid (∀ v, In w0 b M s v → Calls Tryz.prog 39 #[.pointer (some ⟨b, 0, none⟩), .int .i64 (p : Int)] v fun e v' => e = .returned (.tuple #[tokV p (cR s p 5), fltV (cR s p 5)]) ∧ In w0 b M s v' ∧ v.grownBy v' (some b)) := fun v hv => cuts_any HG.out s p 5 hs hlt (by omega) hZ v hv
            have hpce := row_pce s p 5 (by omega) HNO.out hZ
            cases hV : cR s p 5 with
            | ok k t =>
              rw [hV] at hpce HCU
              obtain ⟨t1, t2, t3⟩ := pce_ok hlt hpce
              have HCN : Hid (cut s 0 = ((acc ++ [(⟨k, p, t⟩ : Tk)]) ++ (cut s t).1, (cut s t).2)) := by unfold Hid; rw [HC.out, cut_ok hlt hpce]; simp
              have HCU' : Hid (∀ v, In w0 b M s v → Calls Tryz.prog 39 #[.pointer (some ⟨b, 0, none⟩), .int .i64 (p : Int)] v fun e v' => e = .returned (.tuple #[.agg #[.int .u8 (k : Int), .int .i64 (p : Int), .int .i64 (t : Int)], .agg #[.int .i64 0, .int .i64 0, .int .i64 0]]) ∧ In w0 b M s v' ∧ v.grownBy v' (some b)) := HCU
              clear hV hpce HCU hZ HNO
              go_wp2_with (first
                | (go_at_call 38; (with_reducible refine (HF0.out _ HPa.out.ins).mono ?_); rintro e w3 ⟨rfl, hi3, hg3⟩; have HP3 : Hid (Pw3 w0 w2 b M w.heap.size s u9 acc w3) := HPa.out.grown hb2 HF9.out hg3 hi3; have X3 : Bx w3 wr.heap.size #[.func (Fn.func 38) #[.pointer (some ⟨b, 0, none⟩)] #[], .func (Fn.func 39) #[.pointer (some ⟨b, 0, none⟩)] #[]] 80 := (hg3.block wr.heap.size (by simp) (by simp; omega)).trans HXa.out; have x1 := X3.cell 1; simp at x1; have hx3 := X3.lt; obtain ⟨d0, d1, -, e0, e1⟩ := HCL.out _ w3 HP3.out; clear hi3 hg3 X3)
                | (go_at_call 39; (with_reducible refine (HCU'.out _ HP3.out.ins).mono ?_); rintro e w5 ⟨rfl, hi5, hg5⟩; have HP5 : Hid (Pw3 w0 w2 b M w.heap.size s u9 acc w5) := HP3.out.grown hb2 HF9.out hg5 hi5; have hs5 : w2.heap.size ≤ w5.heap.size := HP5.out.sz; clear hi5 hg5 d0 d1 e0 e1 x1 hx3)
                | (at_builtin; (refine wpList_append_at _ rfl (.tmp 52) (.tmp 54) 23 rfl w2.heap.size 50 i0 (.agg #[.int .u8 0, .int .i64 0, .int .i64 0]) 3 24 Tryz.underlying23 hi hz0 hz1 hz2 rfl (by decide) _ acc.length (flat acc) rfl (((HP5.out.own.alloc _).alloc _).alloc _) (some ⟨_, 0, none⟩) 1 1 [.int .u8 (k : Int), .int .i64 (p : Int), .int .i64 (t : Int)] rfl rfl (fun h => by cases h) (fun ad had => by cases had; exact cells_new3 _ _ _ _ _) (fun u hu => by simp at hu; rcases hu with rfl | rfl | rfl <;> rfl) (by unfold maxLen; omega) (by omega) (by simp; omega) ?_); intro v9 w9 ho9 hg9 _; obtain ⟨HPn, k2, kz⟩ := pw_app HP5.out hB0 t1 ho9 hg9; have HP9 : Hid (Pw3 w0 w2 b M w.heap.size s v9 (acc ++ [(⟨k, p, t⟩ : Tk)]) w9) := HPn; clear ho9 hg9 HPn))
              exact ⟨⟨t, acc ++ [(⟨k, p, t⟩ : Tk)], t2, rfl, by simp; omega, HCN.out, HP9.out⟩, by simp [intOf]; omega⟩
            | no y z =>
              rw [hV] at hpce HCU
              have hy := pce_no hlt hpce
              have HCN : Hid (cut s 0 = (acc, some (y, z))) := by unfold Hid; rw [HC.out, cut_no hlt hpce]; simp
              have HCU' : Hid (∀ v, In w0 b M s v → Calls Tryz.prog 39 #[.pointer (some ⟨b, 0, none⟩), .int .i64 (p : Int)] v fun e v' => e = .returned (.tuple #[.agg #[.int .u8 0, .int .i64 0, .int .i64 0], .agg #[.int .i64 (y : Int), .int .i64 0, .int .i64 (z : Int)]]) ∧ In w0 b M s v' ∧ v.grownBy v' (some b)) := HCU
              have hy0 : ((y : Int) == 0) = false := by simp; omega
              clear hV hpce HCU hZ HNO
              go_wp2_with (first
                | (go_at_call 38; (with_reducible refine (HF0.out _ HPa.out.ins).mono ?_); rintro e w3 ⟨rfl, hi3, hg3⟩; have HP3 : Hid (Pw3 w0 w2 b M w.heap.size s u9 acc w3) := HPa.out.grown hb2 HF9.out hg3 hi3; have X3 : Bx w3 wr.heap.size #[.func (Fn.func 38) #[.pointer (some ⟨b, 0, none⟩)] #[], .func (Fn.func 39) #[.pointer (some ⟨b, 0, none⟩)] #[]] 80 := (hg3.block wr.heap.size (by simp) (by simp; omega)).trans HXa.out; have x1 := X3.cell 1; simp at x1; have hx3 := X3.lt; obtain ⟨d0, d1, -, e0, e1⟩ := HCL.out _ w3 HP3.out; clear hi3 hg3 X3)
                | (go_at_call 39; (with_reducible refine (HCU'.out _ HP3.out.ins).mono ?_); rintro e w5 ⟨rfl, hi5, hg5⟩; have HP5 : Hid (Pw3 w0 w2 b M w.heap.size s u9 acc w5) := HP3.out.grown hb2 HF9.out hg5 hi5; have hs5 : w2.heap.size ≤ w5.heap.size := HP5.out.sz; clear hi5 hg5 d0 d1 e0 e1 x1 hx3))
              obtain ⟨w7, e7⟩ : ∃ w7, (w5.alloc (.cells #[.int .u8 0, .int .i64 0, .int .i64 0] 50)).alloc (.cells #[.int .i64 (y : Int), .int .i64 0, .int .i64 (z : Int)] 26) = w7 := ⟨_, rfl⟩
              have F7 : Bx w7 w.heap.size #[.int .i64 0, .int .i64 0, .int .i64 0] 26 := by rw [← e7]; exact (HP5.out.flt.alloc _).alloc _
              have Y7 : Bx w7 (w5.heap.size + 1) #[.int .i64 (y : Int), .int .i64 0, .int .i64 (z : Int)] 26 := by
                rw [← e7]
                have := Bx.new (w5.alloc (.cells #[.int .u8 0, .int .i64 0, .int .i64 0] 50)) #[.int .i64 (y : Int), .int .i64 0, .int .i64 (z : Int)] 26
                simpa using this
              have HB7 : Hid (Below w0.heap.size w0 w7) := by unfold Hid; rw [← e7]; exact (HP5.out.ins.bel.alloc HP5.out.ins.bel.size _).alloc (by have := HP5.out.ins.bel.size; simp; omega) _
              rw [e7]
              clear e7 HP5 HP3 HPa HXa HF0 HCU' y0 y1
              have z0 := F7.cell 0
              have z1 := F7.cell 1
              have z2 := F7.cell 2
              have f0 := F7.free 0
              have f1 := F7.free 1
              have f2 := F7.free 2
              have t0 := Y7.cell 0
              have t1 := Y7.cell 1
              have t2 := Y7.cell 2
              have l7 := F7.lt
              have m7 := Y7.lt
              simp at z0 z1 z2 t0 t1 t2
              have HF7 : Hid (Bx w7 w.heap.size #[.int .i64 0, .int .i64 0, .int .i64 0] 26) := F7
              clear F7 Y7
              go_region
              all_goals
                go_wp2
                rw [Exit.noGoto_ret]
                obtain ⟨r0, r1, r2⟩ := HF7.out.read3 (.int .i64 (y : Int)) (.int .i64 0) (.int .i64 (z : Int))
                refine bodyPost_ret (v := .tuple #[.slice none 0 0, .int .i64 0, .agg #[.int .i64 (y : Int), .int .i64 0, .int .i64 (z : Int)]]) (by simp [results, Tryz.results13, go_sem, r0, r1, r2]) rfl ⟨w2, HB2.out, PcE.no HCN.out ((bel_put3 HB7.out hW0).drew) rfl⟩
        · have HCN : Hid (cut s 0 = (acc, some (20, p))) := by unfold Hid; rw [HC.out, cut_no hlt (row_none s p hlt HNO.out)]; simp
          have h66 : ¬ (6 : Int) < 6 := by decide
          clear XS
          go_wp2_with (go_at_call 22; (with_reducible refine (faultAt_any _ _ _).mono ?_); rintro e w4 ⟨rfl, hb4⟩; have HP4 : Hid (Pw3 w0 w2 b M w.heap.size s u9 acc w4) := HP.out.below hb4; clear hb4; have F7 := HP4.out.flt; have z0 := F7.cell 0; have z1 := F7.cell 1; have z2 := F7.cell 2; have f0 := F7.free 0; have f1 := F7.free 1; have f2 := F7.free 2; have l7 := F7.lt; simp at z0 z1 z2; clear F7)
          rw [Exit.noGoto_ret]
          obtain ⟨r0, r1, r2⟩ := HP4.out.flt.read3 (.int .i64 20) (.int .i64 0) (.int .i64 (p : Int))
          refine bodyPost_ret (v := .tuple #[.slice none 0 0, .int .i64 0, .agg #[.int .i64 20, .int .i64 0, .int .i64 (p : Int)]]) (by simp [results, Tryz.results13, go_sem, r0, r1, r2]) rfl ⟨w2, HB2.out, PcE.no HCN.out (bel_put3 HP4.out.ins.bel hW0) rfl⟩
    · have hge : ¬ (p : Int) < (s.size : Int) := by omega
      have hps : p = s.size := by omega
      have hW0 : w0.heap.size ≤ w.heap.size := by have := HG.out.b0; omega
      have HCN : Hid (cut s 0 = (acc, none)) := by unfold Hid; rw [HC.out, cut_end hlt]; simp
      obtain ⟨c0, c1, -, q0, q1⟩ := HCL.out _ wr HP.out
      have F7 := HP.out.flt
      have z0 := F7.cell 0
      have z1 := F7.cell 1
      have z2 := F7.cell 2
      have f0 := F7.free 0
      have f1 := F7.free 1
      have f2 := F7.free 2
      have l7 := F7.lt
      simp at z0 z1 z2
      obtain ⟨r0, r1, r2⟩ := F7.read3 (.int .i64 0) (.int .i64 0) (.int .i64 0)
      obtain ⟨a9, c9, hv9, -, -⟩ := own_slice HP.out.own
      subst hv9
      clear F7
      subst hps
      go_wp2
      refine bodyPost_ret (v := .tuple #[.slice a9 acc.length c9, .int .i64 (s.size : Int), .agg #[.int .i64 0, .int .i64 0, .int .i64 0]]) (by simp [results, Tryz.results13, go_sem, r0, r1, r2]) rfl ⟨w2, HB2.out, PcE.ok HCN.out (bel_put3 HP.out.ins.bel hW0) ⟨a9, c9, rfl, own_put3 HP.out.own HP.out.flt (by decide)⟩⟩
end Go.Proofs.YtmnbakalcpanlaaGreatDoor
