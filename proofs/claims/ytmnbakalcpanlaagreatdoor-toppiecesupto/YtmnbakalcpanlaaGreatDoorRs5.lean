import Derived.Test.YtmnbakalcpanlaaGreatDoorRs2
import Derived.Test.YtmnbakalcpanlaaGreatDoorRs3
namespace Go.Proofs.YtmnbakalcpanlaaGreatDoor
open Go.ChangeShapes Go.WideShapes Go.ChangeAt Go.RowKit Go.Maps Go.WideMaps
set_option linter.unusedVariables false
set_option linter.unusedSimpArgs false

theorem hidI {p : Prop} (h : p) : Hid p := h
theorem cut_sorted (s : ByteArray) : ∀ m p, s.size - p ≤ m → (cut s p).1.Pairwise (fun a b => a.f < b.f)
  | m, p, hm => by
    by_cases hp : p < s.size
    · cases hc : pce s p with
      | no y z => rw [cut_no hp hc]; exact List.Pairwise.nil
      | ok k t =>
        obtain ⟨t1, t2, -⟩ := pce_ok hp hc
        rw [cut_ok hp hc, List.pairwise_cons]
        refine ⟨fun q hq => ?_, cut_sorted s (m - 1) t (by omega)⟩
        obtain ⟨k', f', t', rfl, -, h1, -, -⟩ := cut_inF s _ t (Nat.le_refl _) q hq
        simp
        omega
    · rw [cut_end hp]; exact List.Pairwise.nil
  termination_by m p => s.size - p
theorem own_lift {w w' : World} {B e k n : Nat} {v : Value} {xs : List Value} (h : w.ownsRow B e k v n xs) (he : ∀ g, v.ownBlock = some g → w'.heap[g]? = w.heap[g]?) : w'.ownsRow B e k v n xs := by
  refine ⟨h.1, ?_⟩
  rcases h.2 with h2 | ⟨g, cap, cur, rfl, hg, hh, r⟩
  · exact .inl h2
  · exact .inr ⟨g, cap, cur, rfl, hg, (he g rfl).trans hh, r⟩
theorem Bx.row {v v' : World} {k B n : Nat} {us : Array Value} {t : TypeId} {so : Value} {xs : List Value} (Y : Bx v k us t) (ho : v.ownsRow B 50 3 so n xs) (hg : v.grownBy v' so.ownBlock) (hne : 50 ≠ t) : Bx v' k us t := by
  refine (hg.block k Y.lt (fun e => ?_)).trans Y
  obtain ⟨c, fz, hh⟩ := row_kindR ho k e.symm
  have hY : v.heap[k]? = some (Obj.cells us t (0, 0)) := Y
  rw [hh] at hY
  cases hY
  exact hne rfl
theorem liesA_cells {w : World} {a : Option Addr} {xs : List Tk} (h : LiesA w a xs) : ∀ ad, a = some ad → ∀ j u, (flat xs)[j]? = some u → w.cell? (ad.add j) = some u := by
  intro ad had j u hj
  rcases h with rfl | ⟨b, o, rfl, hl⟩
  · simp [flat] at hj
  · cases had
    exact hl.flat j u hj
/-- how the new text is cut in again -/
def PcS (w w3 : World) (s : ByteArray) (mv : Int) (old C : List Tk) (en : Nat) (fl : Option (Nat × Nat)) (e : Ending) (w' : World) : Prop :=
  Below w.heap.size w w' ∧ (∀ k, k < w3.heap.size → w'.heap[k]? = w3.heap[k]?) ∧ w3.heap.size ≤ w'.heap.size ∧ Bx w' w3.heap.size #[.int .i64 mv] 3 ∧
  match fl with
  | none => ∃ a c, e = .returned (.tuple #[.slice a C.length c, .int .i64 (en : Int), .agg #[.int .i64 0, .int .i64 0, .int .i64 0]]) ∧ w'.ownsRow w3.heap.size 50 3 (.slice a C.length c) C.length (flat C) ∧ (en = s.size ∨ Rst w (w3.heap.size + 1) (drp ((en : Int) - mv) old) w')
  | some (y, z) => e = .returned (.tuple #[.slice none 0 0, .int .i64 0, .agg #[.int .i64 (y : Int), .int .i64 0, .int .i64 (z : Int)]])
theorem pcs_again {n : ByteArray} {f t a0 : Nat} {s : ByteArray} {mv : Int} {old : List Tk} (hs : s.size ≤ 4294967280) (ha0 : a0 ≤ s.size) (hm1 : -4294967296 ≤ mv) (hm2 : mv ≤ 4294967296) (hso : old.Pairwise (fun a b => a.f < b.f)) {w : World} (hS : Spl w) (hT : Lt w) (hM : MaxL w) {a : Option Addr} {c : Nat} (hl : LiesA w a old) (hc : old.length ≤ c)
    {w3 : World} (hE3 : w.heap.size < w3.heap.size) (XE : Bx w3 w.heap.size #[.int .i64 (f : Int), .int .i64 (t : Int), .string n] 38) (hb3 : Below w.heap.size w w3)
    {w5 : World} (e5 : (w3.alloc (.cells #[.int .i64 mv] 3)).alloc (.cells #[.slice a old.length c] 23) = w5)
    {b : Nat} {w6 : World} (hbb : w5.heap.size < b) (X6 : Bx w6 b #[.string s, .slice (some ⟨b + 1, 0, none⟩) 6 6, .map (some w5.heap.size), .int .u32 0, .int .i32 0, .int .u32 0, .pointer none] 77) (Y6 : Bx w6 (b + 1) (sts b) 80) (hO6 : w6.ownsMap Tryz.prog 9 (plainElem (H := Unit) Tryz.prog 48) w5.heap.size 25 (KW 25)) (hb6 : Below w5.heap.size w5 w6)
    {C : List Tk} {en : Nat} {fl : Option (Nat × Nat)} (hk : ctK s (kno old t mv) a0 = (C, en, fl)) :
    Calls Tryz.prog 13 #[.pointer (some ⟨b, 0, none⟩), .int .i64 (a0 : Int), .func (Fn.func 46) #[] #[.pointer (some ⟨w3.heap.size, 0, none⟩), .pointer (some ⟨w.heap.size, 0, none⟩), .pointer (some ⟨w3.heap.size + 1, 0, none⟩)]] w6 fun e w' => PcS w w3 s mv old C en fl e w' := by
  have z5 : w5.heap.size = w3.heap.size + 2 := by rw [← e5]; simp
  have hb35 : Below w3.heap.size w3 w5 := by rw [← e5]; exact ((Below.refl _ _).alloc (Nat.le_refl _) _).alloc (by simp) _
  have M5 : Bx w5 w3.heap.size #[.int .i64 mv] 3 := by rw [← e5]; exact (Bx.new _ _ _).alloc _
  have R5 : Bx w5 (w3.heap.size + 1) #[.slice a old.length c] 23 := by
    rw [← e5]
    have := Bx.new (w3.alloc (.cells #[.int .i64 mv] 3)) #[.slice a old.length c] 23
    simpa using this
  have hb5 : Below w.heap.size w w5 := hb3.trans (hb35.mono (by omega))
  have hbw6 : Below w.heap.size w w6 := hb5.trans (hb6.mono (by omega))
  have M6 := M5.below hb6 M5.lt
  have R6 := R5.below hb6 R5.lt
  have E6 := (XE.below hb35 XE.lt).below hb6 (XE.below hb35 XE.lt).lt
  have hz6 := hb6.size
  obtain ⟨m, hm⟩ := hM
  have G : Gd w b w5.heap.size := ⟨hT, hS, ⟨m, hm⟩, by omega, by omega, by omega⟩
  have I : In w b w5.heap.size s w6 := ⟨hbw6, ⟨0, .pointer none, X6, Y6, .inl ⟨rfl, rfl⟩⟩, hO6⟩
  have kn := kn_any (w0 := w) (w := w6) (b := b) (M := w5.heap.size) (R := w3.heap.size + 1) (Mv := w3.heap.size) (E := w.heap.size) (s := s) (old := old) (mv := mv) (t := t) hs hm1 hm2 (by omega) R6.lt (by omega) (by omega) (by omega) (by omega) (by omega) (by omega) M6 E6 hso
  have hj : Jk w w6 b (w3.heap.size + 1) old mv a0 w6 := ⟨Nat.le_refl _, fun _ _ _ _ => rfl, [], old, rfl, fun q hq => by (cases hq), a, c, R6, hl, hc⟩
  refine (pieces_known G s hs ha0 w6 I kn hj).mono ?_
  rintro e w' ⟨wq, hq, hb', ⟨p', j1, j2, -⟩, hp⟩
  have keep : ∀ k, k < w5.heap.size → k ≠ w3.heap.size + 1 → w'.heap[k]? = w5.heap[k]? := fun k h1 h2 => (j2 k (by omega) (by omega) h2).trans (hb6.block k h1)
  refine ⟨hb', fun k hk => (keep k (by omega) (by omega)).trans (hb35.block k hk), by omega, (keep _ (by omega) (by omega)).trans M5, ?_⟩
  rw [hk] at hp
  cases fl with
  | none =>
    obtain ⟨a7, c7, h1, h2, -, h4⟩ := hp
    refine ⟨a7, c7, h1, own_lower h2 (by have := hq.size; omega), ?_⟩
    rcases h4 with h4 | h4
    · exact .inl h4
    · exact .inr h4.2
  | some yz => exact hp
/-- how again ends -/
def AgE (s : ByteArray) (w : World) (e : Ending) (w' : World) : Prop := Below w.heap.size w w' ∧
  match (cut s 0).2 with
  | none => ∃ v, e = .returned (.tuple #[v, .agg #[.int .i64 0, .int .i64 0, .int .i64 0]]) ∧ w'.ownsRow w.heap.size 50 3 v (cut s 0).1.length (flat (cut s 0).1)
  | some (y, z) => e = .returned (.tuple #[.slice none 0 0, .agg #[.int .i64 (y : Int), .int .i64 0, .int .i64 (z : Int)]])
theorem flat_mv (acc : List Tk) (mv : Int) (k f t : Int) : flat (acc ++ [mvZ mv (⟨k, f, t⟩ : Tk)]) = flat acc ++ [.int .u8 k, .int .i64 (f + mv), .int .i64 (t + mv)] := flat_one acc k (f + mv) (t + mv)
set_option maxRecDepth 1000000 in
set_option maxHeartbeats 16000000 in
theorem again_any (s n : ByteArray) (f t : Nat) (hs : s.size ≤ 2147483640) (hn : n.size ≤ 2147483640) (hC : (cut s 0).2 = none) (s' : ByteArray) (hE : Edt s s' f t n.size) (a : Option Addr) (c : Nat) (w : World) (hl : LiesA w a (cut s 0).1) (hc : (cut s 0).1.length ≤ c) (hS : Spl w) (hT : Lt w) (hM : MaxL w) :
    Calls Tryz.prog 24 #[.string s', .slice a (cut s 0).1.length c, .agg #[.int .i64 (f : Int), .int .i64 (t : Int), .string n]] w fun e w' => AgE s' w e w' := by
  obtain ⟨i0, hi, hz0, hz1, hz2⟩ := info_parts infoTkR
  have hmf : ∀ (fn : Fn) (first cap : Array Value) (w : World), (Instr.makeFunc fn first cap).run Tryz.prog w = .ok (.func fn first cap) w := fun _ _ _ _ => rfl
  have hft := hE.ft
  have hts := hE.ts
  have hsz := hE.size
  have hs' : s'.size ≤ 4294967280 := by omega
  obtain ⟨a0, h1, h2, h3, h4, h5⟩ := rescan_pure hE hC (mv := ((n.size : Int) - ((t : Int) - (f : Int)))) rfl
  have hso := cut_sorted s s.size 0 (by omega)
  obtain ⟨hq0, hq1⟩ := cut_all s s.size 0 (by omega)
  have hqf : ∀ q ∈ (cut s 0).1, (0 ≤ q.t ∧ q.t ≤ 4294967296) ∧ (0 ≤ q.f ∧ q.f ≤ 4294967296) := fun q hq => by
    obtain ⟨k, f, t, rfl, -, h1, h2⟩ := hq0 q hq
    refine ⟨⟨?_, ?_⟩, ⟨?_, ?_⟩⟩ <;> simp <;> omega
  obtain ⟨-, hn0⟩ := cut_all s' s'.size 0 (by omega)
  clear hq0
  generalize (cut s 0).1 = old at *
  obtain ⟨C, en, fl, hk⟩ : ∃ C en fl, ctK s' (kno old t ((n.size : Int) - ((t : Int) - (f : Int)))) a0 = (C, en, fl) := ⟨_, _, _, rfl⟩
  rw [hk] at h4 h5
  obtain ⟨U, hU⟩ : ∃ U, unt f old = U := ⟨_, rfl⟩
  rw [hU] at h5
  obtain ⟨w2, e2, hb2, hs2, B1, B2⟩ := bx2 w #[.int .i64 (f : Int), .int .i64 (t : Int), .string n] #[.int .i64 0, .int .i64 0, .int .i64 0] 38 26
  have HE2 : Hid ((w.alloc (.cells #[.int .i64 (f : Int), .int .i64 (t : Int), .string n] 38)).alloc (.cells #[.int .i64 0, .int .i64 0, .int .i64 0] 26) = w2) := e2
  have HB2 : Hid (Below w.heap.size w w2) := hb2
  have HXE : Hid (∀ v, Below w2.heap.size w2 v → Bx v w.heap.size #[.int .i64 (f : Int), .int .i64 (t : Int), .string n] 38 ∧ Bx v (w.heap.size + 1) #[.int .i64 0, .int .i64 0, .int .i64 0] 26 ∧ Below w.heap.size w v ∧ w.heap.size + 1 < v.heap.size) := fun v h => ⟨B1.below h B1.lt, B2.below h B2.lt, hb2.trans (h.mono hb2.size), (B2.below h B2.lt).lt⟩
  have HU : Hid (Calls Tryz.prog 45 #[.slice a old.length c, .int .i64 (f : Int)] w2 fun e w' => ∃ v, e = .returned (.tuple #[v, .int .i64 (a0 : Int)]) ∧ w'.ownsRow w2.heap.size 50 3 v U.length (flat U) ∧ Below w2.heap.size w2 w') := by
    have := untouchedL_any a c old f w2 (hl.below hb2) (by omega) (fun q hq => (hqf q hq).1)
    rw [h1, hU] at this
    exact this
  have HNS : Hid (∀ v, Below w.heap.size w v → Calls Tryz.prog 12 #[.string s'] v fun e w' => ∃ b, v.heap.size < b ∧ e = .returned (.pointer (some ⟨b, 0, none⟩)) ∧ Bx w' b #[.string s', .slice (some ⟨b + 1, 0, none⟩) 6 6, .map (some v.heap.size), .int .u32 0, .int .i32 0, .int .u32 0, .pointer none] 77 ∧ Bx w' (b + 1) (sts b) 80 ∧ w'.ownsMap Tryz.prog 9 (plainElem (H := Unit) Tryz.prog 48) v.heap.size 25 (KW 25) ∧ Below v.heap.size v w') := fun v hv => newScanner_any s' v (hS.below hv)
  have HPP : Hid (∀ w3, Below w2.heap.size w2 w3 → ∀ w5, (w3.alloc (.cells #[.int .i64 ((n.size : Int) - ((t : Int) - (f : Int)))] 3)).alloc (.cells #[.slice a old.length c] 23) = w5 → ∀ b w6, w5.heap.size < b → Bx w6 b #[.string s', .slice (some ⟨b + 1, 0, none⟩) 6 6, .map (some w5.heap.size), .int .u32 0, .int .i32 0, .int .u32 0, .pointer none] 77 → Bx w6 (b + 1) (sts b) 80 → w6.ownsMap Tryz.prog 9 (plainElem (H := Unit) Tryz.prog 48) w5.heap.size 25 (KW 25) → Below w5.heap.size w5 w6 → Calls Tryz.prog 13 #[.pointer (some ⟨b, 0, none⟩), .int .i64 (a0 : Int), .func (Fn.func 46) #[] #[.pointer (some ⟨w3.heap.size, 0, none⟩), .pointer (some ⟨w.heap.size, 0, none⟩), .pointer (some ⟨w3.heap.size + 1, 0, none⟩)]] w6  fun e w' => PcS w w3 s' ((n.size : Int) - ((t : Int) - (f : Int))) old C en fl e w' ∧ Bx w' (w.heap.size + 1) #[.int .i64 0, .int .i64 0, .int .i64 0] 26) := by
    intro w3 hw3 w5 e5 b w6 hbb X6 Y6 hO6 hb6
    obtain ⟨y1, y2, y3, y4⟩ := HXE.out w3 hw3
    refine (pcs_again (n := n) (f := f) (t := t) hs' h2 (by omega) (by omega) hso hS hT hM hl hc (by omega) y1 y3 e5 hbb X6 Y6 hO6 hb6 hk).mono ?_
    intro e w' hp
    exact ⟨hp, (hp.2.1 _ y4).trans y2⟩
  have HOW : Hid (∀ (v : Value) (w3 w7 : World), w3.ownsRow w2.heap.size 50 3 v U.length (flat U) → (∀ k, k < w3.heap.size → w7.heap[k]? = w3.heap[k]?) → w7.ownsRow w.heap.size 50 3 v U.length (flat U)) := fun v w3 w7 h hk => own_lower (own_lift h (fun g hg => hk g (h.lt g hg).2)) hb2.size
  have HLA : Hid (∀ ar rs, LiesA w ar rs → ∀ v, Below w.heap.size w v → LiesA v ar (rs : List Tk)) := fun ar rs h v hv => h.below hv
  have HQF : Hid (∀ q ∈ old, (0 ≤ q.t ∧ q.t ≤ 4294967296) ∧ (0 ≤ q.f ∧ q.f ≤ 4294967296)) := hqf
  have k0 := B1.cell 0
  have kz := B1.lt
  simp at k0
  clear HE2 hb2 hs2 B1 B2 hS hT hM hl hso hqf h1 hU hk hsz
  cases fl with
  | some yz =>
    obtain ⟨y, z⟩ := yz
    have hCN := h4 y z rfl
    obtain ⟨-, -, hy1, hy2, -⟩ := cut_first s' s'.size 0 y z (by omega) hCN
    have hy0 : ((y : Int) == 0) = false := by rw [beq_eq_false_iff_ne]; omega
    have HEND : Hid (∀ e w', Below w.heap.size w w' → e = .returned (.tuple #[.slice none 0 0, .agg #[.int .i64 (y : Int), .int .i64 0, .int .i64 (z : Int)]]) → AgE s' w e w') := fun e w' hb he => by
      unfold AgE
      rw [hCN]
      exact ⟨hb, he⟩
    have HPX : Hid (∀ w3, Below w2.heap.size w2 w3 → ∀ w5, (w3.alloc (.cells #[.int .i64 ((n.size : Int) - ((t : Int) - (f : Int)))] 3)).alloc (.cells #[.slice a old.length c] 23) = w5 → ∀ b w6, w5.heap.size < b → Bx w6 b #[.string s', .slice (some ⟨b + 1, 0, none⟩) 6 6, .map (some w5.heap.size), .int .u32 0, .int .i32 0, .int .u32 0, .pointer none] 77 → Bx w6 (b + 1) (sts b) 80 → w6.ownsMap Tryz.prog 9 (plainElem (H := Unit) Tryz.prog 48) w5.heap.size 25 (KW 25) → Below w5.heap.size w5 w6 → Calls Tryz.prog 13 #[.pointer (some ⟨b, 0, none⟩), .int .i64 (a0 : Int), .func (Fn.func 46) #[] #[.pointer (some ⟨w3.heap.size, 0, none⟩), .pointer (some ⟨w.heap.size, 0, none⟩), .pointer (some ⟨w3.heap.size + 1, 0, none⟩)]] w6  fun e w' => e = .returned (.tuple #[.slice none 0 0, .int .i64 0, .agg #[.int .i64 (y : Int), .int .i64 0, .int .i64 (z : Int)]]) ∧ Bx w' (w.heap.size + 1) #[.int .i64 0, .int .i64 0, .int .i64 0] 26 ∧ Below w.heap.size w w') := fun w3 g1 w5 g2 b w6 g3 g4 g5 g6 g7 => (HPP.out w3 g1 w5 g2 b w6 g3 g4 g5 g6 g7).mono fun e w' ⟨hp, hf⟩ => ⟨hp.2.2.2.2, hf, hp.1⟩
    clear h4 h5 HPP hCN hy1 hy2
    go_enter Tryz.func24, Tryz.ntmps24
    go_wp2_with (first
      | (go_at_call 45; (with_reducible refine HU.out.mono ?_); rintro e w3 ⟨v3, rfl, ho3, hb3⟩; have HB3 : Hid (Below w2.heap.size w2 w3) := hb3; have HO3 : Hid (w3.ownsRow w2.heap.size 50 3 v3 U.length (flat U)) := ho3; obtain ⟨X3, -, hw3, l3⟩ := HXE.out w3 hb3; have HW3 : Hid (∀ x y, Below w.heap.size w ((w3.alloc x).alloc y)) := fun x y => (hw3.alloc hw3.size x).alloc (by have := hw3.size; simp; omega) y; have x0 : w3.cell? ⟨w.heap.size, 0, none⟩ = some (.int .i64 (f : Int)) := X3.cell 0; have x1 : w3.cell? ⟨w.heap.size, 1, none⟩ = some (.int .i64 (t : Int)) := X3.cell 1; have x2 : w3.cell? ⟨w.heap.size, 2, none⟩ = some (.string n) := X3.cell 2; have x9 := X3.lt; clear ho3 hb3 X3 hw3)
      | (go_at_call 12; (with_reducible refine (HNS.out _ (HW3.out _ _)).mono ?_); rintro e w6 ⟨b, hbb, rfl, X6, Y6, hO6, hb6⟩; have HP6 := hidI (HPX.out w3 HB3.out _ rfl b w6 hbb X6 Y6 hO6 hb6); clear hbb X6 Y6 hO6 hb6)
      | (go_at_call 13; (with_reducible refine HP6.out.mono ?_); rintro e w7 ⟨rfl, hf7, hb7⟩; have HB7 : Hid (Below w.heap.size w w7) := hb7; have HF7 : Hid (Bx w7 (w.heap.size + 1) #[.int .i64 0, .int .i64 0, .int .i64 0] 26) := hf7; clear hb7 hf7))
    obtain ⟨w8, e8⟩ : ∃ w8, w7.alloc (.cells #[.int .i64 (y : Int), .int .i64 0, .int .i64 (z : Int)] 26) = w8 := ⟨_, rfl⟩
    have HB8 : Hid (Below w.heap.size w w8) := by unfold Hid; rw [← e8]; exact HB7.out.alloc HB7.out.size _
    have Y8 : Bx w8 w7.heap.size #[.int .i64 (y : Int), .int .i64 0, .int .i64 (z : Int)] 26 := by rw [← e8]; exact Bx.new _ _ _
    have F8 : Bx w8 (w.heap.size + 1) #[.int .i64 0, .int .i64 0, .int .i64 0] 26 := by rw [← e8]; exact HF7.out.alloc _
    have HF8 : Hid (Bx w8 (w.heap.size + 1) #[.int .i64 0, .int .i64 0, .int .i64 0] 26) := F8
    rw [e8]
    have z0 := F8.cell 0
    have z1 := F8.cell 1
    have z2 := F8.cell 2
    have f0 := F8.free 0
    have f1 := F8.free 1
    have f2 := F8.free 2
    have t0 := Y8.cell 0
    have t1 := Y8.cell 1
    have t2 := Y8.cell 2
    have l8 := F8.lt
    have m8 := Y8.lt
    simp at z0 z1 z2 t0 t1 t2
    clear F8 Y8 e8
    go_region
    all_goals
      go_wp2
      obtain ⟨r0, r1, r2⟩ := HF8.out.read3 (.int .i64 (y : Int)) (.int .i64 0) (.int .i64 (z : Int))
      refine bodyPost_ret (v := .tuple #[.slice none 0 0, .agg #[.int .i64 (y : Int), .int .i64 0, .int .i64 (z : Int)]]) (by simp [results, Tryz.results24, go_sem, r0, r1, r2]) rfl (HEND.out _ _ ((bel_put3 HB8.out (by omega)).drew) rfl)
  | none =>
    obtain ⟨en', rfl, hen, h6, h7⟩ := h5 rfl
    have HFL : Hid ((flat C).length = C.length * 3) := flat_length C
    have HOC : Hid (∀ u ∈ flat C, u.oneCell' = true) := flat_oneCell C
    by_cases hes : en = s'.size
    · subst hes
      have hcut := h6 rfl
      rw [hcut] at hn0
      simp only [List.length_append] at hn0
      have HEND : Hid (∀ v e w', Below w.heap.size w w' → e = .returned (.tuple #[v, .agg #[.int .i64 0, .int .i64 0, .int .i64 0]]) → w'.ownsRow w.heap.size 50 3 v (U ++ C).length (flat (U ++ C)) → AgE s' w e w') := fun v e w' hb he ho => by
        unfold AgE
        rw [hcut]
        exact ⟨hb, v, he, ho⟩
      have HPX : Hid (∀ w3, Below w2.heap.size w2 w3 → ∀ w5, (w3.alloc (.cells #[.int .i64 ((n.size : Int) - ((t : Int) - (f : Int)))] 3)).alloc (.cells #[.slice a old.length c] 23) = w5 → ∀ b w6, w5.heap.size < b → Bx w6 b #[.string s', .slice (some ⟨b + 1, 0, none⟩) 6 6, .map (some w5.heap.size), .int .u32 0, .int .i32 0, .int .u32 0, .pointer none] 77 → Bx w6 (b + 1) (sts b) 80 → w6.ownsMap Tryz.prog 9 (plainElem (H := Unit) Tryz.prog 48) w5.heap.size 25 (KW 25) → Below w5.heap.size w5 w6 → Calls Tryz.prog 13 #[.pointer (some ⟨b, 0, none⟩), .int .i64 (a0 : Int), .func (Fn.func 46) #[] #[.pointer (some ⟨w3.heap.size, 0, none⟩), .pointer (some ⟨w.heap.size, 0, none⟩), .pointer (some ⟨w3.heap.size + 1, 0, none⟩)]] w6  fun e w' => ∃ a7 c7, e = .returned (.tuple #[.slice a7 C.length c7, .int .i64 (s'.size : Int), .agg #[.int .i64 0, .int .i64 0, .int .i64 0]]) ∧ LiesA w' a7 C ∧ (a7 = none → C.length = 0 ∧ c7 = 0) ∧ (∀ k, k < w3.heap.size → w'.heap[k]? = w3.heap[k]?) ∧ Bx w' (w.heap.size + 1) #[.int .i64 0, .int .i64 0, .int .i64 0] 26 ∧ Below w.heap.size w w') := fun w3 g1 w5 g2 b w6 g3 g4 g5 g6 g7 => (HPP.out w3 g1 w5 g2 b w6 g3 g4 g5 g6 g7).mono fun e w' ⟨hp, hf⟩ => by
          obtain ⟨p1, p2, p3, p4, a7, c7, p5, p6, p7⟩ := hp
          obtain ⟨a8, c8, e8, l8, -, n8⟩ := own_form p6
          cases e8
          exact ⟨a7, c7, p5, l8, n8, p2, hf, p1⟩

      clear h4 h5 h6 h7 HPP hcut
      go_enter Tryz.func24, Tryz.ntmps24
      go_wp2_with (first
        | (go_at_call 45; (with_reducible refine HU.out.mono ?_); rintro e w3 ⟨v3, rfl, ho3, hb3⟩; have HB3 : Hid (Below w2.heap.size w2 w3) := hb3; have HO3 : Hid (w3.ownsRow w2.heap.size 50 3 v3 U.length (flat U)) := ho3; obtain ⟨X3, -, hw3, l3⟩ := HXE.out w3 hb3; have HW3 : Hid (∀ x y, Below w.heap.size w ((w3.alloc x).alloc y)) := fun x y => (hw3.alloc hw3.size x).alloc (by have := hw3.size; simp; omega) y; have x0 : w3.cell? ⟨w.heap.size, 0, none⟩ = some (.int .i64 (f : Int)) := X3.cell 0; have x1 : w3.cell? ⟨w.heap.size, 1, none⟩ = some (.int .i64 (t : Int)) := X3.cell 1; have x2 : w3.cell? ⟨w.heap.size, 2, none⟩ = some (.string n) := X3.cell 2; have x9 := X3.lt; clear ho3 hb3 X3 hw3)
        | (go_at_call 12; (with_reducible refine (HNS.out _ (HW3.out _ _)).mono ?_); rintro e w6 ⟨b, hbb, rfl, X6, Y6, hO6, hb6⟩; have HP6 := hidI (HPX.out w3 HB3.out _ rfl b w6 hbb X6 Y6 hO6 hb6); clear hbb X6 Y6 hO6 hb6)
        | (go_at_call 13; (with_reducible refine HP6.out.mono ?_); rintro e w7 ⟨a7, c7, rfl, hl7, hn7, fr7, hf7, hb7⟩; have HB7 : Hid (Below w.heap.size w w7) := hb7; have HF7 : Hid (Bx w7 (w.heap.size + 1) #[.int .i64 0, .int .i64 0, .int .i64 0] 26) := hf7; have HO7 : Hid (w7.ownsRow w.heap.size 50 3 v3 U.length (flat U)) := HOW.out _ _ _ HO3.out fr7; have HL7 : Hid (LiesA w7 a7 C) := hl7; have HN7 : Hid (a7 = none → C.length = 0 ∧ c7 = 0) := hn7; clear hb7 hf7 hl7 hn7 fr7)
        | (at_builtin; (refine wpList_append_at _ rfl (.tmp 49) (.tmp 50) 23 rfl w.heap.size 50 i0 (.agg #[.int .u8 0, .int .i64 0, .int .i64 0]) 3 24 Tryz.underlying23 hi hz0 hz1 hz2 rfl (by decide) _ U.length (flat U) rfl (HO7.out.alloc _) a7 C.length c7 (flat C) rfl HFL.out HN7.out (liesA_cells (HL7.out.below ((Below.refl _ _).alloc (Nat.le_refl _) _))) HOC.out (by unfold maxLen; omega) (by omega) (by have := HB7.out.size; simp; omega) ?_); intro v9 w9 ho9 hg9 _; have HB9 : Hid (Below w.heap.size w w9) := (HB7.out.alloc HB7.out.size _).grown hg9 (by have := HB7.out.size; simp; omega) (fun j hj => (HO7.out.lt j hj).1); have HO9 : Hid (w9.ownsRow w.heap.size 50 3 v9 (U ++ C).length (flat (U ++ C))) := (by unfold Hid; rw [flat_append, List.length_append]; exact ho9); have F9 : Bx w9 (w.heap.size + 1) #[.int .i64 0, .int .i64 0, .int .i64 0] 26 := (HF7.out.alloc _).row (HO7.out.alloc _) hg9 (by decide); have HF9 : Hid (Bx w9 (w.heap.size + 1) #[.int .i64 0, .int .i64 0, .int .i64 0] 26) := F9; have z0 : w9.cell? ⟨w.heap.size + 1, 0, none⟩ = some (.int .i64 0) := F9.cell 0; have z1 : w9.cell? ⟨w.heap.size + 1, 1, none⟩ = some (.int .i64 0) := F9.cell 1; have z2 : w9.cell? ⟨w.heap.size + 1, 2, none⟩ = some (.int .i64 0) := F9.cell 2; have f0 := F9.free 0; have f1 := F9.free 1; have f2 := F9.free 2; have l9 := F9.lt; clear ho9 hg9 F9))
      obtain ⟨r0, r1, r2⟩ := HF9.out.read3 (.int .i64 0) (.int .i64 0) (.int .i64 0)
      refine bodyPost_ret (v := .tuple #[v9, .agg #[.int .i64 0, .int .i64 0, .int .i64 0]]) (by simp [results, Tryz.results24, go_sem, r0, r1, r2]) rfl (HEND.out v9 _ _ (bel_put3 HB9.out (by omega)) rfl (own_put3 HO9.out HF9.out (by decide)))
    · obtain ⟨-, hcut⟩ := h7 hes
      obtain ⟨rs, hrs⟩ : ∃ rs, drp ((en : Int) - ((n.size : Int) - ((t : Int) - (f : Int)))) old = rs := ⟨_, rfl⟩
      have hrs' : old.dropWhile (fun q => decide (q.f < (en : Int) - ((n.size : Int) - ((t : Int) - (f : Int))))) = rs := hrs
      rw [hrs'] at hcut
      have HRQ : Hid (∀ q ∈ rs, (0 ≤ q.t ∧ q.t ≤ 4294967296) ∧ (0 ≤ q.f ∧ q.f ≤ 4294967296)) := fun q hq => HQF.out q (by rw [← hrs'] at hq; exact (List.dropWhile_suffix _).subset hq)
      rw [hcut] at hn0
      simp only [List.length_append, List.length_map] at hn0
      have hmb1 : -4294967296 ≤ ((n.size : Int) - ((t : Int) - (f : Int))) := by omega
      have hmb2 : ((n.size : Int) - ((t : Int) - (f : Int))) ≤ 4294967296 := by omega
      have HEND : Hid (∀ v e w', Below w.heap.size w w' → e = .returned (.tuple #[v, .agg #[.int .i64 0, .int .i64 0, .int .i64 0]]) → w'.ownsRow w.heap.size 50 3 v (U ++ C ++ rs.map (mvZ ((n.size : Int) - ((t : Int) - (f : Int))))).length (flat (U ++ C ++ rs.map (mvZ ((n.size : Int) - ((t : Int) - (f : Int)))))) → AgE s' w e w') := fun v e w' hb he ho => by
        unfold AgE
        rw [hcut]
        exact ⟨hb, v, he, ho⟩
      have HPX : Hid (∀ w3, Below w2.heap.size w2 w3 → ∀ w5, (w3.alloc (.cells #[.int .i64 ((n.size : Int) - ((t : Int) - (f : Int)))] 3)).alloc (.cells #[.slice a old.length c] 23) = w5 → ∀ b w6, w5.heap.size < b → Bx w6 b #[.string s', .slice (some ⟨b + 1, 0, none⟩) 6 6, .map (some w5.heap.size), .int .u32 0, .int .i32 0, .int .u32 0, .pointer none] 77 → Bx w6 (b + 1) (sts b) 80 → w6.ownsMap Tryz.prog 9 (plainElem (H := Unit) Tryz.prog 48) w5.heap.size 25 (KW 25) → Below w5.heap.size w5 w6 → Calls Tryz.prog 13 #[.pointer (some ⟨b, 0, none⟩), .int .i64 (a0 : Int), .func (Fn.func 46) #[] #[.pointer (some ⟨w3.heap.size, 0, none⟩), .pointer (some ⟨w.heap.size, 0, none⟩), .pointer (some ⟨w3.heap.size + 1, 0, none⟩)]] w6  fun e w' => ∃ a7 c7, e = .returned (.tuple #[.slice a7 C.length c7, .int .i64 (en : Int), .agg #[.int .i64 0, .int .i64 0, .int .i64 0]]) ∧ LiesA w' a7 C ∧ (a7 = none → C.length = 0 ∧ c7 = 0) ∧ (∀ k, k < w3.heap.size → w'.heap[k]? = w3.heap[k]?) ∧ Bx w' (w.heap.size + 1) #[.int .i64 0, .int .i64 0, .int .i64 0] 26 ∧ Below w.heap.size w w' ∧ Bx w' w3.heap.size #[.int .i64 ((n.size : Int) - ((t : Int) - (f : Int)))] 3 ∧ Rst w (w3.heap.size + 1) rs w') := fun w3 g1 w5 g2 b w6 g3 g4 g5 g6 g7 => (HPP.out w3 g1 w5 g2 b w6 g3 g4 g5 g6 g7).mono fun e w' ⟨hp, hf⟩ => by
          obtain ⟨p1, p2, p3, p4, a7, c7, p5, p6, p7⟩ := hp
          obtain ⟨a8, c8, e8, l8, -, n8⟩ := own_form p6
          cases e8
          exact ⟨a7, c7, p5, l8, n8, p2, hf, p1, p4, by rcases p7 with p7 | p7; exact absurd p7 hes; rw [hrs] at p7; exact p7⟩

      have hne : ((en : Int) == (s'.size : Int)) = false := by rw [beq_eq_false_iff_ne]; omega
      clear h4 h5 h6 h7 HPP hcut hrs hrs' HQF hes
      go_enter Tryz.func24, Tryz.ntmps24
      go_wp2_with (first
        | (go_at_call 45; (with_reducible refine HU.out.mono ?_); rintro e w3 ⟨v3, rfl, ho3, hb3⟩; have HB3 : Hid (Below w2.heap.size w2 w3) := hb3; have HO3 : Hid (w3.ownsRow w2.heap.size 50 3 v3 U.length (flat U)) := ho3; obtain ⟨X3, -, hw3, l3⟩ := HXE.out w3 hb3; have HW3 : Hid (∀ x y, Below w.heap.size w ((w3.alloc x).alloc y)) := fun x y => (hw3.alloc hw3.size x).alloc (by have := hw3.size; simp; omega) y; have x0 : w3.cell? ⟨w.heap.size, 0, none⟩ = some (.int .i64 (f : Int)) := X3.cell 0; have x1 : w3.cell? ⟨w.heap.size, 1, none⟩ = some (.int .i64 (t : Int)) := X3.cell 1; have x2 : w3.cell? ⟨w.heap.size, 2, none⟩ = some (.string n) := X3.cell 2; have x9 := X3.lt; clear ho3 hb3 X3 hw3)
        | (go_at_call 12; (with_reducible refine (HNS.out _ (HW3.out _ _)).mono ?_); rintro e w6 ⟨b, hbb, rfl, X6, Y6, hO6, hb6⟩; have HP6 := hidI (HPX.out w3 HB3.out _ rfl b w6 hbb X6 Y6 hO6 hb6); clear hbb X6 Y6 hO6 hb6)
        | (go_at_call 13; (with_reducible refine HP6.out.mono ?_); rintro e w7 ⟨a7, c7, rfl, hl7, hn7, fr7, hf7, hb7, hm7, ar, cr, hr7, hlr, hcr⟩; have HB7 : Hid (Below w.heap.size w w7) := hb7; have HF7 : Hid (Bx w7 (w.heap.size + 1) #[.int .i64 0, .int .i64 0, .int .i64 0] 26) := hf7; have HM7 : Hid (Bx w7 w3.heap.size #[.int .i64 ((n.size : Int) - ((t : Int) - (f : Int)))] 3) := hm7; have HR7 : Hid (Bx w7 (w3.heap.size + 1) #[.slice ar rs.length cr] 23) := hr7; have HLR : Hid (LiesA w ar rs) := hlr; have HO7 : Hid (w7.ownsRow w.heap.size 50 3 v3 U.length (flat U)) := HOW.out _ _ _ HO3.out fr7; have HL7 : Hid (LiesA w7 a7 C) := hl7; have HN7 : Hid (a7 = none → C.length = 0 ∧ c7 = 0) := hn7; clear hb7 hf7 hl7 hn7 fr7 hm7 hr7 hlr)
        | (at_builtin; (refine wpList_append_at _ rfl (.tmp 49) (.tmp 50) 23 rfl w.heap.size 50 i0 (.agg #[.int .u8 0, .int .i64 0, .int .i64 0]) 3 24 Tryz.underlying23 hi hz0 hz1 hz2 rfl (by decide) _ U.length (flat U) rfl (HO7.out.alloc _) a7 C.length c7 (flat C) rfl HFL.out HN7.out (liesA_cells (HL7.out.below ((Below.refl _ _).alloc (Nat.le_refl _) _))) HOC.out (by unfold maxLen; omega) (by omega) (by have := HB7.out.size; simp; omega) ?_); intro v9 w9 ho9 hg9 _; have HB9 : Hid (Below w.heap.size w w9) := (HB7.out.alloc HB7.out.size _).grown hg9 (by have := HB7.out.size; simp; omega) (fun j hj => (HO7.out.lt j hj).1); have HO9 : Hid (w9.ownsRow w.heap.size 50 3 v9 (U ++ C).length (flat (U ++ C))) := (by unfold Hid; rw [flat_append, List.length_append]; exact ho9); have HF9 : Hid (Bx w9 (w.heap.size + 1) #[.int .i64 0, .int .i64 0, .int .i64 0] 26) := (HF7.out.alloc _).row (HO7.out.alloc _) hg9 (by decide); have HM9 : Hid (Bx w9 w3.heap.size #[.int .i64 ((n.size : Int) - ((t : Int) - (f : Int)))] 3) := (HM7.out.alloc _).row (HO7.out.alloc _) hg9 (by decide); have R9 : Bx w9 (w3.heap.size + 1) #[.slice ar rs.length cr] 23 := (HR7.out.alloc _).row (HO7.out.alloc _) hg9 (by decide); have q0 : w9.cell? ⟨w3.heap.size + 1, 0, none⟩ = some (.slice ar rs.length cr) := R9.cell 0; have q9 := R9.lt; clear ho9 hg9 R9))
      go_loopw [8, 60] (fun so si wr => ∃ (i : Nat), i ≤ rs.length ∧ si = .int .i64 (i : Int) ∧ wr.ownsRow w.heap.size 50 3 so (U ++ C ++ (rs.take i).map (mvZ ((n.size : Int) - ((t : Int) - (f : Int))))).length (flat (U ++ C ++ (rs.take i).map (mvZ ((n.size : Int) - ((t : Int) - (f : Int)))))) ∧ Bx wr w3.heap.size #[.int .i64 ((n.size : Int) - ((t : Int) - (f : Int)))] 3 ∧ Bx wr (w.heap.size + 1) #[.int .i64 0, .int .i64 0, .int .i64 0] 26 ∧ Below w.heap.size w wr) (fun _ si _ => rs.length - (intOf si).toNat)
      case atStart => exact ⟨0, Nat.zero_le _, rfl, by simpa using HO9.out, HM9.out, HF9.out, HB9.out⟩
      case round =>
        obtain ⟨i, hil, rfl, hown, hmr, hfr, hbel⟩ := hrel
        have HO : Hid (wr.ownsRow w.heap.size 50 3 u8 (U ++ C ++ (rs.take i).map (mvZ ((n.size : Int) - ((t : Int) - (f : Int))))).length (flat (U ++ C ++ (rs.take i).map (mvZ ((n.size : Int) - ((t : Int) - (f : Int))))))) := hown
        have HMR : Hid (Bx wr w3.heap.size #[.int .i64 ((n.size : Int) - ((t : Int) - (f : Int)))] 3) := hmr
        have HFR : Hid (Bx wr (w.heap.size + 1) #[.int .i64 0, .int .i64 0, .int .i64 0] 26) := hfr
        have HB : Hid (Below w.heap.size w wr) := hbel
        clear hown hbel q0 q9
        by_cases hlt : i < rs.length
        · have hlt' : (i : Int) < (rs.length : Int) := by omega
          obtain ⟨⟨k, f1, t1⟩, hqi⟩ : ∃ q, rs[i]? = some q := ⟨_, List.getElem?_eq_getElem hlt⟩
          obtain ⟨g, o, rfl, hlg⟩ : ∃ g o, ar = some ⟨g, o, none⟩ ∧ Lies w g o rs := by
            rcases HLR.out with h | ⟨g, o, h1, h2⟩
            · rw [h] at hlt; simp at hlt
            · exact ⟨g, o, h1, h2⟩
          have hgr : g < wr.heap.size := by have := HB.out.size; have := hlg.1; omega
          obtain ⟨c0, c1, c2⟩ := hlg.tk HB.out hqi
          obtain ⟨⟨g1, g2⟩, g3, g4⟩ := HRQ.out _ (List.mem_of_getElem? hqi)
          simp only at c0 c1 c2 g1 g2 g3 g4
          have m0 : wr.cell? ⟨w3.heap.size, 0, none⟩ = some (.int .i64 ((n.size : Int) - ((t : Int) - (f : Int)))) := hmr.cell 0
          have m9 := hmr.lt
          have hst : U ++ C ++ (rs.take (i + 1)).map (mvZ ((n.size : Int) - ((t : Int) - (f : Int)))) = (U ++ C ++ (rs.take i).map (mvZ ((n.size : Int) - ((t : Int) - (f : Int))))) ++ [mvZ ((n.size : Int) - ((t : Int) - (f : Int))) (⟨k, f1, t1⟩ : Tk)] := by
            rw [List.take_add_one, hqi, List.map_append]; simp
          have HST : Hid (U ++ C ++ (rs.take (i + 1)).map (mvZ ((n.size : Int) - ((t : Int) - (f : Int)))) = (U ++ C ++ (rs.take i).map (mvZ ((n.size : Int) - ((t : Int) - (f : Int))))) ++ [mvZ ((n.size : Int) - ((t : Int) - (f : Int))) (⟨k, f1, t1⟩ : Tk)]) := hst
          have hal : (U ++ C ++ (rs.take i).map (mvZ ((n.size : Int) - ((t : Int) - (f : Int))))).length ≤ 4294967280 := by simp only [List.length_append, List.length_map, List.length_take]; omega
          obtain ⟨acc, hacc⟩ : ∃ acc, U ++ C ++ (rs.take i).map (mvZ ((n.size : Int) - ((t : Int) - (f : Int)))) = acc := ⟨_, rfl⟩
          rw [hacc] at HO HST hal
          clear hacc
          clear hlg hst hmr hfr
          go_wp2_with (at_builtin; (refine wpList_append_at _ rfl (.tmp 64) (.tmp 76) 23 rfl w.heap.size 50 i0 (.agg #[.int .u8 0, .int .i64 0, .int .i64 0]) 3 24 Tryz.underlying23 hi hz0 hz1 hz2 rfl (by decide) _ acc.length (flat acc) rfl ((HO.out.alloc _).alloc _) (some ⟨_, 0, none⟩) 1 1 [.int .u8 k, .int .i64 (f1 + ((n.size : Int) - ((t : Int) - (f : Int)))), .int .i64 (t1 + ((n.size : Int) - ((t : Int) - (f : Int))))] rfl rfl (fun h => by cases h) (fun ad had => by cases had; exact cells_new2 _ _ _ _) (fun u hu => by simp at hu; rcases hu with rfl | rfl | rfl <;> rfl) (by unfold maxLen; omega) (by omega) (by have := HB.out.size; simp; omega) ?_); intro v8 w8 ho8 hg8 _; have HO8 : Hid (w8.ownsRow w.heap.size 50 3 v8 (acc ++ [mvZ ((n.size : Int) - ((t : Int) - (f : Int))) (⟨k, f1, t1⟩ : Tk)]).length (flat (acc ++ [mvZ ((n.size : Int) - ((t : Int) - (f : Int))) (⟨k, f1, t1⟩ : Tk)]))) := (by unfold Hid; rw [flat_mv, List.length_append]; exact ho8); have HB8 : Hid (Below w.heap.size w w8) := ((HB.out.alloc HB.out.size _).alloc (by have := HB.out.size; simp; omega) _).grown hg8 (by have := HB.out.size; simp; omega) (fun j hj => (HO.out.lt j hj).1); have HM8 : Hid (Bx w8 w3.heap.size #[.int .i64 ((n.size : Int) - ((t : Int) - (f : Int)))] 3) := ((HMR.out.alloc _).alloc _).row ((HO.out.alloc _).alloc _) hg8 (by decide); have HF8 : Hid (Bx w8 (w.heap.size + 1) #[.int .i64 0, .int .i64 0, .int .i64 0] 26) := ((HFR.out.alloc _).alloc _).row ((HO.out.alloc _).alloc _) hg8 (by decide); clear ho8 hg8)
          exact ⟨⟨i + 1, by omega, by go_num, by rw [HST.out]; exact HO8.out, HM8.out, HF8.out, HB8.out⟩, by simp [intOf]; omega⟩
        · have hge : ¬ (i : Int) < (rs.length : Int) := by omega
          have hir : rs.take i = rs := List.take_of_length_le (by omega)
          rw [hir] at HO
          have z0 : wr.cell? ⟨w.heap.size + 1, 0, none⟩ = some (.int .i64 0) := hfr.cell 0
          have z1 : wr.cell? ⟨w.heap.size + 1, 1, none⟩ = some (.int .i64 0) := hfr.cell 1
          have z2 : wr.cell? ⟨w.heap.size + 1, 2, none⟩ = some (.int .i64 0) := hfr.cell 2
          have f0 := hfr.free 0
          have f1 := hfr.free 1
          have f2 := hfr.free 2
          have l9 := hfr.lt
          obtain ⟨r0, r1, r2⟩ := hfr.read3 (.int .i64 0) (.int .i64 0) (.int .i64 0)
          clear hmr hfr hir
          go_wp2
          refine bodyPost_ret (v := .tuple #[u8, .agg #[.int .i64 0, .int .i64 0, .int .i64 0]]) (by simp [results, Tryz.results24, go_sem, r0, r1, r2]) rfl (HEND.out u8 _ _ (bel_put3 HB.out (by omega)) rfl (own_put3 HO.out HFR.out (by decide)))
end Go.Proofs.YtmnbakalcpanlaaGreatDoor
