import Derived.Test.YtphejjghgalkpaaDoorMd2
import Derived.Test.YtphejjghgalkpaaDoorRs3
import Derived.Test.YtphejjghgalkpaaDoorFirstB
import Derived.Test.YtphejjghgalkpaaDoorSmT
namespace Go.Proofs.YtphejjghgalkpaaDoor
open Go.ChangeShapes Go.WideShapes Go.ChangeAt Go.RowKit Go.Maps Go.WideMaps
set_option linter.unusedVariables false
set_option linter.unusedSimpArgs false

theorem hidM {p : Prop} (h : p) : Hid p := h
def tab13 : List Nat := [2, 3, 4, 5, 7, 11, 15, 26, 57, 58, 71, 73, 75]
theorem tab13_ask (k : Nat) : ask k = decide (k ∈ tab13) := rfl
set_option maxRecDepth 1000000 in
set_option maxHeartbeats 8000000 in
theorem asking_any (k : Nat) (hk : k < 256) (w : World) :
    Calls Tryd.prog 10 #[.int .u8 (k : Int)] w fun e w' => e = .returned (.bool (ask k)) ∧ Below w.heap.size w w' := by
  obtain ⟨w2, e2, hb2, hs2, B2⟩ := bx1 w #[.int .u8 2, .int .u8 3, .int .u8 4, .int .u8 5, .int .u8 7, .int .u8 11, .int .u8 15, .int .u8 26, .int .u8 57, .int .u8 58, .int .u8 71, .int .u8 73, .int .u8 75] 37
  have HB2 : Hid (Below w.heap.size w w2) := hb2
  have HC : Hid (∀ (i v : Nat), tab13[i]? = some v → w2.cell? ⟨w.heap.size, i, none⟩ = some (.int .u8 (v : Int))) := fun i v h => by
    rw [B2.cell i]
    match i, h with
    | 0, h => cases h; rfl
    | 1, h => cases h; rfl
    | 2, h => cases h; rfl
    | 3, h => cases h; rfl
    | 4, h => cases h; rfl
    | 5, h => cases h; rfl
    | 6, h => cases h; rfl
    | 7, h => cases h; rfl
    | 8, h => cases h; rfl
    | 9, h => cases h; rfl
    | 10, h => cases h; rfl
    | 11, h => cases h; rfl
    | 12, h => cases h; rfl
    | n + 13, h => cases h
  have kz := B2.lt
  obtain ⟨z, hz⟩ : ∃ z, ask k = z := ⟨_, rfl⟩
  have HZ : Hid (decide (k ∈ tab13) = z) := hz
  rw [hz]
  clear hb2 hs2 B2 hz
  go_enter Tryd.func10, Tryd.ntmps10
  go_wp2
  go_loopw [7] (fun si wr => ∃ i : Nat, i ≤ 13 ∧ si = .int .i64 (i : Int) ∧ (∀ (j v : Nat), j < i → tab13[j]? = some v → v ≠ k) ∧ wr = w2) (fun si _ => 13 - (intOf si).toNat)
  case atStart => exact ⟨0, by omega, rfl, fun j v h => by omega, rfl⟩
  case round =>
    obtain ⟨i, hi, rfl, hno, rfl⟩ := hrel
    have HN : Hid (∀ (j v : Nat), j < i → tab13[j]? = some v → v ≠ k) := hno
    clear hno
    by_cases hlt : i < 13
    · have hlt' : (i : Int) < 13 := by omega
      obtain ⟨v, hv⟩ : ∃ v, tab13[i]? = some v := ⟨_, List.getElem?_eq_getElem (by simpa [tab13] using hlt)⟩
      have hc := HC.out i v hv
      by_cases hvk : v = k
      · have hE : ((v : Int) == (k : Int)) = true := by rw [beq_iff_eq]; omega
        have hzt : Hid (z = true) := by unfold Hid; rw [← HZ.out]; rw [decide_eq_true_iff, ← hvk]; exact List.mem_of_getElem? hv
        clear hv
        go_wp2
        go_ret
        exact ⟨by rw [hzt.out]; rfl, HB2.out⟩
      · have hE : ((v : Int) == (k : Int)) = false := by rw [beq_eq_false_iff_ne]; omega
        have HN2 : Hid (∀ (j u : Nat), j < i + 1 → tab13[j]? = some u → u ≠ k) := fun j u hj hu => by
          by_cases hji : j = i
          · subst hji; rw [hv] at hu; cases hu; exact hvk
          · exact HN.out j u (by omega) hu
        clear hv
        go_wp2
        exact ⟨⟨i + 1, by omega, by go_num, HN2.out, by first | rfl | trivial⟩, by simp [intOf]; omega⟩
    · have hge : ¬ (i : Int) < 13 := by omega
      have hzf : Hid (z = false) := by
        unfold Hid
        rw [← HZ.out, decide_eq_false_iff_not]
        intro hm
        obtain ⟨j, hj⟩ := List.getElem?_of_mem hm
        have hjl := (List.getElem?_eq_some_iff.1 hj).1
        exact HN.out j k (by simp [tab13] at hjl; omega) hj rfl
      go_wp2
      go_ret
      exact ⟨by rw [hzf.out]; rfl, HB2.out⟩
theorem Bx.rowM {v v' : World} {k B n : Nat} {us : Array Value} {t : TypeId} {so : Value} {xs : List Value} (Y : Bx v k us t) (ho : v.ownsRow B 41 3 so n xs) (hg : v.grownBy v' so.ownBlock) (hne : 41 ≠ t) : Bx v' k us t := by
  refine (hg.block k Y.lt (fun e => ?_)).trans Y
  obtain ⟨c, fz, hh⟩ := row_kindR ho k e.symm
  have hY : v.heap[k]? = some (Obj.cells us t (0, 0)) := Y
  rw [hh] at hY
  cases hY
  exact hne rfl
def fl2 (xs : List Tk) : List Tk := xs.filter (fun q => decide (1 < q.k))
theorem fl2_step {xs : List Tk} {i : Nat} {q : Tk} (h : xs[i]? = some q) : fl2 (xs.drop i) = (if 1 < q.k then [q] else []) ++ fl2 (xs.drop (i + 1)) := by
  have hi := (List.getElem?_eq_some_iff.1 h).1
  have e := (List.getElem?_eq_some_iff.1 h).2
  rw [List.drop_eq_getElem_cons hi, e]
  unfold fl2
  by_cases h6 : 1 < q.k
  · rw [List.filter_cons_of_pos (by simpa using h6), if_pos h6]; rfl
  · rw [List.filter_cons_of_neg (by simpa using h6), if_neg h6]; rfl
theorem own_liesM {w : World} {B : Nat} {v : Value} {L : List Tk} (h : w.ownsRow B 41 3 v L.length (flat L)) : ∃ a c, v = .slice a L.length c ∧ LiesA w a L := by
  obtain ⟨a, c, e, h1, -, -⟩ := own_form h
  exact ⟨a, c, e, h1⟩
/-- a piece as it came in -/
structure Pz where
  a : Int
  b : Int
instance : Rw Pz := ⟨2, fun e => [.int .i64 e.a, .int .i64 e.b], fun _ => rfl, fun e u h => by simp at h; rcases h with rfl | rfl <;> rfl, by decide⟩
theorem Lies.pz {w : World} {b o : Nat} {xs : List Pz} (h : Lies w b o xs) {w' : World} (hb : Below w.heap.size w w') {i : Nat} {e : Pz} (he : xs[i]? = some e) :
    w'.cell? ⟨b, o + i * 2, none⟩ = some (.int .i64 e.a) ∧ w'.cell? ⟨b, o + i * 2 + 1, none⟩ = some (.int .i64 e.b) := by
  have h' := h.below hb h.1
  exact ⟨h'.get he 0 _ rfl, h'.get he 1 _ rfl⟩
def itZ (p : Pz) : It := ⟨wrd (wdi p.a), wkd (wdi p.a), gpi p.b⟩
theorem itZ_ok (p : Pz) : (itZ p).ok := wrd_ok _ _ (wdi_eq p.a).2
theorem sq_app (a b : List UInt8) : sq a ++ sq b = sq (a ++ b) := by ext1; simp [sq]
theorem wrd_len : ∀ n, n < 90 → (wrd n).length ≤ 12 := by decide
theorem gpb_len : ∀ g, g < 6 → (gpb g).length ≤ 9 := by decide
theorem map_drop {α β : Type} (f : α → β) {l : List α} {i : Nat} {p : α} (h : l[i]? = some p) : (l.map f).drop i = f p :: (l.map f).drop (i + 1) := by
  have hi := (List.getElem?_eq_some_iff.1 h).1
  rw [List.drop_eq_getElem_cons (by simpa using hi)]
  simp [(List.getElem?_eq_some_iff.1 h).2]
/-- what was put together so far, and what is still to come -/
structure Mdi (ps : List Pz) (i : Nat) (tx : List UInt8) (acc : List Tk) : Prop where
  txE : byC (chs (ps.map itZ)) = tx ++ byC (chs ((ps.map itZ).drop i))
  accE : wnt 0 (ps.map itZ) = acc ++ wnt tx.length ((ps.map itZ).drop i)
  len : tx.length ≤ 24 * i
  cnt : acc.length ≤ 2 * i
theorem Mdi.step {ps : List Pz} {i : Nat} {tx : List UInt8} {acc : List Tk} {p : Pz} (h : Mdi ps i tx acc) (hp : ps[i]? = some p) (q : Bool) (hq : ((gln (gpi p.b) || decide (ps.length = i + 1)) && ask (wkd (wdi p.a))) = q) :
    Mdi ps (i + 1) (tx ++ wrd (wdi p.a) ++ gpb (gpi p.b)) ((acc ++ [(⟨(wkd (wdi p.a) : Nat), (tx.length : Nat), (tx.length + (wrd (wdi p.a)).length : Nat)⟩ : Tk)]) ++ (if q then [(⟨6, (tx.length + (wrd (wdi p.a)).length : Nat), (tx.length + (wrd (wdi p.a)).length : Nat)⟩ : Tk)] else [])) := by
  have hd := map_drop itZ hp
  have hi := (List.getElem?_eq_some_iff.1 hp).1
  have he : ((ps.map itZ).drop (i + 1)).isEmpty = decide (ps.length = i + 1) := by
    by_cases h1 : ps.length = i + 1
    · rw [decide_eq_true h1, List.drop_of_length_le (by simp; omega)]; rfl
    · rw [decide_eq_false h1]
      cases hx : (ps.map itZ).drop (i + 1) with
      | nil => have := congrArg List.length hx; simp at this; omega
      | cons a b => rfl
  have l1 := wrd_len _ (wdi_eq p.a).2
  have l2 := gpb_len _ (gpi_eq p.b).2
  refine ⟨?_, ?_, ?_, ?_⟩
  · rw [h.txE, hd]; simp [chs, byC, byC_app, itZ, gpb]
  · have hq' : ((gln (itZ p).g || decide (ps.length = i + 1)) && ask (itZ p).k) = q := hq
    rw [h.accE, hd, wnt, he, hq']
    simp [gpb, itZ, Nat.add_assoc]
  · have := h.len
    simp only [List.length_append]
    omega
  · have := h.cnt
    simp only [List.length_append, List.length_cons, List.length_nil]
    split <;> simp <;> omega
set_option maxRecDepth 1000000 in
set_option maxHeartbeats 16000000 in
theorem lexerMade_walk (a0 : Option Addr) (c0 : Nat) (ps : List Pz) (hB : ps.length ≤ 1048576) (w : World) (hl : LiesA w a0 ps) (hS : Spl w) (hT : Lt w) (hM : MaxL w) :
    Calls Tryd.prog 4 #[.slice a0 ps.length c0] w fun e w' => e = .returned (.bool true) ∧ Below w.heap.size w w' := by
  obtain ⟨i0, hi, hz0, hz1, hz2⟩ := info_parts infoTkR
  have HL : Hid (LiesA w a0 ps) := hl
  have HSC : Hid (∀ v T, (T : ByteArray).size ≤ 4294967280 → (cut T 0).2 = none → Below w.heap.size w v → Calls Tryd.prog 5 #[.string T] v fun e w' => ∃ a c, e = .returned (.tuple #[.slice a (wau T (cut T 0).1).length c, .agg #[.int .i64 0, .int .i64 0, .int .i64 0]]) ∧ LiesA w' a (wau T (cut T 0).1) ∧ (wau T (cut T 0).1).length ≤ c ∧ (a = none → c = 0) ∧ Below v.heap.size v w') := fun v T h1 h2 hv => scan_ok h1 h2 v (hS.below hv) (hT.below hv) (hM.below hv)
  clear hl hS hT hM
  go_enter Tryd.func4, Tryd.ntmps4
  go_wp2
  go_loopw [3, 4, 18] (fun st sw si wr => ∃ (i : Nat) (tx : List UInt8) (acc : List Tk), i ≤ ps.length ∧ si = .int .i64 (i : Int) ∧ st = .string (sq tx) ∧ Mdi ps i tx acc ∧ wr.ownsRow w.heap.size 41 3 sw acc.length (flat acc) ∧ Below w.heap.size w wr) (fun _ _ si _ => ps.length - (intOf si).toNat)
  case atStart => exact ⟨0, [], [], Nat.zero_le _, rfl, rfl, ⟨by simp, by simp, by simp, by simp⟩, World.ownsRow_nil _ _ _ _, Below.refl _ _⟩
  case round =>
    obtain ⟨i, tx, acc, hil, rfl, rfl, hmd, hown, hbel⟩ := hrel
    have HMD : Hid (Mdi ps i tx acc) := hmd
    have HO : Hid (wr.ownsRow w.heap.size 41 3 u4 acc.length (flat acc)) := hown
    have HB : Hid (Below w.heap.size w wr) := hbel
    clear hmd hown hbel
    by_cases hlt : i < ps.length
    · have hlt' : (i : Int) < (ps.length : Int) := by omega
      obtain ⟨⟨pa, pb⟩, hpi⟩ : ∃ p, ps[i]? = some p := ⟨_, List.getElem?_eq_getElem hlt⟩
      obtain ⟨g, o, rfl, hlg⟩ : ∃ g o, a0 = some ⟨g, o, none⟩ ∧ Lies w g o ps := by
        rcases HL.out with h | ⟨g, o, h1, h2⟩
        · rw [h] at hlt; simp at hlt
        · exact ⟨g, o, h1, h2⟩
      have hgr : g < wr.heap.size := by have := HB.out.size; have := hlg.1; omega
      obtain ⟨c1, c2⟩ := hlg.pz HB.out hpi
      simp only at c1 c2
      have hstep := fun q hq => HMD.out.step hpi q hq
      simp only at hstep
      have hsp := spelt_any pa pb
      have hgp := gap_any pa pb
      have l1 := wrd_len _ (wdi_eq pa).2
      have l2 := gpb_len _ (gpi_eq pb).2
      have hk80 := (itZ_ok ⟨pa, pb⟩).hi
      simp only [itZ] at hk80
      generalize wrd (wdi pa) = W at hstep hsp l1
      generalize wkd (wdi pa) = K at hstep hsp hk80
      generalize gpb (gpi pb) = G at hstep hgp l2
      generalize gln (gpi pb) = Ln at hstep hgp
      have hask := asking_any K (by omega)
      have HSP := hidM hsp
      have HGP := hidM hgp
      have htl := HMD.out.len
      have hcn := HMD.out.cnt
      obtain ⟨X, hX⟩ : ∃ X, sq tx = X := ⟨_, rfl⟩
      obtain ⟨Wb, hW⟩ : ∃ X, sq W = X := ⟨_, rfl⟩
      obtain ⟨Gb, hG⟩ : ∃ X, sq G = X := ⟨_, rfl⟩
      obtain ⟨X1, hX1⟩ : ∃ X, sq (tx ++ W) = X := ⟨_, rfl⟩
      obtain ⟨X2, hX2⟩ : ∃ X, sq (tx ++ W ++ G) = X := ⟨_, rfl⟩
      have xs0 : X.size = tx.length := by rw [← hX, sq_size]
      have xsW : Wb.size = W.length := by rw [← hW, sq_size]
      have xsG : Gb.size = G.length := by rw [← hG, sq_size]
      have xs1 : X1.size = tx.length + W.length := by rw [← hX1, sq_size]; simp
      have hc1 : X ++ Wb = X1 := by rw [← hX, ← hW, sq_app, hX1]
      have hc2 : X1 ++ Gb = X2 := by rw [← hX1, ← hG, sq_app, hX2]
      rw [hX]
      rw [hW] at HSP
      rw [hG] at HGP
      have HX2 : Hid (sq (tx ++ W ++ G) = X2) := hX2
      have zc1 : ¬ (9223372036854775807 < tx.length + W.length) := by omega
      have zc2 : ¬ (9223372036854775807 < tx.length + W.length + G.length) := by omega
      clear hsp hgp hX hW hG hX1 hX2 hlg
      obtain ⟨r1, er1⟩ : ∃ r1, wr.alloc (.cells #[.int .i64 pa, .int .i64 pb] 36) = r1 := ⟨_, rfl⟩
      have HO1 : Hid (r1.ownsRow w.heap.size 41 3 u4 acc.length (flat acc)) := by unfold Hid; rw [← er1]; exact HO.out.alloc _
      have HB1 : Hid (Below w.heap.size w r1) := by unfold Hid; rw [← er1]; exact HB.out.alloc HB.out.size _
      have HX1 : Hid (Bx r1 wr.heap.size #[.int .i64 pa, .int .i64 pb] 36) := by unfold Hid; rw [← er1]; exact Bx.new _ _ _
      have x0 : r1.cell? ⟨wr.heap.size, 0, none⟩ = some (.int .i64 pa) := HX1.out.cell 0
      have x1 : r1.cell? ⟨wr.heap.size, 1, none⟩ = some (.int .i64 pb) := HX1.out.cell 1
      have x9 := HX1.out.lt
      cases Ln with
      | true =>
        cases hA : ask K with
        | false =>
          rw [hA] at hask hstep
          have HST := hidM (hstep false (by simp))
          have HAS := hidM hask
          clear hask hstep hA
          go_wp2_with (first
            | (go_at_call 8; (with_reducible refine (HSP.out _).mono ?_); rintro e w3 ⟨rfl, hb3⟩; have HO3 : Hid (w3.ownsRow w.heap.size 41 3 u4 acc.length (flat acc)) := ownsRow_below HO1.out hb3 (Nat.le_refl _); have HB3 : Hid (Below w.heap.size w w3) := HB1.out.trans (hb3.mono HB1.out.size); have HX3 : Hid (Bx w3 wr.heap.size #[.int .i64 pa, .int .i64 pb] 36) := HX1.out.below hb3 HX1.out.lt; clear hb3)
            | (at_builtin; (refine wpList_append_at _ rfl (.tmp 28) (.tmp 38) 24 rfl w.heap.size 41 i0 (.agg #[.int .u8 0, .int .i64 0, .int .i64 0]) 3 24 Tryd.underlying24 hi hz0 hz1 hz2 rfl (by decide) _ acc.length (flat acc) rfl (HO3.out.alloc _) (some ⟨_, 0, none⟩) 1 1 [.int .u8 (K : Int), .int .i64 (tx.length : Int), .int .i64 ((tx.length : Int) + (W.length : Int))] rfl rfl (fun h => by cases h) (fun ad had => by cases had; exact cells_new _ _ _) (fun u hu => by simp at hu; rcases hu with rfl | rfl | rfl <;> rfl) (by unfold maxLen; omega) (by omega) (by have := HB3.out.size; simp; omega) ?_); intro v9 w9 ho9 hg9 _; have HO9 : Hid (w9.ownsRow w.heap.size 41 3 v9 (acc ++ [(⟨(K : Nat), (tx.length : Nat), (tx.length + W.length : Nat)⟩ : Tk)]).length (flat (acc ++ [(⟨(K : Nat), (tx.length : Nat), (tx.length + W.length : Nat)⟩ : Tk)]))) := (by unfold Hid; rw [flat_one, List.length_append, Int.natCast_add]; exact ho9); have HB9 : Hid (Below w.heap.size w w9) := (HB3.out.alloc HB3.out.size _).grown hg9 (by have := HB3.out.size; simp; omega) (fun j hj => (HO3.out.lt j hj).1); have Y9 : Bx w9 wr.heap.size #[.int .i64 pa, .int .i64 pb] 36 := (HX3.out.alloc _).rowM (HO3.out.alloc _) hg9 (by decide); have y0 : w9.cell? ⟨wr.heap.size, 0, none⟩ = some (.int .i64 pa) := Y9.cell 0; have y1 : w9.cell? ⟨wr.heap.size, 1, none⟩ = some (.int .i64 pb) := Y9.cell 1; have y9 := Y9.lt; clear ho9 hg9 Y9)
            | (go_at_call 9; (with_reducible refine (HGP.out _).mono ?_); rintro e w10 ⟨rfl, hb10⟩; have HO10 : Hid (w10.ownsRow w.heap.size 41 3 v9 (acc ++ [(⟨(K : Nat), (tx.length : Nat), (tx.length + W.length : Nat)⟩ : Tk)]).length (flat (acc ++ [(⟨(K : Nat), (tx.length : Nat), (tx.length + W.length : Nat)⟩ : Tk)]))) := ownsRow_below HO9.out hb10 (Nat.le_refl _); have HB10 : Hid (Below w.heap.size w w10) := HB9.out.trans (hb10.mono HB9.out.size); clear hb10)
            | (go_at_call 10; (with_reducible refine (HAS.out _).mono ?_); rintro e w11 ⟨rfl, hb11⟩; have HO11 : Hid (w11.ownsRow w.heap.size 41 3 v9 (acc ++ [(⟨(K : Nat), (tx.length : Nat), (tx.length + W.length : Nat)⟩ : Tk)]).length (flat (acc ++ [(⟨(K : Nat), (tx.length : Nat), (tx.length + W.length : Nat)⟩ : Tk)]))) := ownsRow_below HO10.out hb11 (Nat.le_refl _); have HB11 : Hid (Below w.heap.size w w11) := HB10.out.trans (hb11.mono HB10.out.size); clear hb11))
          exact ⟨⟨i + 1, tx ++ W ++ G, _, by omega, by go_num, by rw [HX2.out], HST.out, by simpa using HO11.out, HB11.out⟩, by simp [intOf]; omega⟩
        | true =>
          rw [hA] at hask hstep
          have HST := hidM (hstep true (by simp))
          have HAS := hidM hask
          clear hask hstep hA
          go_wp2_with (first
            | (go_at_call 8; (with_reducible refine (HSP.out _).mono ?_); rintro e w3 ⟨rfl, hb3⟩; have HO3 : Hid (w3.ownsRow w.heap.size 41 3 u4 acc.length (flat acc)) := ownsRow_below HO1.out hb3 (Nat.le_refl _); have HB3 : Hid (Below w.heap.size w w3) := HB1.out.trans (hb3.mono HB1.out.size); have HX3 : Hid (Bx w3 wr.heap.size #[.int .i64 pa, .int .i64 pb] 36) := HX1.out.below hb3 HX1.out.lt; clear hb3)
            | (at_builtin; (refine wpList_append_at _ rfl (.tmp 28) (.tmp 38) 24 rfl w.heap.size 41 i0 (.agg #[.int .u8 0, .int .i64 0, .int .i64 0]) 3 24 Tryd.underlying24 hi hz0 hz1 hz2 rfl (by decide) _ acc.length (flat acc) rfl (HO3.out.alloc _) (some ⟨_, 0, none⟩) 1 1 [.int .u8 (K : Int), .int .i64 (tx.length : Int), .int .i64 ((tx.length : Int) + (W.length : Int))] rfl rfl (fun h => by cases h) (fun ad had => by cases had; exact cells_new _ _ _) (fun u hu => by simp at hu; rcases hu with rfl | rfl | rfl <;> rfl) (by unfold maxLen; omega) (by omega) (by have := HB3.out.size; simp; omega) ?_); intro v9 w9 ho9 hg9 _; have HO9 : Hid (w9.ownsRow w.heap.size 41 3 v9 (acc ++ [(⟨(K : Nat), (tx.length : Nat), (tx.length + W.length : Nat)⟩ : Tk)]).length (flat (acc ++ [(⟨(K : Nat), (tx.length : Nat), (tx.length + W.length : Nat)⟩ : Tk)]))) := (by unfold Hid; rw [flat_one, List.length_append, Int.natCast_add]; exact ho9); have HB9 : Hid (Below w.heap.size w w9) := (HB3.out.alloc HB3.out.size _).grown hg9 (by have := HB3.out.size; simp; omega) (fun j hj => (HO3.out.lt j hj).1); have Y9 : Bx w9 wr.heap.size #[.int .i64 pa, .int .i64 pb] 36 := (HX3.out.alloc _).rowM (HO3.out.alloc _) hg9 (by decide); have y0 : w9.cell? ⟨wr.heap.size, 0, none⟩ = some (.int .i64 pa) := Y9.cell 0; have y1 : w9.cell? ⟨wr.heap.size, 1, none⟩ = some (.int .i64 pb) := Y9.cell 1; have y9 := Y9.lt; clear ho9 hg9 Y9)
            | (go_at_call 9; (with_reducible refine (HGP.out _).mono ?_); rintro e w10 ⟨rfl, hb10⟩; have HO10 : Hid (w10.ownsRow w.heap.size 41 3 v9 (acc ++ [(⟨(K : Nat), (tx.length : Nat), (tx.length + W.length : Nat)⟩ : Tk)]).length (flat (acc ++ [(⟨(K : Nat), (tx.length : Nat), (tx.length + W.length : Nat)⟩ : Tk)]))) := ownsRow_below HO9.out hb10 (Nat.le_refl _); have HB10 : Hid (Below w.heap.size w w10) := HB9.out.trans (hb10.mono HB9.out.size); clear hb10)
            | (go_at_call 10; (with_reducible refine (HAS.out _).mono ?_); rintro e w11 ⟨rfl, hb11⟩; have HO11 : Hid (w11.ownsRow w.heap.size 41 3 v9 (acc ++ [(⟨(K : Nat), (tx.length : Nat), (tx.length + W.length : Nat)⟩ : Tk)]).length (flat (acc ++ [(⟨(K : Nat), (tx.length : Nat), (tx.length + W.length : Nat)⟩ : Tk)]))) := ownsRow_below HO10.out hb11 (Nat.le_refl _); have HB11 : Hid (Below w.heap.size w w11) := HB10.out.trans (hb11.mono HB10.out.size); clear hb11)
            | (at_builtin; (refine wpList_append_at _ rfl (.tmp 58) (.tmp 64) 24 rfl w.heap.size 41 i0 (.agg #[.int .u8 0, .int .i64 0, .int .i64 0]) 3 24 Tryd.underlying24 hi hz0 hz1 hz2 rfl (by decide) _ (acc ++ [(⟨(K : Nat), (tx.length : Nat), (tx.length + W.length : Nat)⟩ : Tk)]).length (flat (acc ++ [(⟨(K : Nat), (tx.length : Nat), (tx.length + W.length : Nat)⟩ : Tk)])) rfl (HO11.out.alloc _) (some ⟨_, 0, none⟩) 1 1 [.int .u8 6, .int .i64 ((tx.length : Int) + (W.length : Int)), .int .i64 ((tx.length : Int) + (W.length : Int))] rfl rfl (fun h => by cases h) (fun ad had => by cases had; exact cells_new _ _ _) (fun u hu => by simp at hu; rcases hu with rfl | rfl | rfl <;> rfl) (by unfold maxLen; simp; omega) (by simp; omega) (by have := HB11.out.size; simp; omega) ?_); intro v8 w8 ho8 hg8 _; have HO8 : Hid (w8.ownsRow w.heap.size 41 3 v8 ((acc ++ [(⟨(K : Nat), (tx.length : Nat), (tx.length + W.length : Nat)⟩ : Tk)]) ++ [(⟨6, (tx.length + W.length : Nat), (tx.length + W.length : Nat)⟩ : Tk)]).length (flat ((acc ++ [(⟨(K : Nat), (tx.length : Nat), (tx.length + W.length : Nat)⟩ : Tk)]) ++ [(⟨6, (tx.length + W.length : Nat), (tx.length + W.length : Nat)⟩ : Tk)]))) := (by unfold Hid; rw [flat_one, List.length_append, Int.natCast_add]; exact ho8); have HB8 : Hid (Below w.heap.size w w8) := (HB11.out.alloc HB11.out.size _).grown hg8 (by have := HB11.out.size; simp; omega) (fun j hj => (HO11.out.lt j hj).1); clear ho8 hg8))
          exact ⟨⟨i + 1, tx ++ W ++ G, _, by omega, by go_num, by rw [HX2.out], HST.out, by simpa using HO8.out, HB8.out⟩, by simp [intOf]; omega⟩
      | false =>
        by_cases hla : ps.length = i + 1
        · have hE : ((i : Int) == (ps.length : Int) - 1) = true := by rw [beq_iff_eq]; omega
          cases hA : ask K with
          | false =>
            rw [hA] at hask hstep
            have HST := hidM (hstep false (by simp [hla]))
            have HAS := hidM hask
            clear hask hstep hA hla
            go_wp2_with (first
              | (go_at_call 8; (with_reducible refine (HSP.out _).mono ?_); rintro e w3 ⟨rfl, hb3⟩; have HO3 : Hid (w3.ownsRow w.heap.size 41 3 u4 acc.length (flat acc)) := ownsRow_below HO1.out hb3 (Nat.le_refl _); have HB3 : Hid (Below w.heap.size w w3) := HB1.out.trans (hb3.mono HB1.out.size); have HX3 : Hid (Bx w3 wr.heap.size #[.int .i64 pa, .int .i64 pb] 36) := HX1.out.below hb3 HX1.out.lt; clear hb3)
              | (at_builtin; (refine wpList_append_at _ rfl (.tmp 28) (.tmp 38) 24 rfl w.heap.size 41 i0 (.agg #[.int .u8 0, .int .i64 0, .int .i64 0]) 3 24 Tryd.underlying24 hi hz0 hz1 hz2 rfl (by decide) _ acc.length (flat acc) rfl (HO3.out.alloc _) (some ⟨_, 0, none⟩) 1 1 [.int .u8 (K : Int), .int .i64 (tx.length : Int), .int .i64 ((tx.length : Int) + (W.length : Int))] rfl rfl (fun h => by cases h) (fun ad had => by cases had; exact cells_new _ _ _) (fun u hu => by simp at hu; rcases hu with rfl | rfl | rfl <;> rfl) (by unfold maxLen; omega) (by omega) (by have := HB3.out.size; simp; omega) ?_); intro v9 w9 ho9 hg9 _; have HO9 : Hid (w9.ownsRow w.heap.size 41 3 v9 (acc ++ [(⟨(K : Nat), (tx.length : Nat), (tx.length + W.length : Nat)⟩ : Tk)]).length (flat (acc ++ [(⟨(K : Nat), (tx.length : Nat), (tx.length + W.length : Nat)⟩ : Tk)]))) := (by unfold Hid; rw [flat_one, List.length_append, Int.natCast_add]; exact ho9); have HB9 : Hid (Below w.heap.size w w9) := (HB3.out.alloc HB3.out.size _).grown hg9 (by have := HB3.out.size; simp; omega) (fun j hj => (HO3.out.lt j hj).1); have Y9 : Bx w9 wr.heap.size #[.int .i64 pa, .int .i64 pb] 36 := (HX3.out.alloc _).rowM (HO3.out.alloc _) hg9 (by decide); have y0 : w9.cell? ⟨wr.heap.size, 0, none⟩ = some (.int .i64 pa) := Y9.cell 0; have y1 : w9.cell? ⟨wr.heap.size, 1, none⟩ = some (.int .i64 pb) := Y9.cell 1; have y9 := Y9.lt; clear ho9 hg9 Y9)
              | (go_at_call 9; (with_reducible refine (HGP.out _).mono ?_); rintro e w10 ⟨rfl, hb10⟩; have HO10 : Hid (w10.ownsRow w.heap.size 41 3 v9 (acc ++ [(⟨(K : Nat), (tx.length : Nat), (tx.length + W.length : Nat)⟩ : Tk)]).length (flat (acc ++ [(⟨(K : Nat), (tx.length : Nat), (tx.length + W.length : Nat)⟩ : Tk)]))) := ownsRow_below HO9.out hb10 (Nat.le_refl _); have HB10 : Hid (Below w.heap.size w w10) := HB9.out.trans (hb10.mono HB9.out.size); clear hb10)
              | (go_at_call 10; (with_reducible refine (HAS.out _).mono ?_); rintro e w11 ⟨rfl, hb11⟩; have HO11 : Hid (w11.ownsRow w.heap.size 41 3 v9 (acc ++ [(⟨(K : Nat), (tx.length : Nat), (tx.length + W.length : Nat)⟩ : Tk)]).length (flat (acc ++ [(⟨(K : Nat), (tx.length : Nat), (tx.length + W.length : Nat)⟩ : Tk)]))) := ownsRow_below HO10.out hb11 (Nat.le_refl _); have HB11 : Hid (Below w.heap.size w w11) := HB10.out.trans (hb11.mono HB10.out.size); clear hb11))
            exact ⟨⟨i + 1, tx ++ W ++ G, _, by omega, by go_num, by rw [HX2.out], HST.out, by simpa using HO11.out, HB11.out⟩, by simp [intOf]; omega⟩
          | true =>
            rw [hA] at hask hstep
            have HST := hidM (hstep true (by simp [hla]))
            have HAS := hidM hask
            clear hask hstep hA hla
            go_wp2_with (first
              | (go_at_call 8; (with_reducible refine (HSP.out _).mono ?_); rintro e w3 ⟨rfl, hb3⟩; have HO3 : Hid (w3.ownsRow w.heap.size 41 3 u4 acc.length (flat acc)) := ownsRow_below HO1.out hb3 (Nat.le_refl _); have HB3 : Hid (Below w.heap.size w w3) := HB1.out.trans (hb3.mono HB1.out.size); have HX3 : Hid (Bx w3 wr.heap.size #[.int .i64 pa, .int .i64 pb] 36) := HX1.out.below hb3 HX1.out.lt; clear hb3)
              | (at_builtin; (refine wpList_append_at _ rfl (.tmp 28) (.tmp 38) 24 rfl w.heap.size 41 i0 (.agg #[.int .u8 0, .int .i64 0, .int .i64 0]) 3 24 Tryd.underlying24 hi hz0 hz1 hz2 rfl (by decide) _ acc.length (flat acc) rfl (HO3.out.alloc _) (some ⟨_, 0, none⟩) 1 1 [.int .u8 (K : Int), .int .i64 (tx.length : Int), .int .i64 ((tx.length : Int) + (W.length : Int))] rfl rfl (fun h => by cases h) (fun ad had => by cases had; exact cells_new _ _ _) (fun u hu => by simp at hu; rcases hu with rfl | rfl | rfl <;> rfl) (by unfold maxLen; omega) (by omega) (by have := HB3.out.size; simp; omega) ?_); intro v9 w9 ho9 hg9 _; have HO9 : Hid (w9.ownsRow w.heap.size 41 3 v9 (acc ++ [(⟨(K : Nat), (tx.length : Nat), (tx.length + W.length : Nat)⟩ : Tk)]).length (flat (acc ++ [(⟨(K : Nat), (tx.length : Nat), (tx.length + W.length : Nat)⟩ : Tk)]))) := (by unfold Hid; rw [flat_one, List.length_append, Int.natCast_add]; exact ho9); have HB9 : Hid (Below w.heap.size w w9) := (HB3.out.alloc HB3.out.size _).grown hg9 (by have := HB3.out.size; simp; omega) (fun j hj => (HO3.out.lt j hj).1); have Y9 : Bx w9 wr.heap.size #[.int .i64 pa, .int .i64 pb] 36 := (HX3.out.alloc _).rowM (HO3.out.alloc _) hg9 (by decide); have y0 : w9.cell? ⟨wr.heap.size, 0, none⟩ = some (.int .i64 pa) := Y9.cell 0; have y1 : w9.cell? ⟨wr.heap.size, 1, none⟩ = some (.int .i64 pb) := Y9.cell 1; have y9 := Y9.lt; clear ho9 hg9 Y9)
              | (go_at_call 9; (with_reducible refine (HGP.out _).mono ?_); rintro e w10 ⟨rfl, hb10⟩; have HO10 : Hid (w10.ownsRow w.heap.size 41 3 v9 (acc ++ [(⟨(K : Nat), (tx.length : Nat), (tx.length + W.length : Nat)⟩ : Tk)]).length (flat (acc ++ [(⟨(K : Nat), (tx.length : Nat), (tx.length + W.length : Nat)⟩ : Tk)]))) := ownsRow_below HO9.out hb10 (Nat.le_refl _); have HB10 : Hid (Below w.heap.size w w10) := HB9.out.trans (hb10.mono HB9.out.size); clear hb10)
              | (go_at_call 10; (with_reducible refine (HAS.out _).mono ?_); rintro e w11 ⟨rfl, hb11⟩; have HO11 : Hid (w11.ownsRow w.heap.size 41 3 v9 (acc ++ [(⟨(K : Nat), (tx.length : Nat), (tx.length + W.length : Nat)⟩ : Tk)]).length (flat (acc ++ [(⟨(K : Nat), (tx.length : Nat), (tx.length + W.length : Nat)⟩ : Tk)]))) := ownsRow_below HO10.out hb11 (Nat.le_refl _); have HB11 : Hid (Below w.heap.size w w11) := HB10.out.trans (hb11.mono HB10.out.size); clear hb11)
              | (at_builtin; (refine wpList_append_at _ rfl (.tmp 58) (.tmp 64) 24 rfl w.heap.size 41 i0 (.agg #[.int .u8 0, .int .i64 0, .int .i64 0]) 3 24 Tryd.underlying24 hi hz0 hz1 hz2 rfl (by decide) _ (acc ++ [(⟨(K : Nat), (tx.length : Nat), (tx.length + W.length : Nat)⟩ : Tk)]).length (flat (acc ++ [(⟨(K : Nat), (tx.length : Nat), (tx.length + W.length : Nat)⟩ : Tk)])) rfl (HO11.out.alloc _) (some ⟨_, 0, none⟩) 1 1 [.int .u8 6, .int .i64 ((tx.length : Int) + (W.length : Int)), .int .i64 ((tx.length : Int) + (W.length : Int))] rfl rfl (fun h => by cases h) (fun ad had => by cases had; exact cells_new _ _ _) (fun u hu => by simp at hu; rcases hu with rfl | rfl | rfl <;> rfl) (by unfold maxLen; simp; omega) (by simp; omega) (by have := HB11.out.size; simp; omega) ?_); intro v8 w8 ho8 hg8 _; have HO8 : Hid (w8.ownsRow w.heap.size 41 3 v8 ((acc ++ [(⟨(K : Nat), (tx.length : Nat), (tx.length + W.length : Nat)⟩ : Tk)]) ++ [(⟨6, (tx.length + W.length : Nat), (tx.length + W.length : Nat)⟩ : Tk)]).length (flat ((acc ++ [(⟨(K : Nat), (tx.length : Nat), (tx.length + W.length : Nat)⟩ : Tk)]) ++ [(⟨6, (tx.length + W.length : Nat), (tx.length + W.length : Nat)⟩ : Tk)]))) := (by unfold Hid; rw [flat_one, List.length_append, Int.natCast_add]; exact ho8); have HB8 : Hid (Below w.heap.size w w8) := (HB11.out.alloc HB11.out.size _).grown hg8 (by have := HB11.out.size; simp; omega) (fun j hj => (HO11.out.lt j hj).1); clear ho8 hg8))
            exact ⟨⟨i + 1, tx ++ W ++ G, _, by omega, by go_num, by rw [HX2.out], HST.out, by simpa using HO8.out, HB8.out⟩, by simp [intOf]; omega⟩
        · have hE : ((i : Int) == (ps.length : Int) - 1) = false := by rw [beq_eq_false_iff_ne]; omega
          have HST := hidM (hstep false (by simp [hla]))
          clear hstep hask hla
          go_wp2_with (first
            | (go_at_call 8; (with_reducible refine (HSP.out _).mono ?_); rintro e w3 ⟨rfl, hb3⟩; have HO3 : Hid (w3.ownsRow w.heap.size 41 3 u4 acc.length (flat acc)) := ownsRow_below HO1.out hb3 (Nat.le_refl _); have HB3 : Hid (Below w.heap.size w w3) := HB1.out.trans (hb3.mono HB1.out.size); have HX3 : Hid (Bx w3 wr.heap.size #[.int .i64 pa, .int .i64 pb] 36) := HX1.out.below hb3 HX1.out.lt; clear hb3)
            | (at_builtin; (refine wpList_append_at _ rfl (.tmp 28) (.tmp 38) 24 rfl w.heap.size 41 i0 (.agg #[.int .u8 0, .int .i64 0, .int .i64 0]) 3 24 Tryd.underlying24 hi hz0 hz1 hz2 rfl (by decide) _ acc.length (flat acc) rfl (HO3.out.alloc _) (some ⟨_, 0, none⟩) 1 1 [.int .u8 (K : Int), .int .i64 (tx.length : Int), .int .i64 ((tx.length : Int) + (W.length : Int))] rfl rfl (fun h => by cases h) (fun ad had => by cases had; exact cells_new _ _ _) (fun u hu => by simp at hu; rcases hu with rfl | rfl | rfl <;> rfl) (by unfold maxLen; omega) (by omega) (by have := HB3.out.size; simp; omega) ?_); intro v9 w9 ho9 hg9 _; have HO9 : Hid (w9.ownsRow w.heap.size 41 3 v9 (acc ++ [(⟨(K : Nat), (tx.length : Nat), (tx.length + W.length : Nat)⟩ : Tk)]).length (flat (acc ++ [(⟨(K : Nat), (tx.length : Nat), (tx.length + W.length : Nat)⟩ : Tk)]))) := (by unfold Hid; rw [flat_one, List.length_append, Int.natCast_add]; exact ho9); have HB9 : Hid (Below w.heap.size w w9) := (HB3.out.alloc HB3.out.size _).grown hg9 (by have := HB3.out.size; simp; omega) (fun j hj => (HO3.out.lt j hj).1); have Y9 : Bx w9 wr.heap.size #[.int .i64 pa, .int .i64 pb] 36 := (HX3.out.alloc _).rowM (HO3.out.alloc _) hg9 (by decide); have y0 : w9.cell? ⟨wr.heap.size, 0, none⟩ = some (.int .i64 pa) := Y9.cell 0; have y1 : w9.cell? ⟨wr.heap.size, 1, none⟩ = some (.int .i64 pb) := Y9.cell 1; have y9 := Y9.lt; clear ho9 hg9 Y9)
            | (go_at_call 9; (with_reducible refine (HGP.out _).mono ?_); rintro e w10 ⟨rfl, hb10⟩; have HO10 : Hid (w10.ownsRow w.heap.size 41 3 v9 (acc ++ [(⟨(K : Nat), (tx.length : Nat), (tx.length + W.length : Nat)⟩ : Tk)]).length (flat (acc ++ [(⟨(K : Nat), (tx.length : Nat), (tx.length + W.length : Nat)⟩ : Tk)]))) := ownsRow_below HO9.out hb10 (Nat.le_refl _); have HB10 : Hid (Below w.heap.size w w10) := HB9.out.trans (hb10.mono HB9.out.size); clear hb10))
          exact ⟨⟨i + 1, tx ++ W ++ G, _, by omega, by go_num, by rw [HX2.out], HST.out, by simpa using HO10.out, HB10.out⟩, by simp [intOf]; omega⟩
    · have hge : ¬ (i : Int) < (ps.length : Int) := by omega
      have hii : i = ps.length := by omega
      have htx : byC (chs (ps.map itZ)) = tx := by have := HMD.out.txE; rw [List.drop_of_length_le (by simp; omega)] at this; simpa [chs, byC] using this
      have hac : wnt 0 (ps.map itZ) = acc := by have := HMD.out.accE; rw [List.drop_of_length_le (by simp; omega)] at this; simpa [wnt] using this
      have hok : ∀ j ∈ ps.map itZ, j.ok := fun j hj => by obtain ⟨p, -, rfl⟩ := List.mem_map.1 hj; exact itZ_ok p
      have hcut := cut_chunks (chs (ps.map itZ)) [] (ok_chs _ hok)
      have hmp := made_pure (ps.map itZ) [] hok
      rw [List.nil_append, htx] at hcut hmp
      simp only [List.length_nil] at hcut hmp
      rw [hac] at hmp
      have htl := HMD.out.len
      have hcn := HMD.out.cnt
      have hmx := wau_max (s := sq tx) (by rw [sq_size]; omega)
      have hscn := fun v hv => HSC.out v (sq tx) (by rw [sq_size]; omega) (by rw [hcut]) hv
      rw [hcut] at hmx hscn
      generalize wau (sq tx) (pcs 0 (chs (ps.map itZ))) = M at hmp hmx hscn
      have HSN := hidM hscn
      have HMP : Hid (fl2 M = acc) := hmp
      obtain ⟨aw, cw, hvw, hlw⟩ := own_liesM HO.out
      subst hvw
      have HLW : Hid (LiesA wr aw acc) := hlw
      generalize sq tx = X at *
      clear hcut hmp hscn htx hac hok hlw HSC
      go_wp2_with (go_at_call 5; (with_reducible refine (HSN.out wr HB.out).mono ?_); rintro e w3 ⟨a3, c3, rfl, hl3, hc3, hn3, hb3⟩; have HL3 : Hid (LiesA w3 a3 M) := hl3; have HW3 : Hid (LiesA w3 aw acc) := HLW.out.below hb3; have HB3 : Hid (Below w.heap.size w w3) := HB.out.trans (hb3.mono HB.out.size); clear hl3 hb3 hn3)
      obtain ⟨W, eW⟩ : ∃ W, w3.alloc (.cells #[.int .i64 0, .int .i64 0, .int .i64 0] 27) = W := ⟨_, rfl⟩
      have HLM : Hid (LiesA W a3 M) := by unfold Hid; rw [← eW]; exact HL3.out.below ((Below.refl _ _).alloc (Nat.le_refl _) _)
      have HLA : Hid (LiesA W aw acc) := by unfold Hid; rw [← eW]; exact HW3.out.below ((Below.refl _ _).alloc (Nat.le_refl _) _)
      have HBW : Hid (Below w.heap.size w W) := by unfold Hid; rw [← eW]; exact HB3.out.alloc HB3.out.size _
      rw [eW]
      clear eW HL3 HW3 HB3 HSN
      go_loopw [13, 80] (fun sg sj wx => ∃ (j : Nat) (ac2 : List Tk), j ≤ M.length ∧ sj = .int .i64 (j : Int) ∧ ac2.length ≤ j ∧ ac2 ++ fl2 (M.drop j) = fl2 M ∧ wx.ownsRow W.heap.size 41 3 sg ac2.length (flat ac2) ∧ Below W.heap.size W wx) (fun _ sj _ => M.length - (intOf sj).toNat)
      case atStart => exact ⟨0, [], Nat.zero_le _, rfl, by simp, rfl, World.ownsRow_nil _ _ _ _, Below.refl _ _⟩
      case round =>
        obtain ⟨j, ac2, hjl, rfl, hal, hacc, hown, hbel⟩ := hrel
        have HA2 : Hid (ac2 ++ fl2 (M.drop j) = fl2 M) := hacc
        have HO2 : Hid (wr.ownsRow W.heap.size 41 3 u13 ac2.length (flat ac2)) := hown
        have HB2 : Hid (Below W.heap.size W wr) := hbel
        clear hacc hown hbel
        by_cases hjt : j < M.length
        · have hjt' : (j : Int) < (M.length : Int) := by omega
          obtain ⟨⟨k, f, t⟩, hqi⟩ : ∃ q, M[j]? = some q := ⟨_, List.getElem?_eq_getElem hjt⟩
          obtain ⟨g, o, rfl, hlg⟩ : ∃ g o, a3 = some ⟨g, o, none⟩ ∧ Lies W g o M := by
            rcases HLM.out with h | ⟨g, o, h1, h2⟩
            · rw [h] at hjt; simp at hjt
            · exact ⟨g, o, h1, h2⟩
          have hgr : g < wr.heap.size := by have := HB2.out.size; have := hlg.1; omega
          obtain ⟨d0, d1, d2⟩ := hlg.tk HB2.out hqi
          simp only at d0 d1 d2
          have hst := fl2_step hqi
          simp only at hst
          clear hlg
          by_cases h6 : 1 < k
          · have HN2 : Hid ((ac2 ++ [(⟨k, f, t⟩ : Tk)]) ++ fl2 (M.drop (j + 1)) = fl2 M) := by unfold Hid; rw [← HA2.out, hst, if_pos h6]; simp
            have hk6 : k > 1 := h6
            clear hst
            go_wp2_with (at_builtin; (refine wpList_append_at _ rfl (.tmp 87) (.tmp 89) 24 rfl W.heap.size 41 i0 (.agg #[.int .u8 0, .int .i64 0, .int .i64 0]) 3 24 Tryd.underlying24 hi hz0 hz1 hz2 rfl (by decide) _ ac2.length (flat ac2) rfl ((HO2.out.alloc _).alloc _) (some ⟨_, 0, none⟩) 1 1 [.int .u8 k, .int .i64 f, .int .i64 t] rfl rfl (fun h => by cases h) (fun ad had => by cases had; exact cells_new2 _ _ _ _) (fun u hu => by simp at hu; rcases hu with rfl | rfl | rfl <;> rfl) (by unfold maxLen; omega) (by omega) (by have := HB2.out.size; simp; omega) ?_); intro v9 w9 ho9 hg9 _; have HO9 : Hid (w9.ownsRow W.heap.size 41 3 v9 (ac2 ++ [(⟨k, f, t⟩ : Tk)]).length (flat (ac2 ++ [(⟨k, f, t⟩ : Tk)]))) := (by unfold Hid; rw [flat_one, List.length_append]; exact ho9); have HB9 : Hid (Below W.heap.size W w9) := ((HB2.out.alloc HB2.out.size _).alloc (by have := HB2.out.size; simp; omega) _).grown hg9 (by have := HB2.out.size; simp; omega) (fun j hj => (HO2.out.lt j hj).1); clear ho9 hg9)
            exact ⟨⟨j + 1, ac2 ++ [(⟨k, f, t⟩ : Tk)], by omega, by go_num, by simp; omega, HN2.out, HO9.out, HB9.out⟩, by simp [intOf]; omega⟩
          · have HN2 : Hid (ac2 ++ fl2 (M.drop (j + 1)) = fl2 M) := by unfold Hid; rw [← HA2.out, hst, if_neg h6]; rfl
            have hk6 : ¬ k > 1 := h6
            clear hst
            go_wp2
            exact ⟨⟨j + 1, ac2, by omega, by go_num, by omega, HN2.out, HO2.out.alloc _, HB2.out.alloc HB2.out.size _⟩, by simp [intOf]; omega⟩
        · have hjge : ¬ (j : Int) < (M.length : Int) := by omega
          have hE : ac2 = acc := by
            have := HA2.out
            rw [List.drop_of_length_le (by omega), HMP.out] at this
            simpa [fl2] using this
          subst hE
          obtain ⟨ag, cg, hvg, hlg⟩ := own_liesM HO2.out
          subst hvg
          have HS : Hid (Calls Tryd.prog 7 #[.slice ag ac2.length cg, .slice aw ac2.length cw] wr fun e w' => e = .returned (.bool true) ∧ Below wr.heap.size wr w') := same_tokens ag aw cg cw ac2 wr hlg (HLA.out.below HB2.out) (by unfold maxLen; omega)
          clear hlg
          go_wp2_with (go_at_call 7; (with_reducible refine HS.out.mono ?_); rintro e w9 ⟨rfl, hb9⟩; have HB9 : Hid (Below W.heap.size W w9) := HB2.out.trans (hb9.mono HB2.out.size); clear hb9)
          go_ret
          exact ⟨rfl, HBW.out.trans (HB9.out.mono HBW.out.size)⟩
end Go.Proofs.YtphejjghgalkpaaDoor
