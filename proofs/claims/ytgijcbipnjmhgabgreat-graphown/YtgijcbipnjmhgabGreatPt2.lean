import Derived.Test.YtgijcbipnjmhgabGreatCy1
import Derived.BigRegion
import Derived.BigQuiet
namespace Go.Proofs.YtgijcbipnjmhgabGreat
open Go.ChangeShapes Go.WideShapes Go.ChangeAt Go.RowKit
set_option linter.unusedVariables false
set_option linter.unusedSimpArgs false

theorem Rl.up {B B' gV n : Nat} {w : World} {N : Nat → List Int} (h : Rl B w gV n N) (hB : B ≤ B') : Rl B' w gV n N :=
  ⟨Nat.lt_of_lt_of_le h.lt hB, fun x hx => by
    obtain ⟨a, c, h1, h2⟩ := h.row x hx
    refine ⟨a, c, h1, fun h0 => ?_⟩
    obtain ⟨g, k3, k4, k5⟩ := h2 h0
    exact ⟨g, k3, Nat.lt_of_lt_of_le k4 hB, k5⟩⟩
/-- the lows, as numbers -/
theorem lws_of {ps : List Pr} {n : Nat} {ls : List Int} (hps : ∀ p ∈ ps, (0 ≤ p.a ∧ p.a < (n : Int)) ∧ (0 ≤ p.b ∧ p.b < (n : Int))) (h : ∀ y : Nat, y < n → ∃ z : Nat, ls[y]? = some (z : Int) ∧ Low ps y z) : ∃ lw : Nat → Nat, Lws ps n lw ∧ ∀ y : Nat, y < n → ls[y]? = some (lw y : Int) := by
  refine ⟨fun y => ((ls[y]?).getD 0).toNat, ⟨fun y hy => ?_, hps⟩, fun y hy => ?_⟩
  · obtain ⟨z, h1, h2⟩ := h y hy
    rw [h1]
    exact h2
  · obtain ⟨z, h1, h2⟩ := h y hy
    dsimp only
    rw [h1]
    simp
theorem btw_take {lw : Nat → Nat} {ps : List Pr} {k x y : Nat} (hp : ps[k]? = some ⟨(x : Int), (y : Int)⟩) : btw lw (ps.take (k + 1)) = btw lw (ps.take k) ++ if lw x = lw y then [] else [⟨(lw x : Int), (lw y : Int)⟩] := by
  rw [List.take_add_one, hp]
  unfold btw
  rw [List.filter_append, List.map_append]
  by_cases e : lw x = lw y
  · rw [if_pos e]; simp [e]
  · rw [if_neg e]; simp [e]
/-- a row of numbers that is read -/
def Rr1 (B : Nat) (w : World) (gL n : Nat) (lw : Nat → Nat) : Prop := gL < B ∧ ∀ y, y < n → w.cell? ⟨gL, y, none⟩ = some (.int .i64 (lw y : Int))
theorem Rr1.below {B gL n : Nat} {w w' : World} {lw : Nat → Nat} (h : Rr1 B w gL n lw) (hb : Below B w w') : Rr1 B w' gL n lw := ⟨h.1, fun y hy => (hb.cell (p := ⟨gL, y, none⟩) h.1).trans (h.2 y hy)⟩
theorem swap_rng {ps : List Pr} {n : Nat} (h : ∀ p ∈ ps, (0 ≤ p.a ∧ p.a < (n : Int)) ∧ (0 ≤ p.b ∧ p.b < (n : Int))) : ∀ p ∈ ps.map swapP, (0 ≤ p.a ∧ p.a < (n : Int)) ∧ (0 ≤ p.b ∧ p.b < (n : Int)) := fun p hp => by
  obtain ⟨q, hq, rfl⟩ := List.mem_map.1 hp
  exact ⟨(h q hq).2, (h q hq).1⟩

/-- rows of numbers, while they are made -/
structure Lm (B gV n : Nat) (w0 w : World) (rs : List Rr) : Prop where
  she : She 3 32 1 B w (.slice (some ⟨gV, 0, none⟩) n n) (.slice none 0 0) rs []
  len : rs.length = n
  bel : Below B w0 w
  base : B ≤ w.heap.size
theorem Lm.below {B gV n : Nat} {w0 w w' : World} {rs : List Rr} (h : Lm B gV n w0 w rs) (hb : Below w.heap.size w w') : Lm B gV n w0 w' rs :=
  ⟨h.she.below hb, h.len, h.bel.trans (hb.mono h.base), Nat.le_trans h.base hb.size⟩
theorem Lm.cell {B gV n : Nat} {w0 w : World} {rs : List Rr} (h : Lm B gV n w0 w rs) {x : Nat} {r : Rr} (hr : rs[x]? = some r) : w.cell? ⟨gV, x, none⟩ = some r.v ∧ w.frozen? ⟨gV, x, none⟩ = false := by
  obtain ⟨g, c, hV, h1, h2⟩ := h.she.cellV hr
  simp only [Value.slice.injEq, Option.some.injEq, Addr.mk.injEq] at hV
  obtain ⟨⟨rfl, -, -⟩, -, -⟩ := hV
  exact ⟨h1, h2⟩
theorem Lm.put {B gV n n9 : Nat} {w0 w w9 : World} {rs : List Rr} {v9 : Value} {xs9 : List Value} (h : Lm B gV n w0 w rs) {x : Nat} {r : Rr} (hr : rs[x]? = some r) (hown : w9.ownsRow B 3 1 v9 n9 xs9) (hg : w.grownBy w9 r.v.ownBlock) (hat : v9.ownBlock = r.v.ownBlock ∨ v9.ownBlock = some w.heap.size) : Lm B gV n w0 (w9.setCell ⟨gV, x, none⟩ v9) (rs.set x ⟨v9, n9, xs9⟩) := by
  have hgV := (h.she.outV.lt gV rfl).1
  refine ⟨h.she.put (by decide) hr hown hg hat (by rw [h.len]), by rw [List.length_set]; exact h.len, (h.bel.grown hg h.base (fun g hgr => ((h.she.get hr).lt g hgr).1)).setCell (p := ⟨gV, x, none⟩) hgV _, ?_⟩
  have := hg.size
  have := h.base
  simp
  omega
theorem Lm.still {B gV n : Nat} {w0 w w9 : World} {rs : List Rr} (h : Lm B gV n w0 w rs) {x : Nat} {r : Rr} (hr : rs[x]? = some r) (hg : w.grownBy w9 r.v.ownBlock) : w9.cell? ⟨gV, x, none⟩ = some r.v ∧ w9.frozen? ⟨gV, x, none⟩ = false := by
  have hne : r.v.ownBlock ≠ some gV := own_otherR (h.she.get hr) h.she.outV (by decide) rfl
  have hb := hg.block gV (h.she.outV.lt gV rfl).2 (fun e => hne e.symm)
  obtain ⟨h1, h2⟩ := h.cell hr
  exact ⟨(World.cell?_of_block (w := w) hb).trans h1, (World.frozen?_of_block (w := w) hb).trans h2⟩
/-- the members so far -/
def Mb (lw : Nat → Nat) (k : Nat) (rs : List Rr) : Prop := ∀ (z : Nat) (r : Rr), rs[z]? = some r → r.n = (mem1 k lw z).length ∧ r.xs = (mem1 k lw z).map (Value.int .i64)
theorem mem1_succ (lw : Nat → Nat) (k z : Nat) : mem1 (k + 1) lw z = mem1 k lw z ++ if lw k = z then [(k : Int)] else [] := by
  unfold mem1
  rw [List.range_succ, List.filter_append, List.map_append]
  by_cases e : lw k = z
  · rw [if_pos e]; simp [e]
  · rw [if_neg e]; simp [e]
theorem Mb.start (lw : Nat → Nat) (n : Nat) : Mb lw 0 (List.replicate n ⟨.slice none 0 0, 0, []⟩) := fun z r hr => by
  rw [List.getElem?_replicate] at hr
  split at hr
  · cases hr; exact ⟨rfl, rfl⟩
  · cases hr
theorem Mb.step {lw : Nat → Nat} {k : Nat} {rs : List Rr} (h : Mb lw k rs) {r : Rr} (hr : rs[lw k]? = some r) (v : Value) : Mb lw (k + 1) (rs.set (lw k) ⟨v, r.n + 1, r.xs ++ [.int .i64 (k : Int)]⟩) := fun z q hq => by
  obtain ⟨h1, h2⟩ := h _ r hr
  by_cases e : z = lw k
  · subst e
    rw [List.getElem?_set_self (List.getElem?_eq_some_iff.1 hr).1] at hq
    cases hq
    rw [mem1_succ, if_pos rfl, List.map_append, List.length_append]
    exact ⟨by rw [h1]; rfl, by rw [h2]; rfl⟩
  · rw [List.getElem?_set_ne (fun e2 => e e2.symm)] at hq
    rw [mem1_succ, if_neg (fun e2 => e e2.symm), List.append_nil]
    exact h z q hq
theorem mem1_len (n : Nat) (lw : Nat → Nat) (z : Nat) : (mem1 n lw z).length ≤ n := by
  unfold mem1
  rw [List.length_map]
  exact Nat.le_trans (List.length_filter_le _ _) (by rw [List.length_range]; exact Nat.le_refl _)

theorem own_liesP {w : World} {B : Nat} {a : Option Addr} {c : Nat} {L : List Pr} (h : w.ownsRow B 51 2 (.slice a L.length c) L.length (flat L)) : LiesA w a L := by
  by_cases h0 : L = []
  · exact .inl h0
  · obtain ⟨a', c', hv, ha, -⟩ := own_slice h
    injection hv with e1 e2 e3
    subst e1
    obtain ⟨g, rfl⟩ := ha (List.length_pos_iff.2 h0)
    exact .inr ⟨g, 0, rfl, (h.lt g rfl).2, fun j u hj => by
      have h1 := h.cells rfl j u hj
      rw [addr_add] at h1
      exact h1⟩

/-- the parts' rows, as values -/
def mvs (lw : Nat → Nat) (rs : List Rr) (os : List Int) : List Value := (os.filter fun x => decide ((lw x.toNat : Int) = x)).map fun x => ((rs[x.toNat]?).map Rr.v).getD (.slice none 0 0)
theorem mvs_take {lw : Nat → Nat} {rs : List Rr} {os : List Int} {k x : Nat} {r : Rr} (hx : os[k]? = some (x : Int)) (hr : rs[x]? = some r) : mvs lw rs (os.take (k + 1)) = mvs lw rs (os.take k) ++ if lw x = x then [r.v] else [] := by
  rw [List.take_add_one, hx]
  unfold mvs
  rw [List.filter_append, List.map_append]
  by_cases e : lw x = x
  · rw [if_pos e]; simp [e, hr]
  · rw [if_neg e]
    have : ¬ (lw x : Int) = (x : Int) := by omega
    simp [this]
/-- a row of rows of numbers -/
def Rv (B : Nat) (w : World) (v : Value) (pss : List (List Int)) : Prop := ∃ vals : List Value, w.ownsRow B 32 1 v vals.length vals ∧ vals.length = pss.length ∧ ∀ (i : Nat) p, pss[i]? = some p → ∃ u, vals[i]? = some u ∧ w.ownsRow B 3 1 u p.length (p.map (Value.int .i64))
theorem rv_of {B gM n : Nat} {wA wr w' : World} {lw : Nat → Nat} {rs : List Rr} {os : List Int} {v : Value} (hB : B ≤ gM) (hLm : Lm gM gM n wA wr rs) (hMb : Mb lw n rs) (hb : Below wr.heap.size wr w') (hr : ∀ y ∈ os, 0 ≤ y ∧ y < (n : Int)) (ho : w'.ownsRow B 32 1 v (mvs lw rs os).length (mvs lw rs os)) : Rv B w' v (pts n lw os) := by
  refine ⟨mvs lw rs os, ho, by simp [mvs, pts], fun i p hp => ?_⟩
  unfold pts at hp
  rw [List.getElem?_map] at hp
  obtain ⟨x, hx, e⟩ := Option.map_eq_some_iff.1 hp
  have hm := (List.mem_filter.1 (List.mem_of_getElem? hx)).1
  have hxr := hr x hm
  obtain ⟨r, hrx⟩ : ∃ r, rs[x.toNat]? = some r := ⟨_, List.getElem?_eq_getElem (by rw [hLm.len]; omega)⟩
  refine ⟨r.v, by unfold mvs; rw [List.getElem?_map, hx, Option.map_some, hrx]; rfl, ?_⟩
  obtain ⟨h1, h2⟩ := hMb _ r hrx
  have h3 := own_belowR (hLm.she.get hrx) hb (Nat.le_refl _)
  rw [h1, h2, e] at h3
  exact own_lower h3 hB

set_option maxRecDepth 1000000 in
set_option maxHeartbeats 8000000 in
theorem parts_ok (n cap : Nat) (a : Option Addr) (ps : List Pr) (w : World) (hL : LiesA w a ps) (hm : ps.length ≤ 8796093022208) (ht : things (n : Int) ps = true) :
    Calls Tryz.prog 6 #[.int .i64 (n : Int), .slice a ps.length cap] w fun e w' => ∃ v, e = .returned (.tuple #[v, .int .i64 0]) ∧ Below w.heap.size w w' ∧ ∃ lw N os, Lws ps n lw ∧ LstR n (btw lw ps) N ∧ Ln N n os ∧ Rv w.heap.size w' v (pts n lw os) := by
  obtain ⟨hn, hps⟩ := things_spec ht
  have HL : Hid (LiesA w a ps) := hL
  have HPS : Hid (∀ p ∈ ps, (0 ≤ p.a ∧ p.a < (n : Int)) ∧ (0 ≤ p.b ∧ p.b < (n : Int))) := hps
  have AT : Hid (Calls Tryz.prog 17 #[.int .i64 (n : Int), .slice a ps.length cap] w fun e w' => e = .returned (.bool true) ∧ Below w.heap.size w w') := by unfold Hid; rw [← ht]; exact areThings_any (n : Int) a cap ps w hL (by omega)
  clear hL hps ht
  go_enter Tryz.func6, Tryz.ntmps6
  go_upto_region 4 with (first
    | (go_at_call 17; (with_reducible refine AT.out.mono ?_); rintro e v1 ⟨rfl, hb1⟩; have HB1 := hidH hb1; have LS1 := hidH (listsR_any n cap a ps v1 (HL.out.below hb1) hn (by omega) HPS.out); clear hb1)
    | (go_at_call 18; (with_reducible refine LS1.out.mono ?_); clear LS1; rintro e w1 ⟨rfl, hb2, N, hrN, hlN⟩; have HB2 := hidH (HB1.out.trans (hb2.mono HB1.out.size)); have RN := hidH hrN; have LN := hidH hlN; have TU := hidH (turned_any a cap ps w1 (HL.out.below HB2.out) hm); clear hb2 hrN hlN HB1)
    | (go_at_call 19; (with_reducible refine TU.out.mono ?_); clear TU; rintro e w2 ⟨rfl, hb3, hli⟩; have HB3 := hidH (HB2.out.trans (hb3.mono HB2.out.size)); have RN2 := hidH (RN.out.below hb3); have LS2 := hidH (listsR_any n ps.length (some ⟨w1.heap.size, 0, none⟩) (ps.map swapP) w2 (.inr ⟨_, _, rfl, hli⟩) hn (by rw [List.length_map]; omega) (swap_rng HPS.out)); rw [List.length_map] at LS2; have HZ2 := hidH hb3.size; clear hb3 hli HB2 RN)
    | (go_at_call 18; (with_reducible refine LS2.out.mono ?_); clear LS2; rintro e w3 ⟨rfl, hb4, D, hrD, hlD⟩; have HB4 := hidH (HB3.out.trans (hb4.mono HB3.out.size)); have LO := hidH (lowests_any _ _ n N D ps (ps.map swapP) w3 ((RN2.out.below (hb4.mono HZ2.out)).up (Nat.le_trans HZ2.out hb4.size)) hrD (LN.out.lst hn (fun p hp => (HPS.out p hp).2)) (hlD.lst hn (fun p hp => (swap_rng HPS.out p hp).2)) (trn_swap ps) (fun p hp => (HPS.out p hp).2) (fun p hp => (swap_rng HPS.out p hp).2) hn); clear hb4 hrD hlD HB3 RN2 HZ2)
    | (go_at_call 22; (with_reducible refine LO.out.mono ?_); clear LO; rintro e w4 ⟨L, ls, rfl, hoL, hb5, hlow⟩; have HB5 := hidH (HB4.out.trans (hb5.mono HB4.out.size)); have OL := hidH hoL; have LOW := hidH hlow; clear hoL hb5 hlow HB4))
  obtain ⟨lw, hlw, hlv⟩ := lws_of HPS.out LOW.out
  have LW := hidH hlw
  obtain ⟨aL, cL, hLv, haL, -⟩ := own_slice OL.out
  subst hLv
  obtain ⟨gL, hgL⟩ : ∃ gL, 0 < n → aL = some ⟨gL, 0, none⟩ ∧ Rr1 w4.heap.size w4 gL n lw := by
    by_cases h0 : 0 < n
    · obtain ⟨gL, rfl⟩ := haL h0
      exact ⟨gL, fun _ => ⟨rfl, (OL.out.lt gL rfl).2, fun y hy => (row_cell OL.out (hlv y hy)).1⟩⟩
    · exact ⟨0, fun h => absurd h h0⟩
  have RL := hidH hgL
  obtain ⟨i0, hi0, hz0, hz1, hz2⟩ := info_parts infoPr
  obtain ⟨B4, hB4⟩ : ∃ B4, w4.heap.size = B4 := ⟨_, rfl⟩
  have H4 := hidH hB4
  rw [hB4] at RL
  clear hlw hlv haL hgL OL LOW hB4
  go_wp2
  go_loopg [7, 33] ps.length (fun gk s7 s33 wr => ∃ (k : Nat) (bs : List Pr), gk = ps.length - k ∧ s33 = .int .i64 (k : Int) ∧ k ≤ ps.length ∧ wr.ownsRow B4 51 2 s7 bs.length (flat bs) ∧ bs = btw lw (ps.take k) ∧ Below B4 w4 wr)
  case atStart => exact ⟨0, [], rfl, rfl, Nat.zero_le _, World.ownsRow_nil _ _ _ _, rfl, Below.refl _ _⟩
  case round =>
    obtain ⟨k, bs, hgk, rfl, hk, hO, hbs, hE⟩ := hrel
    have OB := hidH hO
    have BS := hidH hbs
    have HE := hidH hE
    have hbl : bs.length ≤ k := by rw [hbs]; unfold btw; rw [List.length_map]; exact Nat.le_trans (List.length_filter_le _ _) (by rw [List.length_take]; omega)
    clear hO hbs hE
    by_cases hkp : k < ps.length
    · have hkp' : (k : Int) < (ps.length : Int) := by omega
      obtain ⟨p, hp⟩ : ∃ p, ps[k]? = some p := ⟨_, List.getElem?_eq_getElem hkp⟩
      obtain ⟨b, o, ha, hLi⟩ : ∃ b o, a = some ⟨b, o, none⟩ ∧ Lies w b o ps := by
        rcases HL.out with h | h
        · rw [h] at hkp; exact absurd hkp (Nat.not_lt_zero _)
        · exact h
      subst ha
      obtain ⟨⟨ha0, ha1⟩, hb0, hb1⟩ := HPS.out p (List.mem_of_getElem? hp)
      obtain ⟨pa, pb⟩ := p
      obtain ⟨x, rfl⟩ : ∃ x : Nat, pa = (x : Int) := ⟨pa.toNat, by simp only at ha0; omega⟩
      obtain ⟨y, rfl⟩ : ∃ y : Nat, pb = (y : Int) := ⟨pb.toNat, by simp only at hb0; omega⟩
      simp only at ha0 ha1 hb0 hb1
      have HP := hidH hp
      have hw4 : Below w.heap.size w wr := HB5.out.trans (HE.out.mono (by have := H4.out; have := HB5.out.size; omega))
      obtain ⟨d0, d1⟩ := (hLi.below hw4 hLi.1).pr hp
      simp only at d0 d1
      obtain ⟨rfl, hr1⟩ := RL.out (by omega)
      have hr2 := hr1.below HE.out
      have cx := hr2.2 x (by omega)
      have cy := hr2.2 y (by omega)
      obtain ⟨u, hu⟩ : ∃ u, lw x = u := ⟨_, rfl⟩
      obtain ⟨v, hv⟩ : ∃ v, lw y = v := ⟨_, rfl⟩
      rw [hu] at cx
      rw [hv] at cy
      have HUV := hidH (And.intro hu hv)
      have hgl := hr1.1
      have hwB : B4 ≤ wr.heap.size := by have := HE.out.size; have := H4.out; omega
      clear hp hLi hw4 hr1 hr2 hu hv
      go_upto_region 8 with fail
      obtain ⟨w5, e5, hb5', hs5, X5⟩ := bx1 wr #[.int .i64 (x : Int), .int .i64 (y : Int)] 51
      rw [e5]
      obtain ⟨q, hq⟩ : ∃ q, wr.heap.size = q := ⟨_, rfl⟩
      rw [hq] at X5 hs5 ⊢
      have cx5 := (hb5'.cell (p := ⟨gL, x, none⟩) (by show gL < _; omega)).trans cx
      have cy5 := (hb5'.cell (p := ⟨gL, y, none⟩) (by show gL < _; omega)).trans cy
      have c50 := X5.cell 0
      have c51 := X5.cell 1
      have OB5 := hidH (own_belowR OB.out hb5' (Nat.le_refl _))
      have HE5 := hidH (HE.out.trans (hb5'.mono hwB))
      have hwB5 : B4 ≤ w5.heap.size := by omega
      simp at c50 c51
      clear e5 cx cy d0 d1 X5
      have hx0 : (0 : Int) ≤ (x : Int) := by omega
      have hy0 : (0 : Int) ≤ (y : Int) := by omega
      go_quiet (fail)
      have kk : IntKind.i64.wrap ((k : Int) + 1) = ((k + 1 : Nat) : Int) := by rw [IntWalk.i64_in _ ⟨by omega, by omega⟩]; omega
      obtain ⟨w7, hw7⟩ : ∃ w7, w5.drewN nq = w7 := ⟨_, rfl⟩
      have hdr : Below w5.heap.size w5 w7 := by rw [← hw7]; exact ⟨rfl, rfl, rfl, Nat.le_refl _, fun _ _ => rfl⟩
      have hwB7 : B4 ≤ w7.heap.size := Nat.le_trans hwB5 hdr.size
      rw [hw7]
      have OB6 := hidH (own_belowR OB5.out hdr (Nat.le_refl _))
      have HE6 := hidH (HE5.out.trans (hdr.mono hwB5))
      clear hw7 OB5 HE5 hdr cx5 cy5 c50 c51 hb5'
      by_cases huv : u = v
      · subst huv
        go_wp2
        go_roundg (ps.length - (k + 1))
        case measure => omega
        case rel => exact ⟨k + 1, bs, rfl, rfl, by omega, OB6.out, by rw [btw_take HP.out, HUV.out.1, HUV.out.2, if_pos rfl, List.append_nil]; exact BS.out, HE6.out⟩
      · have huv' : ((u : Int) == (v : Int)) = false := by rw [beq_eq_false_iff_ne]; omega
        have huv2 : ¬ (u : Int) = (v : Int) := by omega
        obtain ⟨w6, e6, hb6, hs6, X6⟩ := bx1 w7 #[.int .i64 (u : Int), .int .i64 (v : Int)] 51
        have NA : Hid (∀ j z, [Value.int .i64 (u : Int), .int .i64 (v : Int)][j]? = some z → w6.cell? ((⟨w7.heap.size, 0, none⟩ : Addr).add j) = some z) := by unfold Hid; rw [← e6]; exact cells_newR w7 [Value.int .i64 (u : Int), .int .i64 (v : Int)] 51
        have HEA := hidH e6
        have HSA := hidH hs6
        have OA := hidH (own_belowR OB6.out hb6 (Nat.le_refl _))
        have EA := hidH (HE6.out.trans (hb6.mono hwB7))
        have hw6 : B4 ≤ w6.heap.size := by omega
        clear e6 hb6 hs6 X6
        go_wp2_with (at_builtin; rw [HEA.out]; refine wpList_append_lies _ rfl _ _ 22 rfl B4 51 i0 (.agg #[.int .i64 0, .int .i64 0]) 2 16 Tryz.underlying22 hi0 hz0 hz1 hz2 rfl (by decide) _ bs.length (flat bs) rfl OA.out ⟨w7.heap.size, 0, none⟩ 1 1 [Value.int .i64 (u : Int), .int .i64 (v : Int)] rfl rfl NA.out (by intro z hz; simp at hz; rcases hz with rfl | rfl <;> rfl) (by decide) (by unfold maxLen; omega) (by omega) hw6 (w7.heap.size + 1) HSA.out ?_; intro gg cp w9 hown9 hgrow9 hat9 hlt9; have O9 : Hid (w9.ownsRow B4 51 2 (.slice (some ⟨gg, 0, none⟩) (bs.length + 1) cp) (bs ++ [(⟨(u : Int), (v : Int)⟩ : Pr)]).length (flat (bs ++ [(⟨(u : Int), (v : Int)⟩ : Pr)]))) := (by unfold Hid; rw [flat_append, List.length_append]; exact hown9); have E9 := hidH (EA.out.grown hgrow9 hw6 (fun g e => (OA.out.lt g e).1)); clear hown9 hgrow9 hat9 hlt9)
        go_roundg (ps.length - (k + 1))
        case measure => omega
        case rel => exact ⟨k + 1, bs ++ [⟨(u : Int), (v : Int)⟩], rfl, rfl, by omega, O9.out, by rw [btw_take HP.out, HUV.out.1, HUV.out.2, if_neg huv, ← BS.out], E9.out⟩
    · have hkp' : ¬ (k : Int) < (ps.length : Int) := by omega
      have hk2 : k = ps.length := by omega
      subst hk2
      have BS2 : Hid (bs = btw lw ps) := by unfold Hid; rw [BS.out, List.take_length]
      obtain ⟨j0, hj0, hy0, hy1, hy2⟩ := info_parts infoRowI
      obtain ⟨j1, hj1, hx0, hx1, hx2⟩ := info_parts infoIntH
      obtain ⟨wA, hwA⟩ : ∃ wA, wA = wr := ⟨wr, rfl⟩
      subst hwA
      obtain ⟨gM, hgM⟩ : ∃ gM, wA.heap.size = gM := ⟨_, rfl⟩
      have hwB : B4 ≤ wA.heap.size := by have := HE.out.size; have := H4.out; omega
      have HGM := hidH hgM
      clear BS hkp hgk
      go_wp2_with (at_make; refine wpList_make_full _ rfl _ _ 26 rfl wA.heap.size 32 j0 (.slice none 0 0) 1 Tryz.underlying26 hj0 hy0 hy1 _ _ _ _ n rfl rfl rfl rfl (by rw [hy2]; omega) (by unfold maxLen; omega) (Nat.le_refl _) ?_; intro v5 hown5 hgr5; have L5 : Hid (Lm gM gM n wA v5 (List.replicate n ⟨.slice none 0 0, 0, []⟩)) := (by rw [← hgM]; exact ⟨She.made (by have h9 := rep_made (.slice none 0 0) n; rw [show (Value.slice none 0 0).cells = #[.slice none 0 0] by rfl] at hown5; rw [h9] at hown5; exact hown5), by simp, (Below.refl _ wA).grown hgr5 (Nat.le_refl _) (fun k h => by cases h), hgr5.size⟩); rw [hgM]; clear hown5 hgr5)
      go_loopg [61] n (fun gk si wq => ∃ (k2 : Nat) (rs : List Rr), gk = n - k2 ∧ si = .int .i64 (k2 : Int) ∧ k2 ≤ n ∧ Lm gM gM n wA wq rs ∧ Mb lw k2 rs)
      case atStart => exact ⟨0, _, rfl, rfl, Nat.zero_le _, L5.out, Mb.start lw n⟩
      case round =>
        clear L5
        obtain ⟨k2, rs, hgk, rfl, hk2, hLm, hMb⟩ := hrel
        have LM := hidH hLm
        have MB := hidH hMb
        clear hLm hMb
        by_cases hkn : k2 < n
        · have hkn' : (k2 : Int) < (n : Int) := by omega
          obtain ⟨rfl, hr1⟩ := RL.out (by omega)
          have hEq : Below B4 w4 wr := HE.out.trans (LM.out.bel.mono (by have := HGM.out; omega))
          have cL := (hr1.below hEq).2 k2 hkn
          have hzn := LW.out.lt hkn
          obtain ⟨z, hz⟩ : ∃ z, lw k2 = z := ⟨_, rfl⟩
          have HZ := hidH hz
          rw [hz] at cL hzn
          have hzn' : (z : Int) < (n : Int) := by omega
          obtain ⟨r, hr⟩ : ∃ r, rs[z]? = some r := ⟨_, List.getElem?_eq_getElem (by rw [LM.out.len]; exact hzn)⟩
          have HR := hidH hr
          obtain ⟨a1, c1, hv1, -, -⟩ := own_slice (LM.out.she.get hr)
          have hrn : r.n ≤ 131072 := by
            have h1 := (MB.out z r hr).1
            have h2 := mem1_len k2 lw z
            omega
          obtain ⟨rv, rn, rx⟩ := r
          simp only at hv1 hrn
          subst hv1
          have cM := (LM.out.cell hr).1
          simp only at cM
          obtain ⟨w6, e6, hb6, hs6, X6⟩ := bx1 wr #[.int .i64 (k2 : Int)] 3
          have NA : Hid (∀ j u, [Value.int .i64 (k2 : Int)][j]? = some u → w6.cell? ((⟨wr.heap.size, 0, none⟩ : Addr).add j) = some u) := by unfold Hid; rw [← e6]; exact cells_newH wr [Value.int .i64 (k2 : Int)] 3
          have LM6 := hidH (LM.out.below hb6)
          have HEA := hidH e6
          have HSA := hidH hs6
          have hw6 : gM ≤ w6.heap.size := LM6.out.base
          have kk : IntKind.i64.wrap ((k2 : Int) + 1) = ((k2 + 1 : Nat) : Int) := by rw [IntWalk.i64_in _ ⟨by omega, by omega⟩]; omega
          clear hr1 hEq hz hr e6 hb6 hs6 X6
          go_wp2_with (at_builtin; rw [HEA.out]; refine wpList_append_lies _ rfl _ _ 32 rfl gM 3 j1 (.int .i64 0) 1 8 Tryz.underlying32 hj1 hx0 hx1 hx2 rfl (by decide) (.slice a1 rn c1) rn rx rfl (LM6.out.she.get HR.out) ⟨wr.heap.size, 0, none⟩ 1 1 [Value.int .i64 (k2 : Int)] rfl rfl NA.out (by intro u hu; simp at hu; subst hu; rfl) (by decide) (by unfold maxLen; omega) (by omega) hw6 (wr.heap.size + 1) HSA.out ?_; intro gg cp w9 hown9 hgrow9 hat9 hlt9; have P9 := hidH (LM6.out.put HR.out hown9 hgrow9 (by have h7 := HSA.out; rcases hat9 with e | e; exact .inl e.symm; exact .inr (by simp only [Value.ownBlock, e, h7]))); obtain ⟨c9, f9⟩ := LM6.out.still HR.out hgrow9; clear hown9 hgrow9 hat9 hlt9)
          go_roundg (n - (k2 + 1))
          case measure => omega
          case rel => exact ⟨k2 + 1, _, rfl, rfl, by omega, P9.out, by have h9 := MB.out.step (r := ⟨.slice a1 rn c1, rn, rx⟩) (by rw [HZ.out]; exact HR.out) (.slice (some ⟨gg, 0, none⟩) (rn + 1) cp); rw [HZ.out] at h9; exact h9⟩
        · have hkn' : ¬ (k2 : Int) < (n : Int) := by omega
          have hk3 : k2 = n := by omega
          subst hk3
          have oB := own_belowR OB.out LM.out.bel (by rw [HGM.out]; exact Nat.le_refl _)
          obtain ⟨ab, cb, hub, -, -⟩ := own_slice oB
          subst hub
          have hlB := own_liesP oB
          have LB := hidH hlB
          have hbl2 : bs.length ≤ 8796093022208 := by omega
          have BR : Hid (∀ p ∈ bs, (0 ≤ p.a ∧ p.a < (k2 : Int)) ∧ (0 ≤ p.b ∧ p.b < (k2 : Int))) := by unfold Hid; rw [BS2.out]; exact LW.out.btw_rng
          have LS1 := hidH (listsR_any k2 cb ab bs wr hlB hn (by omega) BR.out)
          clear oB hlB OB
          go_upto_region 19 with (first
            | (go_at_call 18; (with_reducible refine LS1.out.mono ?_); clear LS1; rintro e z1 ⟨rfl, hb2, N2, hrN, hlN⟩; have HB2 := hidH hb2; have RN := hidH hrN; have LN2 := hidH hlN; have TU := hidH (turned_any ab cb bs z1 (LB.out.below hb2) hbl2); clear hb2 hrN hlN)
            | (go_at_call 19; (with_reducible refine TU.out.mono ?_); clear TU; rintro e z2 ⟨rfl, hb3, hli⟩; have HB3 := hidH (HB2.out.trans (hb3.mono HB2.out.size)); have RN2 := hidH (RN.out.below hb3); have LS2 := hidH (listsR_any k2 bs.length (some ⟨z1.heap.size, 0, none⟩) (bs.map swapP) z2 (.inr ⟨_, _, rfl, hli⟩) hn (by rw [List.length_map]; omega) (swap_rng BR.out)); rw [List.length_map] at LS2; have HZ2 := hidH hb3.size; clear hb3 hli HB2 RN)
            | (go_at_call 18; (with_reducible refine LS2.out.mono ?_); clear LS2; rintro e z3 ⟨rfl, hb4, D2, hrD, hlD⟩; have HB4 := hidH (HB3.out.trans (hb4.mono HB3.out.size)); have LU := hidH (lineUp_any _ _ k2 N2 D2 z3 ((RN2.out.below (hb4.mono HZ2.out)).up (Nat.le_trans HZ2.out hb4.size)) hrD (LN2.out.bth hlD (trn_swap bs) BR.out) hn); clear hb4 hrD hlD HB3 RN2 HZ2)
            | (go_at_call 20; (with_reducible refine LU.out.mono ?_); clear LU; rintro e z4 ⟨O, os, rfl, hoO, hb5, hln⟩; have HB6 := hidH (HB4.out.trans (hb5.mono HB4.out.size)); have OO := hidH hoO; have LNN := hidH hln; clear hoO hb5 hln HB4))
          obtain ⟨aO, cO, hOv, haO, -⟩ := own_slice OO.out
          subst hOv
          obtain ⟨wB, hwB'⟩ : ∃ wB, wB = wr := ⟨wr, rfl⟩
          subst hwB'
          obtain ⟨Z, hZ⟩ : ∃ Z, z4.heap.size = Z := ⟨_, rfl⟩
          have HZ := hidH hZ
          have hos := nodup_le LNN.out.nod LNN.out.rng
          clear hZ
          go_wp2
          go_loopg [16, 87] os.length (fun gk s16 s87 wq => ∃ (k3 : Nat), gk = os.length - k3 ∧ s87 = .int .i64 (k3 : Int) ∧ k3 ≤ os.length ∧ wq.ownsRow Z 32 1 s16 (mvs lw rs (os.take k3)).length (mvs lw rs (os.take k3)) ∧ Below Z z4 wq)
          case atStart => exact ⟨0, rfl, rfl, Nat.zero_le _, World.ownsRow_nil _ _ _ _, Below.refl _ _⟩
          case round =>
            obtain ⟨k3, hgk, rfl, hk3, hO3, hE3⟩ := hrel
            have O3 := hidH hO3
            have E3 := hidH hE3
            have hml : (mvs lw rs (os.take k3)).length ≤ 131072 := by unfold mvs; rw [List.length_map]; exact Nat.le_trans (List.length_filter_le _ _) (by rw [List.length_take]; omega)
            clear hO3 hE3
            by_cases hko : k3 < os.length
            · have hko' : (k3 : Int) < (os.length : Int) := by omega
              obtain ⟨gO, rfl⟩ := haO (by omega)
              obtain ⟨x0', hx0'⟩ : ∃ y, os[k3]? = some y := ⟨_, List.getElem?_eq_getElem hko⟩
              have hxr := LNN.out.rng x0' (List.mem_of_getElem? hx0')
              obtain ⟨x, rfl⟩ : ∃ x : Nat, x0' = (x : Int) := ⟨x0'.toNat, by omega⟩
              have hxk : x < k2 := by omega
              have hxk' : (x : Int) < (k2 : Int) := by omega
              have HX := hidH hx0'
              have hgOlt := (OO.out.lt gO rfl).2
              have cO' := (E3.out.cell (p := ⟨gO, k3, none⟩) (by show gO < Z; have := HZ.out; omega)).trans (row_cell OO.out hx0').1
              obtain ⟨rfl, hr1⟩ := RL.out (by omega)
              have hs1 := LM.out.base
              have hs2 := HB6.out.size
              have hs3 := HGM.out
              have hs4 := HZ.out
              have hall : Below B4 w4 wr := ((HE.out.trans (LM.out.bel.mono (by omega))).trans (HB6.out.mono (by omega))).trans (E3.out.mono (by omega))
              have cx := (hr1.below hall).2 x hxk
              obtain ⟨r, hr⟩ : ∃ r, rs[x]? = some r := ⟨_, List.getElem?_eq_getElem (by rw [LM.out.len]; exact hxk)⟩
              have HR := hidH hr
              obtain ⟨a1, c1, hv1, -, -⟩ := own_slice (LM.out.she.get hr)
              have hgMlt := (LM.out.she.outV.lt gM rfl).2
              have cM := (E3.out.cell (p := ⟨gM, x, none⟩) (by show gM < Z; omega)).trans ((HB6.out.cell (p := ⟨gM, x, none⟩) hgMlt).trans (LM.out.cell hr).1)
              rw [hv1] at cM
              have HV1 := hidH hv1
              obtain ⟨u, hu⟩ : ∃ u, lw x = u := ⟨_, rfl⟩
              rw [hu] at cx
              have HU := hidH hu
              have hwZ : Z ≤ wr.heap.size := by have := E3.out.size; omega
              have kk : IntKind.i64.wrap ((k3 : Int) + 1) = ((k3 + 1 : Nat) : Int) := by rw [IntWalk.i64_in _ ⟨by omega, by omega⟩]; omega
              obtain ⟨xs, hxs⟩ : ∃ xs, mvs lw rs (os.take k3) = xs := ⟨_, rfl⟩
              rw [hxs] at O3 hml
              have HXS := hidH hxs
              clear hx0' hxr hgOlt hr1 hall hr hv1 hgMlt hu hs1 hs2 hs3 hs4 hxs
              by_cases hux : u = x
              · subst hux
                obtain ⟨w6, e6, hb6, hs6, X6⟩ := bx1 wr #[.slice a1 r.n c1] 32
                have NA : Hid (∀ j y, [Value.slice a1 r.n c1][j]? = some y → w6.cell? ((⟨wr.heap.size, 0, none⟩ : Addr).add j) = some y) := by unfold Hid; rw [← e6]; exact cells_newH wr [Value.slice a1 r.n c1] 32
                have HEA := hidH e6
                have HSA := hidH hs6
                have OA := hidH (own_belowR O3.out hb6 (Nat.le_refl _))
                have EA := hidH (E3.out.trans (hb6.mono hwZ))
                have hw6 : Z ≤ w6.heap.size := by omega
                clear e6 hb6 hs6 X6
                go_wp2_with (at_builtin; rw [HEA.out]; refine wpList_append_lies _ rfl _ _ 26 rfl Z 32 j0 (.slice none 0 0) 1 24 Tryz.underlying26 hj0 hy0 hy1 hy2 rfl (by decide) _ xs.length xs rfl OA.out ⟨wr.heap.size, 0, none⟩ 1 1 [Value.slice a1 r.n c1] rfl rfl NA.out (by intro y hy; simp at hy; subst hy; rfl) (by decide) (by unfold maxLen; omega) (by omega) hw6 (wr.heap.size + 1) HSA.out ?_; intro gg cp w9 hown9 hgrow9 hat9 hlt9; have O9 : Hid (w9.ownsRow Z 32 1 (.slice (some ⟨gg, 0, none⟩) (xs.length + 1) cp) (xs ++ [Value.slice a1 r.n c1]).length (xs ++ [Value.slice a1 r.n c1])) := (by unfold Hid; rw [List.length_append]; exact hown9); have E9 := hidH (EA.out.grown hgrow9 hw6 (fun g e => (OA.out.lt g e).1)); clear hown9 hgrow9 hat9 hlt9)
                go_roundg (os.length - (k3 + 1))
                case measure => omega
                case rel => exact ⟨k3 + 1, rfl, rfl, by omega, by rw [mvs_take HX.out HR.out, HXS.out, if_pos HU.out, HV1.out]; exact O9.out, E9.out⟩
              · have hux' : ((u : Int) == (x : Int)) = false := by rw [beq_eq_false_iff_ne]; omega
                have hux2 : ¬ (u : Int) = (x : Int) := by omega
                go_wp2
                go_roundg (os.length - (k3 + 1))
                case measure => omega
                case rel => exact ⟨k3 + 1, rfl, rfl, by omega, by rw [mvs_take HX.out HR.out, HXS.out, if_neg (by rw [HU.out]; exact hux), List.append_nil]; exact O3.out, E3.out⟩
            · have hko' : ¬ (k3 : Int) < (os.length : Int) := by omega
              have hk4 : k3 = os.length := by omega
              subst hk4
              go_wp2
              go_ret2
              have hs1 := LM.out.base
              have hs2 := HB6.out.size
              have hs3 := HGM.out
              have hs4 := HZ.out
              have hs5 := HB5.out.size
              have hs6 := H4.out
              have hBg : Below w.heap.size w wr := (((HB5.out.trans (HE.out.mono (by omega))).trans (LM.out.bel.mono (by omega))).trans (HB6.out.mono (by omega))).trans (E3.out.mono (by omega))
              have hBw : Below wB.heap.size wB wr := HB6.out.trans (E3.out.mono (by omega))
              have O4 := O3.out
              rw [List.take_length] at O4
              refine ⟨_, rfl, hBg, lw, LW.out, N2, by rw [← BS2.out]; exact LN2.out, os, LNN.out, rv_of (by omega) LM.out MB.out hBw LNN.out.rng (own_lower O4 (by omega))⟩
end Go.Proofs.YtgijcbipnjmhgabGreat
