import Derived.Test.YtphejjghgalkpaaGreatDoorKt6
import Derived.Test.YtphejjghgalkpaaGreatDoorRs8
namespace Go.Proofs.YtphejjghgalkpaaGreatDoor
open Go.ChangeShapes Go.WideShapes Go.ChangeAt Go.RowKit Go.Maps Go.WideMaps
set_option linter.unusedVariables false
set_option linter.unusedSimpArgs false

theorem rcut_lenK (s : ByteArray) (hs : s.size ≤ 4194304) : (rcut s).ls.length ≤ 8388608 := by
  unfold rcut
  split
  · have h1 := wau_len s (cut s 0).1
    have h2 := (cut_all s s.size 0 (by omega)).2
    simp only
    omega
  · simp
theorem rsc_lenK (s : ByteArray) (xs : List Tk) (ef et : Int) (n : ByteArray) (hs : s.size ≤ 1048576) (hn : n.size ≤ 1048576) : (rsc s xs ef et n).ls.length ≤ 8388608 := by
  unfold rsc
  split
  · simp
  · split
    · simp
    · rename_i h1 h2
      refine rcut_lenK _ ?_
      rw [edE_size _ _ _ _ (by omega) (by omega)]
      omega
theorem scan_cut (s : ByteArray) (hs : s.size ≤ 4294967280) (w : World) (hS : Spl w) (hT : Lt w) (hM : MaxL w) :
    Calls Tryz.prog 11 #[.string s] w fun e w' => ∃ a c, e = .returned (.tuple #[.slice a (rcut s).ls.length c, .agg #[.int .i64 ((rcut s).y : Int), .int .i64 0, .int .i64 ((rcut s).z : Int)]]) ∧ w'.ownsRow w.heap.size 39 3 (.slice a (rcut s).ls.length c) (rcut s).ls.length (flat (rcut s).ls) ∧ Below w.heap.size w w' := by
  refine (Scan_any s hs w hS hT hM).mono fun e w' h => ?_
  unfold SnE at h
  unfold rcut
  obtain ⟨hb, h⟩ := h
  cases hN : (cut s 0).2 with
  | none =>
    rw [hN] at h
    obtain ⟨v, rfl, ho⟩ := h
    obtain ⟨a, c, rfl, -, -⟩ := own_form' ho
    exact ⟨a, c, rfl, ho, hb⟩
  | some yz =>
    obtain ⟨y, z⟩ := yz
    rw [hN] at h
    exact ⟨none, 0, h, World.ownsRow_nil _ _ _ _, hb⟩
/-- the law's world: the edit, the shelf, the five texts -/
structure Kp (w0 : World) (ed five : Array Value) (V U : Value) (rs us : List Rr) (v : World) : Prop where
  bx : Bx v (w0.heap.size + 1) (bxAK V U) 49
  sh : She 39 22 3 (w0.heap.size + 3) v V U rs us
  ed : Bx v w0.heap.size ed 24
  fv : Bx v (w0.heap.size + 2) five 9
  bel : Below w0.heap.size w0 v
  sz : w0.heap.size + 3 ≤ v.heap.size
theorem Kp.below {w0 v v' : World} {ed five : Array Value} {V U : Value} {rs us : List Rr} (h : Kp w0 ed five V U rs us v) (hb : Below v.heap.size v v') : Kp w0 ed five V U rs us v' :=
  ⟨h.bx.below hb h.bx.lt, h.sh.below hb, h.ed.below hb h.ed.lt, h.fv.below hb h.fv.lt, h.bel.trans (hb.mono h.bel.size), Nat.le_trans h.sz hb.size⟩
theorem put_tok {w0 v : World} {ed five : Array Value} {V U : Value} {rs us : List Rr} (k : Kp w0 ed five V U rs us v) {x : Value} {E : List Tk} (hL : v.ownsRow (w0.heap.size + 3) 39 3 x E.length (flat E)) (hap : ∀ q ∈ rs ++ us, ApR q ⟨x, E.length, flat E⟩) (hE : E.length ≤ 8388608) (hrs : rs.length ≤ 1000) (hus : us.length ≤ 1000) :
    Calls Tryz.prog 13 #[.pointer (some ⟨w0.heap.size + 1, 0, none⟩), x] v fun e w' => (∃ y, e = .returned y) ∧ ∃ V' U' u, Kp w0 ed five V' U' (rs ++ [⟨x, E.length, flat E⟩]) (us ++ [u]) w' ∧ u.n = E.length ∧ u.xs = flat E ∧ (∀ g, u.v.ownBlock = some g → v.heap.size ≤ g) ∧ v.heap.size ≤ w'.heap.size ∧ (∀ (y : Value) (n : Nat) (xs : List Value), v.ownsRow (w0.heap.size + 3) 39 3 y n xs → w'.ownsRow (w0.heap.size + 3) 39 3 y n xs) := by
  refine (shelfEdits_anyK (w0.heap.size + 1) (w0.heap.size + 3) v V U rs us ⟨x, E.length, flat E⟩ k.bx k.sh hL hap (by omega) k.sz (flat_oneCell E) (by simp only; omega) hrs hus).mono ?_
  rintro e w' ⟨he, V', U', u, h1, h2, h3, h4, h5, h6⟩
  have hVb : ∀ g, V.ownBlock = some g → w0.heap.size + 3 ≤ g := fun g hg => (k.sh.outV.lt g hg).1
  have hUb : ∀ g, U.ownBlock = some g → w0.heap.size + 3 ≤ g := fun g hg => (k.sh.outU.lt g hg).1
  refine ⟨he, V', U', u, ⟨h1, h2, k.ed.below (h6.bel.mono (Nat.le_refl _)) (by omega), ?_, k.bel.trans (h6.bel.mono (by omega)), Nat.le_trans k.sz h6.bel.size⟩, h3, h4, h5, h6.bel.size, fun y n xs hy => own_lift hy fun g hg => ?_⟩
  · exact (h6.keep (w0.heap.size + 2) k.fv.lt (by omega) (fun e => by have := hVb _ e; omega) (fun e => by have := hUb _ e; omega)).trans k.fv
  · have hgl := hy.lt g hg
    exact h6.keep g hgl.2 (by omega) (own_otherR k.sh.outV hy (by decide) hg) (own_otherR k.sh.outU hy (by decide) hg)
theorem StiK.snoc {rs us : List Rr} {r u : Rr} {E : List Tk} (h : StiK rs us) (h1 : r.n = E.length) (h2 : r.xs = flat E) (h3 : u.n = E.length) (h4 : u.xs = flat E) (h5 : E.length ≤ 8388608) : StiK (rs ++ [r]) (us ++ [u]) := by
  refine ⟨by simp [h.1], fun i r' u' hr hu => ?_⟩
  by_cases hi : i < rs.length
  · rw [List.getElem?_append_left hi] at hr
    rw [List.getElem?_append_left (by have := h.1; omega)] at hu
    exact h.2 i r' u' hr hu
  · have hil : i = rs.length := by
      have := (List.getElem?_eq_some_iff.1 hr).1
      simp at this
      omega
    subst hil
    rw [List.getElem?_append_right (Nat.le_refl _), Nat.sub_self] at hr
    rw [List.getElem?_append_right (by have := h.1; omega), h.1, Nat.sub_self] at hu
    cases hr
    cases hu
    exact ⟨E, h1, h2, h3, h4, by omega⟩
theorem own_lies {w : World} {B : Nat} {a : Option Addr} {c : Nat} {L : List Tk} (h : w.ownsRow B 39 3 (.slice a L.length c) L.length (flat L)) : LiesA w a L := by
  obtain ⟨a', c', e, h1, -⟩ := own_form' h
  cases e
  exact h1
set_option maxRecDepth 1000000 in
set_option maxHeartbeats 16000000 in
theorem lexerKeeps_walk (sa sb : ByteArray) (ef et : Int) (n : ByteArray) (hB : sa.size + sb.size + n.size ≤ 1048576) (w : World) (hS : Spl w) (hT : Lt w) (hM : MaxL w) :
    Calls Tryz.prog 4 #[.string sa, .string sb, .agg #[.int .i64 ef, .int .i64 et, .string n]] w fun e w' => e = .returned (.bool true) ∧ Below w.heap.size w w' := by
  obtain ⟨w3, e3⟩ : ∃ w3, ((w.alloc (.cells #[.int .i64 ef, .int .i64 et, .string n] 24)).alloc (.cells #[.slice none 0 0, .slice none 0 0, .slice none 0 0, .slice none 0 0, .slice none 0 0, .slice none 0 0, .slice none 0 0, .slice none 0 0, .slice none 0 0, .slice none 0 0, .slice none 0 0, .slice none 0 0] 49)).alloc (.cells #[.string sa, .string sb, .string sa, .string sb, .string sa] 9) = w3 := ⟨_, rfl⟩
  have HE3 : Hid (((w.alloc (.cells #[.int .i64 ef, .int .i64 et, .string n] 24)).alloc (.cells #[.slice none 0 0, .slice none 0 0, .slice none 0 0, .slice none 0 0, .slice none 0 0, .slice none 0 0, .slice none 0 0, .slice none 0 0, .slice none 0 0, .slice none 0 0, .slice none 0 0, .slice none 0 0] 49)).alloc (.cells #[.string sa, .string sb, .string sa, .string sb, .string sa] 9) = w3) := e3
  have K3 : Hid (Kp w #[.int .i64 ef, .int .i64 et, .string n] #[.string sa, .string sb, .string sa, .string sb, .string sa] (.slice none 0 0) (.slice none 0 0) [] [] w3) := by
    unfold Hid
    rw [← e3]
    refine ⟨?_, She.nil _ _ _ _ _, ((Bx.new _ _ _).alloc _).alloc _, ?_, ((((Below.refl _ w).alloc (Nat.le_refl _) _).alloc (by simp) _).alloc (by simp; omega) _), by simp⟩
    · have := (Bx.new (w.alloc (.cells #[.int .i64 ef, .int .i64 et, .string n] 24)) #[.slice none 0 0, .slice none 0 0, .slice none 0 0, .slice none 0 0, .slice none 0 0, .slice none 0 0, .slice none 0 0, .slice none 0 0, .slice none 0 0, .slice none 0 0, .slice none 0 0, .slice none 0 0] 49).alloc (.cells #[.string sa, .string sb, .string sa, .string sb, .string sa] 9)
      simp only [World.size_alloc] at this
      exact this
    · have := Bx.new ((w.alloc (.cells #[.int .i64 ef, .int .i64 et, .string n] 24)).alloc (.cells #[.slice none 0 0, .slice none 0 0, .slice none 0 0, .slice none 0 0, .slice none 0 0, .slice none 0 0, .slice none 0 0, .slice none 0 0, .slice none 0 0, .slice none 0 0, .slice none 0 0, .slice none 0 0] 49)) #[.string sa, .string sb, .string sa, .string sb, .string sa] 9
      simpa using this
  have HSC : Hid (∀ s v, s.size ≤ 1048576 → Below w.heap.size w v → Calls Tryz.prog 11 #[.string s] v fun e w' => ∃ a c, e = .returned (.tuple #[.slice a (rcut s).ls.length c, .agg #[.int .i64 ((rcut s).y : Int), .int .i64 0, .int .i64 ((rcut s).z : Int)]]) ∧ w'.ownsRow v.heap.size 39 3 (.slice a (rcut s).ls.length c) (rcut s).ls.length (flat (rcut s).ls) ∧ Below v.heap.size v w') := fun s v h1 hv => scan_cut s (by omega) v (hS.below hv) (hT.below hv) (hM.below hv)
  have HRS : Hid (∀ s v, s.size ≤ 1048576 → Below w.heap.size w v → Calls Tryz.prog 12 #[.string s] v fun e w' => ∃ a c, e = .returned (.tuple #[.slice a (rcut s).ls.length c, .int .i64 ((rcut s).y : Int), .int .i64 ((rcut s).z : Int)]) ∧ w'.ownsRow v.heap.size 39 3 (.slice a (rcut s).ls.length c) (rcut s).ls.length (flat (rcut s).ls) ∧ Below v.heap.size v w') := fun s v h1 hv => rscan_cut s (by omega) v (hT.below hv)
  have HRE : Hid (∀ s v a c xs, s.size ≤ 1048576 → xs.length ≤ 8388608 → LiesA v a xs → Below w.heap.size w v → Calls Tryz.prog 7 #[.string s, .slice a xs.length c, .agg #[.int .i64 ef, .int .i64 et, .string n]] v fun e w' => ∃ a' c', e = .returned (.tuple #[.string (rsc s xs ef et n).tx, .slice a' (rsc s xs ef et n).ls.length c', .agg #[.int .i64 ((rsc s xs ef et n).y : Int), .int .i64 0, .int .i64 ((rsc s xs ef et n).z : Int)]]) ∧ w'.ownsRow v.heap.size 39 3 (.slice a' (rsc s xs ef et n).ls.length c') (rsc s xs ef et n).ls.length (flat (rsc s xs ef et n).ls) ∧ Below v.heap.size v w') := fun s v a c xs h1 h2 hl hv => rescan_all s a c xs ef et n (by omega) (by omega) (by omega) v hl (hS.below hv) (hT.below hv) (hM.below hv)
  have HRR : Hid (∀ s v a c xs, s.size ≤ 1048576 → xs.length ≤ 8388608 → LiesA v a xs → Below w.heap.size w v → Calls Tryz.prog 8 #[.string s, .slice a xs.length c, .agg #[.int .i64 ef, .int .i64 et, .string n]] v fun e w' => ∃ a' c', e = .returned (.tuple #[.string (rsc s xs ef et n).tx, .slice a' (rsc s xs ef et n).ls.length c', .int .i64 ((rsc s xs ef et n).y : Int), .int .i64 ((rsc s xs ef et n).z : Int)]) ∧ w'.ownsRow v.heap.size 39 3 (.slice a' (rsc s xs ef et n).ls.length c') (rsc s xs ef et n).ls.length (flat (rsc s xs ef et n).ls) ∧ Below v.heap.size v w') := fun s v a c xs h1 h2 hl hv => rRescan_any s a c xs ef et n (by omega) (by omega) (by omega) v hl (hT.below hv)
  clear e3 hS hT hM
  go_enter Tryz.func4, Tryz.ntmps4
  go_wp2
  rw [HE3.out]
  go_loopw [38] (fun si wr => ∃ (i : Nat) (V U : Value) (rs us : List Rr), i ≤ 5 ∧ si = .int .i64 (i : Int) ∧ Kp w #[.int .i64 ef, .int .i64 et, .string n] #[.string sa, .string sb, .string sa, .string sb, .string sa] V U rs us wr ∧ StiK rs us ∧ rs.length = 2 * i) (fun si _ => 5 - (intOf si).toNat)
  case atStart => exact ⟨0, _, _, [], [], by omega, rfl, K3.out, ⟨rfl, fun i r u h => by simp at h⟩, rfl⟩
  case round =>
    obtain ⟨i, V, U, rs, us, hi5, rfl, hK, hst, hrl⟩ := hrel
    have KR : Hid (Kp w #[.int .i64 ef, .int .i64 et, .string n] #[.string sa, .string sb, .string sa, .string sb, .string sa] V U rs us wr) := hK
    have HST : Hid (StiK rs us) := hst
    have HRL : Hid (rs.length = 2 * i ∧ us.length = 2 * i) := ⟨hrl, by have := hst.1; omega⟩
    clear hK hst hrl K3
    by_cases hlt : i < 5
    · have hlt' : (i : Int) < 5 := by omega
      obtain ⟨tx, htx, hsz⟩ : ∃ tx : ByteArray, wr.cell? ⟨w.heap.size + 2, i, none⟩ = some (.string tx) ∧ tx.size ≤ 1048576 := by
        have h := KR.out.fv.cell i
        match i, hlt with
        | 0, _ => exact ⟨sa, h, by omega⟩
        | 1, _ => exact ⟨sb, h, by omega⟩
        | 2, _ => exact ⟨sa, h, by omega⟩
        | 3, _ => exact ⟨sb, h, by omega⟩
        | 4, _ => exact ⟨sa, h, by omega⟩
      have hf9 := KR.out.fv.lt
      have hlL := rcut_lenK tx (by omega)
      have hlN := rsc_lenK tx (rcut tx).ls ef et n hsz (by omega)
      have hsc := HSC.out tx wr hsz KR.out.bel
      have hrs := fun v hv => HRS.out tx v hsz hv
      have hre := fun v a c hl hv => HRE.out tx v a c (rcut tx).ls hsz hlL hl hv
      have hrr := fun v a c hl hv => HRR.out tx v a c (rcut tx).ls hsz hlL hl hv
      generalize (rsc tx (rcut tx).ls ef et n).ls = N at hlN hre hrr
      generalize (rsc tx (rcut tx).ls ef et n).tx = NT at hre hrr
      generalize (rsc tx (rcut tx).ls ef et n).y = NY at hre hrr
      generalize (rsc tx (rcut tx).ls ef et n).z = NZ at hre hrr
      generalize (rcut tx).ls = L at hlL hsc hrs hre hrr
      generalize (rcut tx).y = Y at hsc hrs
      generalize (rcut tx).z = Z at hsc hrs
      have H1 := hidI hsc
      have H2 := hidI hrs
      have H3 := hidI hre
      have H4 := hidI hrr
      clear hsc hrs hre hrr
      go_wp2_with (first
        | (go_at_call 11; (with_reducible refine H1.out.mono ?_); rintro e w4 ⟨a4, c4, rfl, ho4, hb4⟩; have HO4 := hidI ho4; have HB4 := hidI hb4; have K4 : Hid (Kp w #[.int .i64 ef, .int .i64 et, .string n] #[.string sa, .string sb, .string sa, .string sb, .string sa] V U rs us (w4.alloc (.cells #[.int .i64 (Y : Int), .int .i64 0, .int .i64 (Z : Int)] 31))) := (KR.out.below hb4).below ((Below.refl _ _).alloc (Nat.le_refl _) _); clear ho4 hb4)
        | (go_at_call 12; (with_reducible refine (H2.out _ K4.out.bel).mono ?_); rintro e w6 ⟨a6, c6, rfl, ho6, hb6⟩; have HO6 := hidI ho6; have K6 : Hid (Kp w #[.int .i64 ef, .int .i64 et, .string n] #[.string sa, .string sb, .string sa, .string sb, .string sa] V U rs us w6) := K4.out.below hb6; have P6 : Bx w6 w4.heap.size #[.int .i64 (Y : Int), .int .i64 0, .int .i64 (Z : Int)] 31 := (Bx.new _ _ _).below hb6 (by simp); have p0 : w6.cell? ⟨w4.heap.size, 0, none⟩ = some (.int .i64 (Y : Int)) := P6.cell 0; have p9 := P6.lt; have HL6 : Hid (w6.ownsRow wr.heap.size 39 3 (.slice a4 L.length c4) L.length (flat L)) := ownsRow_below (HO4.out.alloc _) hb6 (Nat.le_refl _); clear ho6 hb6 P6)
        | (go_at_call 10; (with_reducible refine (same_tokens a4 a6 c4 c6 L w6 (own_lies HL6.out) (own_lies HO6.out) (by unfold maxLen; omega)).mono ?_); rintro e w7 ⟨rfl, hb7⟩; have K7 : Hid (Kp w #[.int .i64 ef, .int .i64 et, .string n] #[.string sa, .string sb, .string sa, .string sb, .string sa] V U rs us w7) := K6.out.below hb7; have HL7 : Hid (w7.ownsRow wr.heap.size 39 3 (.slice a4 L.length c4) L.length (flat L)) := ownsRow_below HL6.out hb7 (Nat.le_refl _); have HM7 : Hid (LiesA w7 a6 L) := (own_lies HO6.out).below hb7; have q0 : w7.cell? ⟨w.heap.size, 0, none⟩ = some (.int .i64 ef) := K7.out.ed.cell 0; have q1 : w7.cell? ⟨w.heap.size, 1, none⟩ = some (.int .i64 et) := K7.out.ed.cell 1; have q2 : w7.cell? ⟨w.heap.size, 2, none⟩ = some (.string n) := K7.out.ed.cell 2;  have q9 := K7.out.ed.lt; have ZZ : Hid (wr.heap.size ≤ w7.heap.size) := (by unfold Hid; rcases Nat.lt_or_ge w7.heap.size wr.heap.size with h | h; exact absurd (Nat.le_trans HB4.out.size (Nat.le_trans (Nat.le_of_lt p9) hb7.size)) (by omega); exact h); clear hb7)
        | (go_at_call 7; (with_reducible refine (H3.out w7 a4 c4 (own_lies HL7.out) K7.out.bel).mono ?_); rintro e w8 ⟨a8, c8, rfl, ho8, hb8⟩; have HO8 := hidI ho8; have K9 : Hid (Kp w #[.int .i64 ef, .int .i64 et, .string n] #[.string sa, .string sb, .string sa, .string sb, .string sa] V U rs us (w8.alloc (.cells #[.int .i64 (NY : Int), .int .i64 0, .int .i64 (NZ : Int)] 31))) := (K7.out.below hb8).below ((Below.refl _ _).alloc (Nat.le_refl _) _); have HL9 : Hid ((w8.alloc (.cells #[.int .i64 (NY : Int), .int .i64 0, .int .i64 (NZ : Int)] 31)).ownsRow wr.heap.size 39 3 (.slice a4 L.length c4) L.length (flat L)) := (ownsRow_below HL7.out hb8 (Nat.le_refl _)).alloc _; have HM9 : Hid (LiesA (w8.alloc (.cells #[.int .i64 (NY : Int), .int .i64 0, .int .i64 (NZ : Int)] 31)) a6 L) := (HM7.out.below hb8).below ((Below.refl _ _).alloc (Nat.le_refl _) _); have HZ8 : Hid (w7.heap.size ≤ w8.heap.size) := hb8.size; have r0 : (w8.alloc (.cells #[.int .i64 (NY : Int), .int .i64 0, .int .i64 (NZ : Int)] 31)).cell? ⟨w.heap.size, 0, none⟩ = some (.int .i64 ef) := K9.out.ed.cell 0; have r1 : (w8.alloc (.cells #[.int .i64 (NY : Int), .int .i64 0, .int .i64 (NZ : Int)] 31)).cell? ⟨w.heap.size, 1, none⟩ = some (.int .i64 et) := K9.out.ed.cell 1; have r2 : (w8.alloc (.cells #[.int .i64 (NY : Int), .int .i64 0, .int .i64 (NZ : Int)] 31)).cell? ⟨w.heap.size, 2, none⟩ = some (.string n) := K9.out.ed.cell 2;  have r9 := K9.out.ed.lt; clear ho8 hb8)
        | (go_at_call 8; (with_reducible refine (H4.out _ a6 c6 HM9.out K9.out.bel).mono ?_); rintro e w10 ⟨a10, c10, rfl, ho10, hb10⟩; have HO10 := hidI ho10; have K10 : Hid (Kp w #[.int .i64 ef, .int .i64 et, .string n] #[.string sa, .string sb, .string sa, .string sb, .string sa] V U rs us w10) := K9.out.below hb10; have HL10 : Hid (w10.ownsRow wr.heap.size 39 3 (.slice a4 L.length c4) L.length (flat L)) := ownsRow_below HL9.out hb10 (Nat.le_refl _); have HM10 : Hid (LiesA w10 a6 L) := HM9.out.below hb10; have HN10 : Hid (w10.ownsRow w7.heap.size 39 3 (.slice a8 N.length c8) N.length (flat N)) := ownsRow_below (HO8.out.alloc _) hb10 (Nat.le_refl _); clear ho10 hb10)
        | (go_at_call 10; (with_reducible refine (same_tokens a8 a10 c8 c10 N w10 (own_lies HN10.out) (own_lies HO10.out) (by unfold maxLen; omega)).mono ?_); rintro e w11 ⟨rfl, hb11⟩; have K11 : Hid (Kp w #[.int .i64 ef, .int .i64 et, .string n] #[.string sa, .string sb, .string sa, .string sb, .string sa] V U rs us w11) := K10.out.below hb11; have HL11 : Hid (w11.ownsRow wr.heap.size 39 3 (.slice a4 L.length c4) L.length (flat L)) := ownsRow_below HL10.out hb11 (Nat.le_refl _); have HM11 : Hid (LiesA w11 a6 L) := HM10.out.below hb11; have HN11 : Hid (w11.ownsRow w7.heap.size 39 3 (.slice a8 N.length c8) N.length (flat N)) := ownsRow_below HN10.out hb11 (Nat.le_refl _); clear hb11)
        | (go_at_call 10; (with_reducible refine (same_tokens a4 a6 c4 c6 L w11 (own_lies HL11.out) HM11.out (by unfold maxLen; omega)).mono ?_); rintro e w12 ⟨rfl, hb12⟩; have K12 : Hid (Kp w #[.int .i64 ef, .int .i64 et, .string n] #[.string sa, .string sb, .string sa, .string sb, .string sa] V U rs us w12) := K11.out.below hb12; have HL12 : Hid (w12.ownsRow wr.heap.size 39 3 (.slice a4 L.length c4) L.length (flat L)) := ownsRow_below HL11.out hb12 (Nat.le_refl _); have HN12 : Hid (w12.ownsRow w7.heap.size 39 3 (.slice a8 N.length c8) N.length (flat N)) := ownsRow_below HN11.out hb12 (Nat.le_refl _); have HT12 : Hid (∀ q ∈ rs ++ us, ApR q ⟨.slice a4 L.length c4, L.length, flat L⟩) := (fun q hq g hqg hLg => by have h1 := ((KR.out.sh.each q hq).lt g hqg).2; have h2 := (HL12.out.lt g hLg).1; omega); clear hb12)
        | (go_at_call 13; (with_reducible refine (put_tok K12.out (own_lower HL12.out KR.out.sz) HT12.out hlL (by have := HRL.out.1; omega) (by have := HRL.out.2; omega)).mono ?_); rintro e w13 ⟨⟨x13, rfl⟩, V13, U13, u13, hk13, hn13, hx13, hg13, hz13, hrow13⟩; have K13 : Hid (Kp w #[.int .i64 ef, .int .i64 et, .string n] #[.string sa, .string sb, .string sa, .string sb, .string sa] V13 U13 (rs ++ [⟨.slice a4 L.length c4, L.length, flat L⟩]) (us ++ [u13]) w13) := hk13; have HU13 : Hid (u13.n = L.length ∧ u13.xs = flat L) := ⟨hn13, hx13⟩; have HN13 : Hid (w13.ownsRow (w.heap.size + 3) 39 3 (.slice a8 N.length c8) N.length (flat N)) := hrow13 _ _ _ (own_lower HN12.out (by have := K7.out.sz; omega)); have HT13 : Hid (∀ q ∈ (rs ++ [⟨.slice a4 L.length c4, L.length, flat L⟩]) ++ (us ++ [u13]), ApR q ⟨.slice a8 N.length c8, N.length, flat N⟩) := (fun q hq g hqg hNg => by have h2 : w7.heap.size ≤ g := (HN12.out.lt g hNg).1; have h3 : g < w12.heap.size := (HN12.out.lt g hNg).2; have h4 : wr.heap.size ≤ w7.heap.size := ZZ.out; rcases List.mem_append.1 hq with hq | hq; rcases List.mem_append.1 hq with hq | hq; exact absurd ((KR.out.sh.each q (List.mem_append_left _ hq)).lt g hqg).2 (by omega); rw [List.mem_singleton] at hq; subst hq; exact absurd (HL7.out.lt g hqg).2 (by omega); rcases List.mem_append.1 hq with hq | hq; exact absurd ((KR.out.sh.each q (List.mem_append_right _ hq)).lt g hqg).2 (by omega); rw [List.mem_singleton] at hq; subst hq; exact absurd (hg13 g hqg) (by omega)); have HS13 : Hid (StiK (rs ++ [⟨.slice a4 L.length c4, L.length, flat L⟩]) (us ++ [u13])) := HST.out.snoc rfl rfl hn13 hx13 hlL; clear hk13 hn13 hx13 hg13 hz13 hrow13)
        | (go_at_call 13; (with_reducible refine (put_tok K13.out HN13.out HT13.out hlN (by have := HRL.out.1; simp; omega) (by have := HRL.out.2; simp; omega)).mono ?_); rintro e w14 ⟨⟨x14, rfl⟩, V14, U14, u14, hk14, hn14, hx14, hg14, hz14, hrow14⟩; have K14 : Hid (Kp w #[.int .i64 ef, .int .i64 et, .string n] #[.string sa, .string sb, .string sa, .string sb, .string sa] V14 U14 ((rs ++ [⟨.slice a4 L.length c4, L.length, flat L⟩]) ++ [⟨.slice a8 N.length c8, N.length, flat N⟩]) ((us ++ [u13]) ++ [u14]) w14) := hk14; have HS14 : Hid (StiK ((rs ++ [⟨.slice a4 L.length c4, L.length, flat L⟩]) ++ [⟨.slice a8 N.length c8, N.length, flat N⟩]) ((us ++ [u13]) ++ [u14])) := HS13.out.snoc rfl rfl hn14 hx14 hlN; clear hk14 hn14 hx14 hg14 hz14 hrow14))
      exact ⟨⟨i + 1, V14, U14, _, _, by omega, by go_num, K14.out, HS14.out, by have := HRL.out.1; simp; omega⟩, by simp [intOf]; omega⟩
    · have hge : ¬ (i : Int) < 5 := by omega
      have hlL := rcut_lenK sa (by omega)
      have hsc := fun v hv => HSC.out sa v (by omega) hv
      have hrs := fun v hv => HRS.out sa v (by omega) hv
      generalize (rcut sa).ls = L at hlL hsc hrs
      generalize (rcut sa).y = Y at hsc hrs
      generalize (rcut sa).z = Z at hsc hrs
      have H1 := hidI hsc
      have H2 := hidI hrs
      clear hsc hrs HSC HRS HRE HRR
      go_wp2_with (first
        | (go_at_call 11; (with_reducible refine (H1.out wr KR.out.bel).mono ?_); rintro e w4 ⟨a4, c4, rfl, ho4, hb4⟩; have HO4 := hidI ho4; have HZ4 : Hid (wr.heap.size ≤ w4.heap.size) := hb4.size; have K5 : Hid (Kp w #[.int .i64 ef, .int .i64 et, .string n] #[.string sa, .string sb, .string sa, .string sb, .string sa] V U rs us (w4.alloc (.cells #[.int .i64 (Y : Int), .int .i64 0, .int .i64 (Z : Int)] 31))) := (KR.out.below hb4).below ((Below.refl _ _).alloc (Nat.le_refl _) _); have X5 : Hid (ShX [⟨.slice a4 L.length c4, L.length, flat L⟩] (w.heap.size + 3) (w4.alloc (.cells #[.int .i64 (Y : Int), .int .i64 0, .int .i64 (Z : Int)] 31)) V U rs us) := ⟨K5.out.sh, (fun x hx => by rw [List.mem_singleton] at hx; subst hx; exact (own_lower HO4.out KR.out.sz).alloc _), (fun x hx q hq g hqg hxg => by rw [List.mem_singleton] at hx; subst hx; have h1 := ((KR.out.sh.each q hq).lt g hqg).2; have h2 := (HO4.out.lt g hxg).1; omega)⟩; clear ho4 hb4)
        | (go_at_call 14; (with_reducible refine (own_anyK _ (w.heap.size + 1) (w.heap.size + 3) _ V U rs us K5.out.bx X5.out HST.out (by have := HRL.out.1; omega) (by omega) K5.out.sz).mono ?_); rintro e w6 ⟨rfl, hb6, hx6⟩; have HV6 : Hid (Below w.heap.size w w6) := K5.out.bel.trans (hb6.mono (by omega)); have HL6 : Hid (LiesA w6 a4 L) := own_lies (hx6 _ (List.mem_singleton.2 rfl)); clear hb6 hx6)
        | (go_at_call 12; (with_reducible refine (H2.out w6 HV6.out).mono ?_); rintro e w7 ⟨a7, c7, rfl, ho7, hb7⟩; have HV7 : Hid (Below w.heap.size w w7) := HV6.out.trans (hb7.mono HV6.out.size); have HL7 : Hid (LiesA w7 a4 L) := HL6.out.below hb7; have HM7 : Hid (LiesA w7 a7 L) := own_lies ho7; clear ho7 hb7)
        | (go_at_call 11; (with_reducible refine (H1.out w7 HV7.out).mono ?_); rintro e w8 ⟨a8, c8, rfl, ho8, hb8⟩; have hb9 : Below w7.heap.size w7 (w8.alloc (.cells #[.int .i64 (Y : Int), .int .i64 0, .int .i64 (Z : Int)] 31)) := hb8.alloc hb8.size _; have HV9 : Hid (Below w.heap.size w (w8.alloc (.cells #[.int .i64 (Y : Int), .int .i64 0, .int .i64 (Z : Int)] 31))) := HV7.out.trans (hb9.mono HV7.out.size); have HL9 : Hid (LiesA (w8.alloc (.cells #[.int .i64 (Y : Int), .int .i64 0, .int .i64 (Z : Int)] 31)) a4 L) := HL7.out.below hb9; have HM9 : Hid (LiesA (w8.alloc (.cells #[.int .i64 (Y : Int), .int .i64 0, .int .i64 (Z : Int)] 31)) a7 L) := HM7.out.below hb9; have HN9 : Hid (LiesA (w8.alloc (.cells #[.int .i64 (Y : Int), .int .i64 0, .int .i64 (Z : Int)] 31)) a8 L) := (own_lies ho8).below ((Below.refl _ _).alloc (Nat.le_refl _) _); clear ho8 hb8 hb9)
        | (go_at_call 10; (with_reducible refine (same_tokens a4 a7 c4 c7 L _ HL9.out HM9.out (by unfold maxLen; omega)).mono ?_); rintro e w10 ⟨rfl, hb10⟩; have HV10 : Hid (Below w.heap.size w w10) := HV9.out.trans (hb10.mono HV9.out.size); have HM10 : Hid (LiesA w10 a7 L) := HM9.out.below hb10; have HN10 : Hid (LiesA w10 a8 L) := HN9.out.below hb10; clear hb10)
        | (go_at_call 10; (with_reducible refine (same_tokens a8 a7 c8 c7 L w10 HN10.out HM10.out (by unfold maxLen; omega)).mono ?_); rintro e w11 ⟨rfl, hb11⟩; have HV11 : Hid (Below w.heap.size w w11) := HV10.out.trans (hb11.mono HV10.out.size); clear hb11))
      go_ret
      exact ⟨rfl, HV11.out⟩
end Go.Proofs.YtphejjghgalkpaaGreatDoor
