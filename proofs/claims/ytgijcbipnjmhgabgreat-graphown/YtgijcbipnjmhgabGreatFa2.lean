import Derived.Test.YtgijcbipnjmhgabGreatCy1
import Derived.Test.YtgijcbipnjmhgabGreatPt2
import Derived.BigQuiet
namespace Go.Proofs.YtgijcbipnjmhgabGreat
open Go.ChangeShapes Go.WideShapes Go.ChangeAt Go.RowKit
set_option linter.unusedVariables false
set_option linter.unusedSimpArgs false

/-- numbers of all things, as a list -/
def fL (n : Nat) (F : Nat → Nat) : List Int := (List.range n).map fun y => (F y : Int)
theorem fL_len (n : Nat) (F : Nat → Nat) : (fL n F).length = n := by unfold fL; simp
theorem fL_get {n y : Nat} (F : Nat → Nat) (h : y < n) : (fL n F)[y]? = some (F y : Int) := by
  unfold fL
  rw [List.getElem?_map, List.getElem?_range h]
  rfl
theorem fL_ext {n : Nat} {l : List Int} {F : Nat → Nat} (hl : l.length = n) (h : ∀ y, y < n → l[y]? = some (F y : Int)) : l = fL n F := by
  refine List.ext_getElem? fun y => ?_
  by_cases hy : y < n
  · rw [h y hy, fL_get F hy]
  · rw [List.getElem?_eq_none (by omega), List.getElem?_eq_none (by rw [fL_len]; omega)]
theorem fL_set {n y v : Nat} (F : Nat → Nat) (h : y < n) : (fL n F).set y (v : Int) = fL n (fun z => if z = y then v else F z) := fL_ext (by rw [List.length_set, fL_len]) fun z hz => by
  rw [List.getElem?_set]
  by_cases e : y = z
  · subst e; rw [if_pos rfl, if_pos (by rw [fL_len]; exact h), if_pos rfl]
  · rw [if_neg e, fL_get F hz, if_neg (fun e2 => e e2.symm)]
theorem fL_congr {n : Nat} {F G : Nat → Nat} (h : ∀ y, y < n → F y = G y) : fL n F = fL n G := fL_ext (fL_len n F) fun y hy => by rw [fL_get F hy, h y hy]
theorem fL_rep (n v : Nat) : List.replicate n (v : Int) = fL n (fun _ => v) := fL_ext (by simp) fun y hy => by rw [List.getElem?_replicate, if_pos hy]
/-- a row of the call's own, made here of one thing -/
theorem own_one (B : Nat) (w : World) (v : Value) (t : TypeId) (hB : B ≤ w.heap.size) : (w.alloc (.cells #[v] t)).ownsRow B t 1 (.slice (some ⟨w.heap.size, 0, none⟩) 1 1) 1 [v] :=
  ⟨rfl, .inr ⟨w.heap.size, 1, #[v], rfl, hB, heap_alloc_new w _, Nat.le_refl _, by unfold maxLen; omega, rfl, rfl⟩⟩
abbrev qI (q : List Nat) : List Int := q.map fun (x : Nat) => (x : Int)
theorem qI_get {q : List Nat} {i x : Nat} (h : q[i]? = some x) : (qI q)[i]? = some (x : Int) := by rw [List.getElem?_map, h]; rfl
theorem Bq.weak {ps : List Pr} {n f i : Nat} {F : Nat → Nat} {q : List Nat} {dn dn' : Nat → Prop} (h : Bq ps n f F q i dn) (hd : ∀ z, dn' z → dn z) : Bq ps n f F q i dn' :=
  ⟨h.nod, h.rng, h.fst, h.zer, h.mkd, h.wy, h.srt, h.lea, h.top, h.old, fun x hx y hy => h.cur x hx y (hd y hy)⟩
theorem take_mem {l : List Int} {j : Nat} {y z : Int} (hy : l[j]? = some y) (hz : z ∈ l.take (j + 1)) : z ∈ l.take j ∨ z = y := by
  obtain ⟨h1, e1⟩ := List.getElem?_eq_some_iff.1 hy
  rw [List.take_succ_eq_append_getElem h1, List.mem_append, List.mem_singleton, e1] at hz
  exact hz
/-- farFrom's world: the distances, the queue -/
structure Fw (B n : Nat) (w : World) (V : Value) (F : Nat → Nat) (q : List Nat) : Prop where
  fr : w.ownsRow B 3 1 (.slice (some ⟨B, 0, none⟩) n n) n (flat (fL n F))
  nx : w.ownsRow B 3 1 V q.length (flat (qI q))
  ap : V.ownBlock ≠ some B
theorem Fw.below {B n : Nat} {w w' : World} {V : Value} {F : Nat → Nat} {q : List Nat} (h : Fw B n w V F q) (hb : Below w.heap.size w w') : Fw B n w' V F q :=
  ⟨own_belowR h.fr hb (Nat.le_refl _), own_belowR h.nx hb (Nat.le_refl _), h.ap⟩
theorem Fw.set {B n y : Nat} {w : World} {V : Value} {F : Nat → Nat} {q : List Nat} (h : Fw B n w V F q) (hy : y < n) (v : Nat) : Fw B n (w.setCell ⟨B, y, none⟩ (.int .i64 (v : Int))) V (fun z => if z = y then v else F z) q := by
  refine ⟨?_, ownsRow_setCell_other h.nx (a := ⟨B, y, none⟩) h.ap _, h.ap⟩
  have h1 := (World.ownsRow.stored h.fr y (.int .i64 (v : Int))).1
  rw [flat_setI, fL_set F hy] at h1
  exact h1
theorem Fw.push {B n y : Nat} {w w' : World} {V V' : Value} {F : Nat → Nat} {q : List Nat} (h : Fw B n w V F q) (ho : w'.ownsRow B 3 1 V' (q.length + 1) (flat (qI q) ++ [.int .i64 (y : Int)])) (hg : w.grownBy w' V.ownBlock) (hn : V'.ownBlock = V.ownBlock ∨ ∃ g, V'.ownBlock = some g ∧ w.heap.size ≤ g) : Fw B n w' V' F (q ++ [y]) := by
  have hB := (h.fr.lt B rfl).2
  refine ⟨own_same h.fr (fun g e => ?_), ?_, ?_⟩
  · cases e
    exact hg.block B hB (fun e2 => h.ap e2.symm)
  · rw [List.length_append, List.length_singleton, qI, List.map_append, flat_append]
    exact ho
  · rcases hn with e | ⟨g, e, hg2⟩
    · rw [e]; exact h.ap
    · rw [e]; intro e2; injection e2; omega
theorem Fw.get {B n y : Nat} {w : World} {V : Value} {F : Nat → Nat} {q : List Nat} (h : Fw B n w V F q) (hy : y < n) : w.cell? ⟨B, y, none⟩ = some (.int .i64 (F y : Int)) ∧ w.frozen? ⟨B, y, none⟩ = false := row_cell h.fr (fL_get F hy)
set_option maxRecDepth 1000000 in
set_option maxHeartbeats 4000000 in
theorem farFrom_any (gD n f : Nat) (D : Nat → List Int) (ps : List Pr) (w : World) (hD : Rl w.heap.size w gD n D) (hm : ∀ x, x < n → (D x).length ≤ n ∧ ∀ y, y ∈ D x ↔ (⟨y, (x : Int)⟩ : Pr) ∈ ps) (hps : ∀ p ∈ ps, (0 ≤ p.a ∧ p.a < (n : Int)) ∧ (0 ≤ p.b ∧ p.b < (n : Int))) (hf : f < n) (hn : n ≤ 131072) :
    Calls Tryz.prog 49 #[.slice (some ⟨gD, 0, none⟩) n n, .int .i64 (f : Int)] w fun e w' => e = .returned (.slice (some ⟨w.heap.size, 0, none⟩) n n) ∧ Below w.heap.size w w' ∧ ∃ F, w'.ownsRow w.heap.size 3 1 (.slice (some ⟨w.heap.size, 0, none⟩) n n) n (flat (fL n F)) ∧ Fr ps n f F := by
  obtain ⟨i0, hi0, hz0, hz1, hz2⟩ := info_parts infoIntH
  have HD := hidH hD
  have HM := hidH hm
  have HPS := hidH hps
  obtain ⟨B, hB⟩ : ∃ B, w.heap.size = B := ⟨_, rfl⟩
  have H0 := hidH hB
  rw [hB] at HD
  have hf' : (f : Int) < (n : Int) := by omega
  clear hD hm hps
  go_enter Tryz.func49, Tryz.ntmps49
  go_wp2_with (at_make; refine wpList_make_full _ rfl _ _ 32 rfl B 3 i0 (.int .i64 0) 1 Tryz.underlying32 hi0 hz0 hz1 _ _ _ _ n rfl rfl rfl rfl (by rw [hz2]; omega) (by unfold maxLen; omega) (by omega) ?_; intro v1 hown1 hgr1; rw [hB] at hown1 ⊢; have O1 : Hid (v1.ownsRow B 3 1 (.slice (some ⟨B, 0, none⟩) n n) n (flat (fL n (fun y => if y < 0 then n else 0)))) := (by rw [show (Value.int .i64 0).cells = #[.int .i64 0] by rfl, rep_made] at hown1; unfold Hid; rw [fL_congr (G := fun _ => 0) (fun y _ => by simp), ← fL_rep n 0]; rw [show flat (List.replicate n ((0 : Nat) : Int)) = List.replicate n (Value.int .i64 0) by rw [flat_ints, List.map_replicate]; rfl]; exact hown1); have E1 : Hid (Below B w v1) := ((Below.refl _ _).grown hgr1 (by omega) (fun k h => by cases h)); clear hown1 hgr1)
  go_loopg [17] n (fun gk si wr => ∃ k : Nat, gk = n - k ∧ si = .int .i64 (k : Int) ∧ k ≤ n ∧ wr.ownsRow B 3 1 (.slice (some ⟨B, 0, none⟩) n n) n (flat (fL n (fun y => if y < k then n else 0))) ∧ Below B w wr)
  case atStart => exact ⟨0, rfl, rfl, Nat.zero_le _, O1.out, E1.out⟩
  case round =>
    clear O1 E1
    obtain ⟨k, hgk, rfl, hk, hO, hE⟩ := hrel
    have O1 := hidH hO
    have E1 := hidH hE
    clear hO hE
    by_cases hkn : k < n
    · have hkn' : (k : Int) < (n : Int) := by omega
      have kk : IntKind.i64.wrap ((k : Int) + 1) = ((k + 1 : Nat) : Int) := by rw [IntWalk.i64_in _ ⟨by omega, by omega⟩]; omega
      obtain ⟨cK, fK⟩ := row_cell O1.out (fL_get _ hkn)
      have O2 : Hid ((wr.setCell ⟨B, k, none⟩ (.int .i64 (n : Int))).ownsRow B 3 1 (.slice (some ⟨B, 0, none⟩) n n) n (flat (fL n (fun y => if y < k + 1 then n else 0)))) := by
        have h1 := (World.ownsRow.stored O1.out k (.int .i64 (n : Int))).1
        rw [flat_setI, fL_set _ hkn] at h1
        unfold Hid
        rw [fL_congr (n := n) (G := fun z => if z = k then n else if z < k then n else 0) (fun y hy => by by_cases e : y = k; (subst e; simp); (rw [if_neg e]; by_cases e2 : y < k; (rw [if_pos e2, if_pos (by omega)]); (rw [if_neg e2, if_neg (by omega)])))]
        exact h1
      have E2 := hidH (E1.out.setCell (p := ⟨B, k, none⟩) (Nat.le_refl _) (.int .i64 (n : Int)))
      go_wp2
      go_roundg (n - (k + 1))
      case measure => omega
      case rel => exact ⟨k + 1, rfl, rfl, by omega, O2.out, E2.out⟩
    · have hkn' : ¬ (k : Int) < (n : Int) := by omega
      have hk2 : k = n := by omega
      subst hk2
      obtain ⟨cF, fF⟩ := row_cell O1.out (fL_get _ hf)
      have O2 : Hid ((wr.setCell ⟨B, f, none⟩ (.int .i64 0)).ownsRow B 3 1 (.slice (some ⟨B, 0, none⟩) k k) k (flat (fL k (fun y => if y = f then 0 else k)))) := by
        have h1 := (World.ownsRow.stored O1.out f (.int .i64 ((0 : Nat) : Int))).1
        rw [flat_setI, fL_set _ hf] at h1
        unfold Hid
        rw [fL_congr (n := k) (G := fun z => if z = f then 0 else if z < k then k else 0) (fun y hy => by by_cases e : y = f; (rw [if_pos e, if_pos e]); (rw [if_neg e, if_neg e, if_pos hy]))]
        exact h1
      have E2 := hidH (E1.out.setCell (p := ⟨B, f, none⟩) (Nat.le_refl _) (.int .i64 0))
      go_upto_region 8 with fail
      obtain ⟨w2, hw2⟩ : ∃ w2, wr.setCell ⟨B, f, none⟩ (.int .i64 0) = w2 := ⟨_, rfl⟩
      rw [hw2] at O2 E2 ⊢
      have hB2 : B ≤ w2.heap.size := by have := (O2.out.lt B rfl).2; omega
      obtain ⟨gQ, hgQ⟩ : ∃ gQ, w2.heap.size = gQ := ⟨_, rfl⟩
      obtain ⟨w3, e3, hb3, hs3, X3⟩ := bx1 w2 #[.int .i64 (f : Int)] 3
      have W3 : Hid (Fw B k w3 (.slice (some ⟨gQ, 0, none⟩) 1 1) (fun y => if y = f then 0 else k) [f]) := by
        refine ⟨own_belowR O2.out hb3 (Nat.le_refl _), ?_, ?_⟩
        · have h1 := own_one B w2 (.int .i64 (f : Int)) 3 hB2
          rw [e3, hgQ] at h1
          exact h1
        · intro e
          injection e with e
          have := (O2.out.lt B rfl).2
          simp only at e
          omega
      have E3 := hidH (E2.out.trans (hb3.mono hB2))
      clear hw2
      go_upto_region 9 with fail
      clear e3 hb3 hs3 X3 O1 E1 O2 E2 hB2 hgQ hgk hk
      go_wp2
      go_loopg [7, 8] k (fun gk s7 s8 wq => ∃ (i : Nat) (V : Value) (F : Nat → Nat) (q : List Nat), gk = k - i ∧ s7 = V ∧ s8 = .int .i64 (i : Int) ∧ i ≤ q.length ∧ Fw B k wq V F q ∧ Bq ps k f F q i (fun _ => False) ∧ Below B w wq)
      case atStart => exact ⟨0, _, _, [f], rfl, rfl, rfl, Nat.zero_le _, W3.out, Bq.start hf, E3.out⟩
      case round =>
        clear W3 E3
        obtain ⟨i, V, F, q, hgk, rfl, rfl, hiq, hW, hQ, hE⟩ := hrel
        have FW := hidH hW
        have BQ := hidH hQ
        have EE := hidH hE
        have hqk := hQ.few
        obtain ⟨aV, cV, hV, haV, -⟩ := own_slice hW.nx
        subst hV
        clear hW hQ hE
        by_cases hil : i < q.length
        · have hil' : (i : Int) < (q.length : Int) := by omega
          have kk : IntKind.i64.wrap ((i : Int) + 1) = ((i + 1 : Nat) : Int) := by rw [IntWalk.i64_in _ ⟨by omega, by omega⟩]; omega
          obtain ⟨x, hx⟩ : ∃ x, q[i]? = some x := ⟨_, List.getElem?_eq_getElem hil⟩
          have hxk : x < k := BQ.out.rng x (List.mem_of_getElem? hx)
          have hxk' : (x : Int) < (k : Int) := by omega
          obtain ⟨gq, rfl⟩ := haV (by omega)
          have cx := (row_cell FW.out.nx (qI_get hx)).1
          obtain ⟨aD, cD, cD1, hrow⟩ := HD.out.row x hxk
          have cD0 := (EE.out.cell (p := ⟨gD, x, none⟩) HD.out.lt).trans cD1
          have HROW := hidH hrow
          clear cD1
          obtain ⟨r, hr⟩ : ∃ r, (D x).length = r := ⟨_, rfl⟩
          rw [hr] at cD0
          have HR := hidH hr
          have hrk : r ≤ k := by rw [← hr]; exact (HM.out x hxk).1
          have HX := hidH hx
          clear hr hx hrow
          obtain ⟨ql, hql⟩ : ∃ ql, q.length = ql := ⟨_, rfl⟩
          have HQL := hidH hql
          rw [hql] at hil' hqk hiq hil ⊢
          clear hql
          go_wp2
          go_loopg [7, 46] r (fun g3 s7 s46 wq => ∃ (j : Nat) (V : Value) (F : Nat → Nat) (q : List Nat), g3 = r - j ∧ s7 = V ∧ s46 = .int .i64 (j : Int) ∧ j ≤ r ∧ Fw B k wq V F q ∧ Bq ps k f F q i (fun z => (z : Int) ∈ (D x).take j) ∧ q[i]? = some x ∧ Below B w wq)
          case atStart => exact ⟨0, _, F, q, rfl, rfl, rfl, Nat.zero_le _, by rw [← HQL.out]; exact FW.out, BQ.out.weak (fun z hz => by simp at hz), HX.out, EE.out⟩
          case round =>
            clear FW BQ EE cx cD0
            obtain ⟨j, V, F, q, hg3, rfl, rfl, hj, hW, hQ, hx, hE⟩ := hrel
            have FW := hidH hW
            have BQ := hidH hQ
            have EE := hidH hE
            have HX := hidH hx
            have hqk2 := hQ.few
            obtain ⟨aV, cV, hV, haV, -⟩ := own_slice hW.nx
            subst hV
            clear hW hQ hE hx
            by_cases hjr : j < r
            · have hjr' : (j : Int) < (r : Int) := by omega
              have kj : IntKind.i64.wrap ((j : Int) + 1) = ((j + 1 : Nat) : Int) := by rw [IntWalk.i64_in _ ⟨by omega, by omega⟩]; omega
              obtain ⟨y0, hy0⟩ : ∃ y, (D x)[j]? = some y := ⟨_, List.getElem?_eq_getElem (by rw [HR.out]; exact hjr)⟩
              have hey := ((HM.out x hxk).2 y0).1 (List.mem_of_getElem? hy0)
              have hyr := (HPS.out _ hey).1
              simp only at hyr
              obtain ⟨y, rfl⟩ : ∃ y : Nat, y0 = (y : Int) := ⟨y0.toNat, by omega⟩
              have hyk : y < k := by omega
              have hyk' : (y : Int) < (k : Int) := by omega
              obtain ⟨gr, rfl, hgrB, hcell⟩ := HROW.out (by rw [HR.out]; omega)
              have cY := (EE.out.cell (p := ⟨gr, j, none⟩) hgrB).trans (hcell j _ hy0)
              obtain ⟨cF, fF⟩ := FW.out.get hyk
              obtain ⟨cX, -⟩ := FW.out.get hxk
              have HEY := hidH hey
              have HY0 := hidH hy0
              obtain ⟨u, hu⟩ : ∃ u, F y = u := ⟨_, rfl⟩
              obtain ⟨v, hv⟩ : ∃ v, F x = v := ⟨_, rfl⟩
              rw [hu] at cF
              rw [hv] at cX
              have HU := hidH hu
              have HV := hidH hv
              have ky : IntKind.i64.wrap (y : Int) = (y : Int) := by rw [IntWalk.i64_in _ ⟨by omega, by omega⟩]
              clear hcell hy0 hey hyr hu hv
              by_cases huk : u = k
              · subst huk
                obtain ⟨hvk, hql2, bq2⟩ := BQ.out.new HX.out hyk HU.out HEY.out
                rw [HV.out] at hvk bq2
                have BQ2 := hidH (bq2.weak (dn' := fun z => (z : Int) ∈ (D x).take (j + 1)) (fun z hz => (take_mem HY0.out hz).imp id (fun e => by omega)))
                have W2 := hidH (FW.out.set hyk (v + 1))
                have E2 := hidH (EE.out.setCell (p := ⟨B, y, none⟩) (Nat.le_refl _) (.int .i64 ((v : Int) + 1)))
                have kv : IntKind.i64.wrap ((v : Int) + 1) = (v : Int) + 1 := by rw [IntWalk.i64_in _ ⟨by omega, by omega⟩]
                clear bq2
                go_upto_region 18 with fail
                obtain ⟨w2, hw2⟩ : ∃ w2, wr.setCell ⟨B, y, none⟩ (.int .i64 ((v : Int) + 1)) = w2 := ⟨_, rfl⟩
                have W2' : Hid (Fw B u w2 (.slice aV q.length cV) (fun z => if z = y then v + 1 else F z) q) := by rw [← hw2]; exact W2.out
                rw [hw2] at E2 ⊢
                obtain ⟨p, hp⟩ : ∃ p, q.length = p := ⟨_, rfl⟩
                have HP := hidH hp
                obtain ⟨zA, eA, hbA, hsA, BA⟩ := bx1 w2 #[.int .i64 (y : Int)] 3
                have WA := hidH (W2'.out.below hbA)
                have hB2 : B ≤ w2.heap.size := by have := (W2'.out.fr.lt B rfl).2; omega
                have EA := hidH (E2.out.trans (hbA.mono hB2))
                have NA : Hid (∀ j u, [Value.int .i64 (y : Int)][j]? = some u → zA.cell? ((⟨w2.heap.size, 0, none⟩ : Addr).add j) = some u) := by unfold Hid; rw [← eA]; exact cells_newH w2 [Value.int .i64 (y : Int)] 3
                have HEA := hidH eA
                have HSA := hidH hsA
                have hBA : B ≤ zA.heap.size := by omega
                have OA : Hid (zA.ownsRow B 3 1 (.slice aV p cV) p (flat (qI q))) := by have h9 := WA.out.nx; rw [HP.out] at h9; exact h9
                rw [hp] at WA hqk2 hql2 ⊢
                clear hw2 eA hbA hsA BA hp W2 W2' E2 cY cF fF cX
                go_wp2_with (at_builtin; rw [HEA.out]; refine wpList_append_lies _ rfl _ _ 32 rfl B 3 i0 (.int .i64 0) 1 8 Tryz.underlying32 hi0 hz0 hz1 hz2 rfl (by decide) (.slice aV p cV) p (flat (qI q)) rfl OA.out ⟨w2.heap.size, 0, none⟩ 1 1 [Value.int .i64 (y : Int)] rfl rfl NA.out (by intro u hu; simp at hu; subst hu; rfl) (by decide) (by unfold maxLen; omega) (by omega) hBA (w2.heap.size + 1) HSA.out ?_; intro gg cp w9 hown9 hgrow9 hat9 hlt9; have L9 := hidH (WA.out.push (V' := .slice (some ⟨gg, 0, none⟩) (p + 1) cp) (y := y) (by rw [HP.out]; exact hown9) hgrow9 (by have h7 := HSA.out; rcases hat9 with e | e; exact .inl e.symm; exact .inr ⟨gg, rfl, by omega⟩)); have E9 := hidH (EA.out.grown hgrow9 hBA (fun g e => (OA.out.lt g e).1)); clear hown9 hgrow9 hat9 hlt9)
                go_roundg (r - (j + 1))
                case measure => omega
                case rel => exact ⟨j + 1, _, _, q ++ [y], rfl, rfl, rfl, by omega, L9.out, BQ2.out, by rw [List.getElem?_append_left (List.getElem?_eq_some_iff.1 HX.out).1]; exact HX.out, E9.out⟩
              · have hu1 : ((u : Int) == (k : Int)) = false := by rw [beq_eq_false_iff_ne]; omega
                have hu2 : ¬ (u : Int) = (k : Int) := by omega
                have BQ2 := hidH ((BQ.out.have hyk (by rw [HU.out]; exact huk)).weak (dn' := fun z => (z : Int) ∈ (D x).take (j + 1)) (fun z hz => (take_mem HY0.out hz).imp id (fun e => by omega)))
                go_wp2
                go_roundg (r - (j + 1))
                case measure => omega
                case rel => exact ⟨j + 1, _, F, q, rfl, rfl, rfl, by omega, FW.out, BQ2.out, HX.out, EE.out⟩
            · have hjr' : ¬ (j : Int) < (r : Int) := by omega
              have hj2 : j = r := by omega
              have BQ2 := hidH (BQ.out.next HX.out (fun z hz => by rw [List.take_of_length_le (by rw [HR.out]; omega)]; exact ((HM.out x hxk).2 _).2 hz))
              have hil2 := (List.getElem?_eq_some_iff.1 HX.out).1
              go_wp2
              go_roundg (k - (i + 1))
              case measure => omega
              case rel => exact ⟨i + 1, _, F, q, rfl, rfl, rfl, by omega, FW.out, BQ2.out, EE.out⟩
        · have hil' : ¬ (i : Int) < (q.length : Int) := by omega
          have hi2 : i = q.length := by omega
          have FR := hidH (BQ.out.weak (dn' := fun _ => False) (fun _ h => h))
          clear BQ
          go_wp2
          go_ret
          exact ⟨rfl, EE.out, F, FW.out.fr, by have h9 := FR.out; rw [hi2] at h9; exact h9.done⟩
end Go.Proofs.YtgijcbipnjmhgabGreat

namespace Go.Proofs.YtgijcbipnjmhgabGreat
open Go.ChangeShapes Go.WideShapes Go.ChangeAt Go.RowKit
set_option linter.unusedVariables false
set_option linter.unusedSimpArgs false

theorem nanI_any (x : Int) (w : World) : Calls Tryz.prog 74 #[.int .i64 x] w fun e w' => e = .returned (.bool false) ∧ w' = w := by
  go_enter Tryz.func74, Tryz.ntmps74
  go_wp2
  go_ret
  exact ⟨rfl, rfl⟩
/-- cmp.Compare's answer -/
def cmpI (x y : Int) : Int := if x < y then -1 else if y < x then 1 else 0
theorem compare_any (x y : Int) (w : World) : Calls Tryz.prog 53 #[.int .i64 x, .int .i64 y] w fun e w' => e = .returned (.int .i64 (cmpI x y)) ∧ w' = w := by
  by_cases h1 : x < y
  · have hc : cmpI x y = -1 := if_pos h1
    rw [hc]
    clear hc
    go_enter Tryz.func53, Tryz.ntmps53
    go_wp2_with (go_at_call 74; (with_reducible refine (nanI_any _ _).mono ?_); rintro e w2 ⟨rfl, rfl⟩)
    go_ret
    exact ⟨rfl, rfl⟩
  · by_cases h2 : y < x
    · have hc : cmpI x y = 1 := by unfold cmpI; rw [if_neg h1, if_pos h2]
      rw [hc]
      clear hc
      go_enter Tryz.func53, Tryz.ntmps53
      go_wp2_with (go_at_call 74; (with_reducible refine (nanI_any _ _).mono ?_); rintro e w2 ⟨rfl, rfl⟩)
      go_ret
      exact ⟨rfl, rfl⟩
    · have hc : cmpI x y = 0 := by unfold cmpI; rw [if_neg h1, if_neg h2]
      rw [hc]
      clear hc
      go_enter Tryz.func53, Tryz.ntmps53
      go_wp2_with (go_at_call 74; (with_reducible refine (nanI_any _ _).mono ?_); rintro e w2 ⟨rfl, rfl⟩)
      go_ret
      exact ⟨rfl, rfl⟩
/-- the distances as they are captured: a box that holds the row -/
structure Cf2 (B bF gF n : Nat) (F : Nat → Nat) (w : World) : Prop where
  lb : bF < B
  lg : gF < B
  box : w.cell? ⟨bF, 0, none⟩ = some (.slice (some ⟨gF, 0, none⟩) n n)
  get : ∀ y, y < n → w.cell? ⟨gF, y, none⟩ = some (.int .i64 (F y : Int))
theorem Cf2.below {B bF gF n : Nat} {F : Nat → Nat} {w w' : World} (h : Cf2 B bF gF n F w) (hb : Below B w w') : Cf2 B bF gF n F w' :=
  ⟨h.lb, h.lg, (hb.cell (p := ⟨bF, 0, none⟩) h.lb).trans h.box, fun y hy => (hb.cell (p := ⟨gF, y, none⟩) h.lg).trans (h.get y hy)⟩
set_option maxRecDepth 1000000 in
theorem nearer_any (B bF gF n x y : Nat) (F : Nat → Nat) (w : World) (h : Cf2 B bF gF n F w) (hx : x < n) (hy : y < n) : Calls Tryz.prog 52 #[.int .i32 (x : Int), .int .i32 (y : Int), .pointer (some ⟨bF, 0, none⟩)] w fun e w' => e = .returned (.int .i64 (cmpI (F x) (F y))) ∧ Below w.heap.size w w' := by
  have cb := h.box
  have cx := h.get x hx
  have cy := h.get y hy
  have hx0 : (0 : Int) ≤ (x : Int) := by omega
  have hy0 : (0 : Int) ≤ (y : Int) := by omega
  have hx1 : (x : Int) < (n : Int) := by omega
  have hy1 : (y : Int) < (n : Int) := by omega
  clear h
  go_enter Tryz.func52, Tryz.ntmps52
  go_upto_region 1 with fail
  go_quiet (first | (go_at_call 53; with_reducible exact Calls.quiet_of_same (compare_any _ _ _)))
  go_wp2
  go_ret
  exact ⟨rfl, ⟨rfl, rfl, rfl, Nat.le_refl _, fun _ _ => rfl⟩⟩
/-- the first of the nearest among the first k -/
structure Mf (F : Nat → Nat) (l : List Int) (k m : Nat) : Prop where
  mem : (m : Int) ∈ l.take k
  min : ∀ z : Nat, (z : Int) ∈ l.take k → F m ≤ F z ∧ (F z = F m → m ≤ z)
theorem Mf.step {F : Nat → Nat} {l : List Int} {k m x : Nat} (h : Mf F l k m) (hl : l.Pairwise (· < ·)) (hx : l[k]? = some (x : Int)) : Mf F l (k + 1) (if cmpI (F x) (F m) < 0 then x else m) := by
  obtain ⟨hk, ek⟩ := List.getElem?_eq_some_iff.1 hx
  have hmem : ∀ z : Int, z ∈ l.take (k + 1) ↔ z ∈ l.take k ∨ z = (x : Int) := fun z => by rw [List.take_succ_eq_append_getElem hk, List.mem_append, List.mem_singleton, ek]
  have hlt : m < x := by
    obtain ⟨i, hi⟩ := List.getElem?_of_mem h.mem
    have hik : i < k := by
      have := (List.getElem?_eq_some_iff.1 hi).1
      rw [List.length_take] at this
      omega
    rw [List.getElem?_take, if_pos hik] at hi
    obtain ⟨l1, e1⟩ := List.getElem?_eq_some_iff.1 hi
    have := List.pairwise_iff_getElem.1 hl i k l1 hk hik
    rw [e1, ek] at this
    omega
  have hc : cmpI (F x) (F m) < 0 ↔ F x < F m := by
    unfold cmpI
    by_cases h1 : (F x : Int) < (F m : Int)
    · rw [if_pos h1]; omega
    · rw [if_neg h1]
      by_cases h2 : (F m : Int) < (F x : Int)
      · rw [if_pos h2]; omega
      · rw [if_neg h2]; omega
  by_cases hcc : F x < F m
  · rw [if_pos (hc.2 hcc)]
    refine ⟨(hmem _).2 (.inr rfl), fun z hz => ?_⟩
    rcases (hmem _).1 hz with hz | hz
    · have := (h.min z hz).1
      omega
    · have e : z = x := by omega
      subst e
      exact ⟨Nat.le_refl _, fun _ => Nat.le_refl _⟩
  · rw [if_neg (fun e => hcc (hc.1 e))]
    refine ⟨(hmem _).2 (.inl h.mem), fun z hz => ?_⟩
    rcases (hmem _).1 hz with hz | hz
    · exact h.min z hz
    · have e : z = x := by omega
      subst e
      omega
theorem Mf.first (F : Nat → Nat) {l : List Int} {x : Nat} (hx : l[0]? = some (x : Int)) : Mf F l 1 x := by
  obtain ⟨hk, ek⟩ := List.getElem?_eq_some_iff.1 hx
  have e : l.take 1 = [(x : Int)] := by rw [List.take_succ_eq_append_getElem hk, ek]; rfl
  refine ⟨by rw [e]; simp, fun z hz => ?_⟩
  rw [e, List.mem_singleton] at hz
  have e : z = x := by omega
  subst e
  exact ⟨Nat.le_refl _, fun _ => Nat.le_refl _⟩
set_option maxRecDepth 1000000 in
set_option maxHeartbeats 2000000 in
theorem minFunc_any (B bF gF n g c : Nat) (F : Nat → Nat) (l : List Int) (w : World) (hB : B ≤ w.heap.size) (h : Cf2 B bF gF n F w) (hg : g < B) (hcell : ∀ (j : Nat) y, l[j]? = some y → w.cell? ⟨g, j, none⟩ = some (.int .i32 y)) (hl : l.Pairwise (· < ·)) (hr : ∀ y ∈ l, 0 ≤ y ∧ y < (n : Int)) (h0 : l ≠ []) (hn : n ≤ 131072) :
    Calls Tryz.prog 51 #[.slice (some ⟨g, 0, none⟩) l.length c, .func (.func 52) #[] #[.pointer (some ⟨bF, 0, none⟩)]] w fun e w' => Below w.heap.size w w' ∧ ∃ m : Nat, e = .returned (.int .i32 (m : Int)) ∧ Mf F l l.length m := by
  have hln := nodup_le (pw_nodup hl) hr
  obtain ⟨k1, hk1⟩ : ∃ k1, l.length = k1 + 1 := ⟨l.length - 1, by have := List.length_pos_iff.2 h0; omega⟩
  obtain ⟨x0, hx0⟩ : ∃ x0, l[0]? = some x0 := ⟨_, List.getElem?_eq_getElem (by omega)⟩
  have hr0 := hr x0 (List.mem_of_getElem? hx0)
  obtain ⟨x0, rfl⟩ : ∃ x : Nat, x0 = (x : Int) := ⟨x0.toNat, by omega⟩
  have c0 := hcell 0 _ hx0
  have M1 := hidH (Mf.first F hx0)
  have HL := hidH hl
  have HR := hidH hr
  have HC := hidH hcell
  have HF := hidH h
  have HK := hidH hk1
  have hl1 : ¬ ((k1 : Int) + 1 < 1) := by omega
  rw [hk1]
  clear hl hr hcell h h0 hx0
  go_enter Tryz.func51, Tryz.ntmps51
  go_wp2
  go_loopg [5, 6] k1 (fun gk s5 s6 wr => ∃ i m : Nat, gk = k1 + 1 - i ∧ s5 = .int .i32 (m : Int) ∧ s6 = .int .i64 (i : Int) ∧ 1 ≤ i ∧ i ≤ k1 + 1 ∧ Mf F l i m ∧ Below w.heap.size w wr)
  case atStart => exact ⟨1, x0, by omega, rfl, rfl, Nat.le_refl _, by omega, M1.out, Below.refl _ _⟩
  case round =>
    clear M1 c0
    obtain ⟨i, m, hgk, rfl, rfl, hi1, hi2, hM, hE⟩ := hrel
    have MM := hidH hM
    have EE := hidH hE
    clear hM hE
    by_cases hik : i < k1 + 1
    · have hik' : (i : Int) < (k1 : Int) + 1 := by omega
      have ki : IntKind.i64.wrap ((i : Int) + 1) = ((i + 1 : Nat) : Int) := by rw [IntWalk.i64_in _ ⟨by omega, by omega⟩]; omega
      obtain ⟨x, hx⟩ : ∃ x, l[i]? = some x := ⟨_, List.getElem?_eq_getElem (by rw [HK.out]; exact hik)⟩
      have hrx := HR.out x (List.mem_of_getElem? hx)
      obtain ⟨x, rfl⟩ : ∃ y : Nat, x = (y : Int) := ⟨x.toNat, by omega⟩
      have hrm := HR.out (m : Int) (List.mem_of_mem_take MM.out.mem)
      have cx := (EE.out.cell (p := ⟨g, i, none⟩) (by show g < _; omega)).trans (HC.out i _ hx)
      have C1 := hidH (nearer_any B bF gF n x m F wr (HF.out.below (EE.out.mono hB)) (by omega) (by omega))
      have M2 := hidH (MM.out.step HL.out hx)
      obtain ⟨cc, hcc⟩ : ∃ cc, cmpI (F x) (F m) = cc := ⟨_, rfl⟩
      rw [hcc] at C1 M2
      clear hx hrx hrm hcc
      by_cases hc0 : cc < 0
      · rw [if_pos hc0] at M2
        go_wp2_with (go_at_call 52; (with_reducible refine C1.out.mono ?_); clear C1; rintro e v1 ⟨rfl, hb1⟩; have cx1 := (hb1.cell (p := ⟨g, i, none⟩) (by show g < _; have := EE.out.size; omega)).trans cx; have E1 := hidH (EE.out.trans (hb1.mono EE.out.size)); clear hb1)
        go_roundg (k1 + 1 - (i + 1))
        case measure => omega
        case rel => exact ⟨i + 1, x, rfl, rfl, rfl, by omega, by omega, M2.out, E1.out⟩
      · rw [if_neg hc0] at M2
        go_wp2_with (go_at_call 52; (with_reducible refine C1.out.mono ?_); clear C1; rintro e v1 ⟨rfl, hb1⟩; have E1 := hidH (EE.out.trans (hb1.mono EE.out.size)); clear hb1)
        go_roundg (k1 + 1 - (i + 1))
        case measure => omega
        case rel => exact ⟨i + 1, m, rfl, rfl, rfl, by omega, by omega, M2.out, E1.out⟩
    · have hik' : ¬ (i : Int) < (k1 : Int) + 1 := by omega
      have hi3 : i = k1 + 1 := by omega
      go_wp2
      go_ret
      exact ⟨EE.out, m, rfl, by have h9 := MM.out; rw [hi3] at h9; exact h9⟩
/-- the captured lists: a box that holds the row of rows -/
structure Cn2 (B bN gV n : Nat) (N : Nat → List Int) (w : World) : Prop where
  lb : bN < B
  box : w.cell? ⟨bN, 0, none⟩ = some (.slice (some ⟨gV, 0, none⟩) n n)
  rl : Rl B w gV n N
theorem Cn2.below {B bN gV n : Nat} {N : Nat → List Int} {w w' : World} (h : Cn2 B bN gV n N w) (hb : Below B w w') : Cn2 B bN gV n N w' :=
  ⟨h.lb, (hb.cell (p := ⟨bN, 0, none⟩) h.lb).trans h.box, h.rl.below hb⟩
set_option maxRecDepth 1000000 in
set_option maxHeartbeats 2000000 in
theorem nearest_any (B bN gV bF gF n x : Nat) (F : Nat → Nat) (N : Nat → List Int) (w : World) (hB : B ≤ w.heap.size) (hN : Cn2 B bN gV n N w) (hF : Cf2 B bF gF n F w) (hx : x < n) (hl : (N x).Pairwise (· < ·)) (hr : ∀ y ∈ N x, 0 ≤ y ∧ y < (n : Int)) (h0 : N x ≠ []) (hn : n ≤ 131072) :
    Calls Tryz.prog 50 #[.int .i64 (x : Int), .pointer (some ⟨bN, 0, none⟩), .pointer (some ⟨bF, 0, none⟩)] w fun e w' => Below w.heap.size w w' ∧ ∃ m : Nat, e = .returned (.int .i64 (m : Int)) ∧ Mf F (N x) (N x).length m := by
  have hmf : ∀ (fn : Fn) (first cap : Array Value) (w : World), (Instr.makeFunc fn first cap).run Tryz.prog w = .ok (.func fn first cap) w := fun _ _ _ _ => rfl
  have hx1 : (x : Int) < (n : Int) := by omega
  obtain ⟨a, c, c1, hrow⟩ := hN.rl.row x hx
  obtain ⟨g, rfl, hg, hcell⟩ := hrow (List.length_pos_iff.2 h0)
  have cb := hN.box
  have CM := hidH (minFunc_any B bF gF n g c F (N x) w hB hF hg hcell hl hr h0 hn)
  have HR := hidH hr
  obtain ⟨r, hrr⟩ : ∃ r, (N x).length = r := ⟨_, rfl⟩
  rw [hrr] at c1 CM ⊢
  clear hN hF hl hr h0 hrow hcell
  go_enter Tryz.func50, Tryz.ntmps50
  go_upto_region 1 with fail
  go_wp2_with (go_at_call 51; (with_reducible refine CM.out.mono ?_); clear CM; rintro e v1 ⟨hb1, m, rfl, hM⟩; have km : IntKind.i64.wrap (m : Int) = (m : Int) := (by rw [IntWalk.i64_in _ (by have := HR.out _ (List.mem_of_mem_take hM.mem); exact ⟨by omega, by omega⟩)]); have HB := hidH hb1; have HM := hidH hM; clear hb1 hM)
  go_ret
  exact ⟨HB.out, m, rfl, HM.out⟩
end Go.Proofs.YtgijcbipnjmhgabGreat

namespace Go.Proofs.YtgijcbipnjmhgabGreat
open Go.ChangeShapes Go.WideShapes Go.ChangeAt Go.RowKit
set_option linter.unusedVariables false
set_option linter.unusedSimpArgs false

/-- a row of numbers of 32 bits that is read -/
def R32 (w : World) (a : Option Addr) (xs : List Int) : Prop := 0 < xs.length → ∃ g, a = some ⟨g, 0, none⟩ ∧ ∀ (j : Nat) y, xs[j]? = some y → w.cell? ⟨g, j, none⟩ = some (.int .i32 y)
set_option maxRecDepth 1000000 in
set_option maxHeartbeats 1000000 in
theorem index32_any (a : Option Addr) (cap : Nat) (xs : List Int) (v : Int) (w : World) (h : R32 w a xs) (hl : xs.length ≤ 131072) :
    Calls Tryz.prog 79 #[.slice a xs.length cap, .int .i32 v] w fun e w' => (∃ i : Int, e = .returned (.int .i64 i) ∧ decide (0 ≤ i) = xs.contains v) ∧ w' = w := by
  have H := hidH h
  clear h
  go_enter Tryz.func79, Tryz.ntmps79
  go_wp2
  go_loopw [8] (fun i wr => ∃ k : Nat, k ≤ xs.length ∧ i = .int .i64 (k : Int) ∧ wr = w ∧ v ∉ xs.take k) (fun i _ => xs.length - (intOf i).toNat)
  case atStart => exact ⟨0, by omega, rfl, rfl, by simp⟩
  case round =>
    obtain ⟨k, hk, rfl, rfl, hno⟩ := hrel
    have HNO := hidH hno
    clear hno
    by_cases hkl : k < xs.length
    · obtain ⟨y, hy⟩ : ∃ y, xs[k]? = some y := ⟨_, List.getElem?_eq_getElem hkl⟩
      obtain ⟨g, rfl, hc⟩ := H.out (by omega)
      have d0 := hc k y hy
      have HY := hidH hy
      have hk1 : (k : Int) < (xs.length : Int) := by omega
      clear hy hc
      by_cases hv : v = y
      · subst hv
        have HC : Hid (xs.contains v = true) := List.contains_iff_mem.2 (List.mem_of_getElem? HY.out)
        go_wp2
        go_ret
        exact ⟨⟨k, rfl, by rw [HC.out]; simp⟩, rfl⟩
      · have HV := hidH hv
        go_wp2
        go_roundw
        case rel =>
          refine ⟨k + 1, by omega, by simp, by trivial, ?_⟩
          rw [List.take_add_one, HY.out]
          intro hm
          rcases List.mem_append.1 hm with hm | hm
          · exact HNO.out hm
          · simp at hm; exact HV.out hm
        case measure => simp [intOf]; omega
    · have hke : k = xs.length := by omega
      subst hke
      have HC : Hid (xs.contains v = false) := by
        unfold Hid
        rw [Bool.eq_false_iff]
        intro hm
        exact HNO.out (by rw [List.take_length]; exact List.contains_iff_mem.1 hm)
      go_wp2
      go_ret
      exact ⟨⟨-1, rfl, by rw [HC.out]; rfl⟩, rfl⟩
theorem contains32_any (a : Option Addr) (cap : Nat) (xs : List Int) (v : Int) (w : World) (h : R32 w a xs) (hl : xs.length ≤ 131072) :
    Calls Tryz.prog 73 #[.slice a xs.length cap, .int .i32 v] w fun e w' => e = .returned (.bool (xs.contains v)) ∧ w' = w := by
  have H := hidH h
  clear h
  go_enter Tryz.func73, Tryz.ntmps73
  go_wp2_with (go_at_call 79; refine (index32_any a cap xs v _ H.out hl).mono ?_; rintro e w' ⟨⟨i, rfl, hi⟩, rfl⟩; have HI : Hid (decide (0 ≤ i) = xs.contains v) := hi; clear hi)
  go_ret
  exact ⟨congrArg (fun b => Ending.returned (.bool b)) HI.out, rfl⟩
theorem Rl.r32 {B gV n x : Nat} {w : World} {N : Nat → List Int} (h : Rl B w gV n N) (hx : x < n) : ∃ a c, w.cell? ⟨gV, x, none⟩ = some (.slice a (N x).length c) ∧ R32 w a (N x) := by
  obtain ⟨a, c, h1, h2⟩ := h.row x hx
  exact ⟨a, c, h1, fun h0 => by obtain ⟨g, e, -, h3⟩ := h2 h0; exact ⟨g, e, h3⟩⟩
theorem cnO_set {lw : Nat → Nat} {n k l : Nat} (hl : l < n) (e : lw k = l) (hne : l ≠ k) : (fL n (cnO lw k)).set l ((cnO lw k l + 1 : Nat) : Int) = fL n (cnO lw (k + 1)) := by
  rw [fL_set _ hl]
  refine fL_congr fun z hz => ?_
  rw [cnO_succ]
  by_cases h : z = l
  · subst h; rw [if_pos rfl, if_pos ⟨e, fun e2 => hne e2.symm⟩]
  · rw [if_neg h, if_neg (fun e2 => h (e2.1.symm.trans e))]; rfl
theorem cnO_still {lw : Nat → Nat} {n k : Nat} (e : lw k = k) : fL n (cnO lw (k + 1)) = fL n (cnO lw k) :=
  fL_congr fun z hz => by rw [cnO_succ, if_neg (fun e2 => e2.2 (by rw [← e2.1, e])), Nat.add_zero]
set_option maxRecDepth 1000000 in
set_option maxHeartbeats 2000000 in
theorem onCycle_any (gV gL n cL : Nat) (N : Nat → List Int) (lw : Nat → Nat) (ps : List Pr) (w : World) (hN : Rl w.heap.size w gV n N) (hLs : LstR n ps N) (hL : Rr1 w.heap.size w gL n lw) (hW : Lws ps n lw) (hex : ∃ x, OnC ps x) (hn : n ≤ 131072) :
    Calls Tryz.prog 48 #[.slice (some ⟨gV, 0, none⟩) n n, .slice (some ⟨gL, 0, none⟩) n cL] w fun e w' => Below w.heap.size w w' ∧ ∃ f : Nat, e = .returned (.int .i64 (f : Int)) ∧ f < n ∧ Fst ps f := by
  obtain ⟨i0, hi0, hz0, hz1, hz2⟩ := info_parts infoIntH
  have hlen : ∀ x, x < n → (N x).length ≤ 131072 := fun x hx => Nat.le_trans (nodup_le (pw_nodup (hLs x hx).1) (fun y hy => (hW.rng _ (((hLs x hx).2 y).1 hy)).2)) hn
  obtain ⟨s0, hs0, hs1⟩ : ∃ s0, Stp ps lw n s0 ∧ s0 < n := by
    obtain ⟨x, hx⟩ := hex
    obtain ⟨z, -, hz⟩ := hx.stp hW
    obtain ⟨u, he, -⟩ := hz.onc hW
    exact ⟨z, hz, (hW.edge he).1⟩
  have HN := hidH hN
  have HLS := hidH hLs
  have HL := hidH hL
  have HW := hidH hW
  have HLEN := hidH hlen
  have HS0 := hidH hs0
  obtain ⟨B, hB⟩ : ∃ B, w.heap.size = B := ⟨_, rfl⟩
  rw [hB] at HN HL
  clear hN hLs hL hW hlen hs0 hex
  go_enter Tryz.func48, Tryz.ntmps48
  go_wp2_with (at_make; refine wpList_make_full _ rfl _ _ 32 rfl B 3 i0 (.int .i64 0) 1 Tryz.underlying32 hi0 hz0 hz1 _ _ _ _ n rfl rfl rfl rfl (by rw [hz2]; omega) (by unfold maxLen; omega) (by omega) ?_; intro v1 hown1 hgr1; rw [hB] at hown1 ⊢; have O1 : Hid (v1.ownsRow B 3 1 (.slice (some ⟨B, 0, none⟩) n n) n (flat (fL n (cnO lw 0)))) := (by rw [show (Value.int .i64 0).cells = #[.int .i64 0] by rfl, rep_made] at hown1; unfold Hid; rw [show fL n (cnO lw 0) = fL n (fun _ => 0) from fL_congr (fun y _ => rfl), ← fL_rep n 0]; rw [show flat (List.replicate n ((0 : Nat) : Int)) = List.replicate n (Value.int .i64 0) by rw [flat_ints, List.map_replicate]; rfl]; exact hown1); have E1 : Hid (Below B w v1) := ((Below.refl _ _).grown hgr1 (by omega) (fun k h => by cases h)); clear hown1 hgr1)
  go_loopg [14] n (fun gk si wr => ∃ k : Nat, gk = n - k ∧ si = .int .i64 (k : Int) ∧ k ≤ n ∧ wr.ownsRow B 3 1 (.slice (some ⟨B, 0, none⟩) n n) n (flat (fL n (cnO lw k))) ∧ Below B w wr)
  case atStart => exact ⟨0, rfl, rfl, Nat.zero_le _, O1.out, E1.out⟩
  case round =>
    clear O1 E1
    obtain ⟨k, hgk, rfl, hk, hO, hE⟩ := hrel
    have O1 := hidH hO
    have E1 := hidH hE
    clear hO hE
    by_cases hkn : k < n
    · have hkn' : (k : Int) < (n : Int) := by omega
      have kk : IntKind.i64.wrap ((k : Int) + 1) = ((k + 1 : Nat) : Int) := by rw [IntWalk.i64_in _ ⟨by omega, by omega⟩]; omega
      have cl := (HL.out.below E1.out).2 k hkn
      have hln := HW.out.lt hkn
      obtain ⟨l, hl⟩ : ∃ l, lw k = l := ⟨_, rfl⟩
      have HLK := hidH hl
      rw [hl] at cl hln
      have hln' : (l : Int) < (n : Int) := by omega
      clear hl
      by_cases hlk : l = k
      · subst hlk
        go_wp2
        go_roundg (n - (l + 1))
        case measure => omega
        case rel => exact ⟨l + 1, rfl, rfl, by omega, by rw [cnO_still HLK.out]; exact O1.out, E1.out⟩
      · have hlk1 : ((l : Int) == (k : Int)) = false := by rw [beq_eq_false_iff_ne]; omega
        have hlk2 : ¬ (l : Int) = (k : Int) := by omega
        obtain ⟨cO, fO⟩ := row_cell O1.out (fL_get _ hln)
        have hcl := cnO_le lw k l
        obtain ⟨v, hv⟩ : ∃ v, cnO lw k l = v := ⟨_, rfl⟩
        have HV := hidH hv
        rw [hv] at cO hcl
        have kv : IntKind.i64.wrap ((v : Int) + 1) = (v : Int) + 1 := by rw [IntWalk.i64_in _ ⟨by omega, by omega⟩]
        have O2 : Hid ((wr.setCell ⟨B, l, none⟩ (.int .i64 ((v : Int) + 1))).ownsRow B 3 1 (.slice (some ⟨B, 0, none⟩) n n) n (flat (fL n (cnO lw (k + 1))))) := by
          have h1 := (World.ownsRow.stored O1.out l (.int .i64 ((cnO lw k l + 1 : Nat) : Int))).1
          rw [flat_setI, cnO_set hln HLK.out hlk, HV.out] at h1
          exact h1
        have E2 := hidH (E1.out.setCell (p := ⟨B, l, none⟩) (Nat.le_refl _) (.int .i64 ((v : Int) + 1)))
        clear hv
        go_wp2
        go_roundg (n - (k + 1))
        case measure => omega
        case rel => exact ⟨k + 1, rfl, rfl, by omega, O2.out, E2.out⟩
    · have hkn' : ¬ (k : Int) < (n : Int) := by omega
      have hk2 : k = n := by omega
      subst hk2
      obtain ⟨wA, hwA⟩ : ∃ wA, wA = wr := ⟨wr, rfl⟩
      subst hwA
      go_wp2
      go_loopg [8] k (fun gk s8 wq => ∃ x : Nat, gk = k - x ∧ s8 = .int .i64 (x : Int) ∧ (∀ y, y < x → ¬ Stp ps lw k y) ∧ wq = wA)
      case atStart => exact ⟨0, rfl, rfl, fun y hy => by omega, rfl⟩
      case round =>
        obtain ⟨x, hgk2, rfl, hno, rfl⟩ := hrel
        have HNO := hidH hno
        have hxk : x < k := by
          by_cases h : s0 < x
          · exact absurd HS0.out (hno s0 h)
          · omega
        have hxk' : (x : Int) < (k : Int) := by omega
        have kx : IntKind.i64.wrap ((x : Int) + 1) = ((x + 1 : Nat) : Int) := by rw [IntWalk.i64_in _ ⟨by omega, by omega⟩]; omega
        have kx2 : IntKind.i32.wrap (x : Int) = (x : Int) := by simp [IntKind.wrap, IntKind.bits, IntKind.signed]; omega
        obtain ⟨cO, fO⟩ := row_cell O1.out (fL_get _ hxk)
        obtain ⟨c, hc⟩ : ∃ c, cnO lw k x = c := ⟨_, rfl⟩
        have HC := hidH hc
        rw [hc] at cO
        clear hno hc
        by_cases hc0 : c = 0
        · subst hc0
          obtain ⟨a, cp, c1, h32⟩ := (HN.out.below E1.out).r32 hxk
          have CC := hidH (contains32_any a cp (N x) (x : Int) wr h32 (HLEN.out x hxk))
          obtain ⟨t, ht⟩ : ∃ t, (N x).contains (x : Int) = t := ⟨_, rfl⟩
          have HT := hidH ht
          obtain ⟨r, hr⟩ : ∃ r, (N x).length = r := ⟨_, rfl⟩
          rw [hr] at c1 CC
          rw [ht] at CC
          clear ht hr h32
          cases t with
          | true =>
            have HF := hidH (stp_fst HW.out (.inr (((HLS.out x hxk).2 _).1 (List.contains_iff_mem.1 HT.out))) HNO.out)
            go_wp2_with (go_at_call 73; (with_reducible refine CC.out.mono ?_); clear CC; rintro e v1 ⟨rfl, hvv⟩; subst hvv)
            go_ret
            exact ⟨by rw [hB]; exact E1.out, x, rfl, hxk, HF.out⟩
          | false =>
            have NX : Hid (¬ Stp ps lw k x) := stp_iff.2 ⟨HC.out, fun he => by have h9 := HT.out; rw [Bool.eq_false_iff] at h9; exact h9 (List.contains_iff_mem.2 (((HLS.out x hxk).2 _).2 he))⟩
            go_wp2_with (go_at_call 73; (with_reducible refine CC.out.mono ?_); clear CC; rintro e v1 ⟨rfl, hvv⟩; subst hvv)
            go_roundg (k - (x + 1))
            case measure => omega
            case rel => exact ⟨x + 1, rfl, rfl, fun y hy => by by_cases e : y = x; (subst e; exact NX.out); exact HNO.out y (by omega), rfl⟩
        · have hc1 : ((c : Int) == 0) = false := by rw [beq_eq_false_iff_ne]; omega
          have hc2 : ¬ (c : Int) = 0 := by omega
          have HF : Hid (Fst ps x) := stp_fst HW.out (Classical.byContradiction fun h => hc0 (HC.out.symm.trans (stp_iff.1 h).1)) HNO.out
          go_wp2
          go_ret
          exact ⟨by rw [hB]; exact E1.out, x, rfl, hxk, HF.out⟩
end Go.Proofs.YtgijcbipnjmhgabGreat
