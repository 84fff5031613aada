import Derived.Test.YtgijcbipnjmhgabTg2
import Derived.Test.YtgijcbipnjmhgabPt2
namespace Go.Proofs.Ytgijcbipnjmhgab
open Go.ChangeShapes Go.WideShapes Go.ChangeAt Go.RowKit
set_option linter.unusedVariables false
set_option linter.unusedSimpArgs false

/-- numbers of all things, as a list -/
def fL (n : Nat) (F : Nat → Nat) : List Int := (List.range n).map fun y => (F y : Int)
theorem fL_len (n : Nat) (F : Nat → Nat) : (fL n F).length = n := by unfold fL; simp
theorem fL_get {n y : Nat} (F : Nat → Nat) (h : y < n) : (fL n F)[y]? = some (F y : Int) := by
  unfold fL
  rw [List.getElem?_map, List.getElem?_range h]
  rfl
theorem fL_ext {n : Nat} {l : List Int} {F : Nat → Nat} (hl : l.length = n) (h : ∀ y, y < n → l[y]? = some (F y : Int)) : l = fL n F := by
  refine List.ext_getElem? fun y => ?_
  by_cases hy : y < n
  · rw [h y hy, fL_get F hy]
  · rw [List.getElem?_eq_none (by omega), List.getElem?_eq_none (by rw [fL_len]; omega)]
theorem fL_set {n y v : Nat} (F : Nat → Nat) (h : y < n) : (fL n F).set y (v : Int) = fL n (fun z => if z = y then v else F z) := fL_ext (by rw [List.length_set, fL_len]) fun z hz => by
  rw [List.getElem?_set]
  by_cases e : y = z
  · subst e; rw [if_pos rfl, if_pos (by rw [fL_len]; exact h), if_pos rfl]
  · rw [if_neg e, fL_get F hz, if_neg (fun e2 => e e2.symm)]
theorem fL_congr {n : Nat} {F G : Nat → Nat} (h : ∀ y, y < n → F y = G y) : fL n F = fL n G := fL_ext (fL_len n F) fun y hy => by rw [fL_get F hy, h y hy]
theorem fL_rep (n v : Nat) : List.replicate n (v : Int) = fL n (fun _ => v) := fL_ext (by simp) fun y hy => by rw [List.getElem?_replicate, if_pos hy]
/-- a row of the call's own, made here of one thing -/
theorem own_one (B : Nat) (w : World) (v : Value) (t : TypeId) (hB : B ≤ w.heap.size) : (w.alloc (.cells #[v] t)).ownsRow B t 1 (.slice (some ⟨w.heap.size, 0, none⟩) 1 1) 1 [v] :=
  ⟨rfl, .inr ⟨w.heap.size, 1, #[v], rfl, hB, heap_alloc_new w _, Nat.le_refl _, by unfold maxLen; omega, rfl, rfl⟩⟩
abbrev qI (q : List Nat) : List Int := q.map fun (x : Nat) => (x : Int)
theorem qI_get {q : List Nat} {i x : Nat} (h : q[i]? = some x) : (qI q)[i]? = some (x : Int) := by rw [List.getElem?_map, h]; rfl
theorem Bq.weak {ps : List Pr} {n f i : Nat} {F : Nat → Nat} {q : List Nat} {dn dn' : Nat → Prop} (h : Bq ps n f F q i dn) (hd : ∀ z, dn' z → dn z) : Bq ps n f F q i dn' :=
  ⟨h.nod, h.rng, h.fst, h.zer, h.mkd, h.wy, h.srt, h.lea, h.top, h.old, fun x hx y hy => h.cur x hx y (hd y hy)⟩
theorem take_mem {l : List Int} {j : Nat} {y z : Int} (hy : l[j]? = some y) (hz : z ∈ l.take (j + 1)) : z ∈ l.take j ∨ z = y := by
  obtain ⟨h1, e1⟩ := List.getElem?_eq_some_iff.1 hy
  rw [List.take_succ_eq_append_getElem h1, List.mem_append, List.mem_singleton, e1] at hz
  exact hz
/-- farFrom's world: the distances, the queue -/
structure Fw (B n : Nat) (w : World) (V : Value) (F : Nat → Nat) (q : List Nat) : Prop where
  fr : w.ownsRow B 3 1 (.slice (some ⟨B, 0, none⟩) n n) n (flat (fL n F))
  nx : w.ownsRow B 3 1 V q.length (flat (qI q))
  ap : V.ownBlock ≠ some B
theorem Fw.below {B n : Nat} {w w' : World} {V : Value} {F : Nat → Nat} {q : List Nat} (h : Fw B n w V F q) (hb : Below w.heap.size w w') : Fw B n w' V F q :=
  ⟨own_belowR h.fr hb (Nat.le_refl _), own_belowR h.nx hb (Nat.le_refl _), h.ap⟩
theorem Fw.set {B n y : Nat} {w : World} {V : Value} {F : Nat → Nat} {q : List Nat} (h : Fw B n w V F q) (hy : y < n) (v : Nat) : Fw B n (w.setCell ⟨B, y, none⟩ (.int .i64 (v : Int))) V (fun z => if z = y then v else F z) q := by
  refine ⟨?_, ownsRow_setCell_other h.nx (a := ⟨B, y, none⟩) h.ap _, h.ap⟩
  have h1 := (World.ownsRow.stored h.fr y (.int .i64 (v : Int))).1
  rw [flat_setI, fL_set F hy] at h1
  exact h1
theorem Fw.push {B n y : Nat} {w w' : World} {V V' : Value} {F : Nat → Nat} {q : List Nat} (h : Fw B n w V F q) (ho : w'.ownsRow B 3 1 V' (q.length + 1) (flat (qI q) ++ [.int .i64 (y : Int)])) (hg : w.grownBy w' V.ownBlock) (hn : V'.ownBlock = V.ownBlock ∨ ∃ g, V'.ownBlock = some g ∧ w.heap.size ≤ g) : Fw B n w' V' F (q ++ [y]) := by
  have hB := (h.fr.lt B rfl).2
  refine ⟨own_same h.fr (fun g e => ?_), ?_, ?_⟩
  · cases e
    exact hg.block B hB (fun e2 => h.ap e2.symm)
  · rw [List.length_append, List.length_singleton, qI, List.map_append, flat_append]
    exact ho
  · rcases hn with e | ⟨g, e, hg2⟩
    · rw [e]; exact h.ap
    · rw [e]; intro e2; injection e2; omega
theorem Fw.get {B n y : Nat} {w : World} {V : Value} {F : Nat → Nat} {q : List Nat} (h : Fw B n w V F q) (hy : y < n) : w.cell? ⟨B, y, none⟩ = some (.int .i64 (F y : Int)) ∧ w.frozen? ⟨B, y, none⟩ = false := row_cell h.fr (fL_get F hy)
set_option maxRecDepth 1000000 in
set_option maxHeartbeats 4000000 in
theorem farFrom_any (gD n f : Nat) (D : Nat → List Int) (ps : List Pr) (w : World) (hD : Rl w.heap.size w gD n D) (hm : ∀ x, x < n → (D x).length ≤ n ∧ ∀ y, y ∈ D x ↔ (⟨y, (x : Int)⟩ : Pr) ∈ ps) (hps : ∀ p ∈ ps, (0 ≤ p.a ∧ p.a < (n : Int)) ∧ (0 ≤ p.b ∧ p.b < (n : Int))) (hf : f < n) (hn : n ≤ 131072) :
    Calls Try.prog 41 #[.slice (some ⟨gD, 0, none⟩) n n, .int .i64 (f : Int)] w fun e w' => e = .returned (.slice (some ⟨w.heap.size, 0, none⟩) n n) ∧ Below w.heap.size w w' ∧ ∃ F, w'.ownsRow w.heap.size 3 1 (.slice (some ⟨w.heap.size, 0, none⟩) n n) n (flat (fL n F)) ∧ Fr ps n f F := by
  obtain ⟨i0, hi0, hz0, hz1, hz2⟩ := info_parts infoIntH
  have HD := hidH hD
  have HM := hidH hm
  have HPS := hidH hps
  obtain ⟨B, hB⟩ : ∃ B, w.heap.size = B := ⟨_, rfl⟩
  have H0 := hidH hB
  rw [hB] at HD
  have hf' : (f : Int) < (n : Int) := by omega
  clear hD hm hps
  go_enter Try.func41, Try.ntmps41
  go_wp2_with (at_make; refine wpList_make_full _ rfl _ _ 24 rfl B 3 i0 (.int .i64 0) 1 Try.underlying24 hi0 hz0 hz1 _ _ _ _ n rfl rfl rfl rfl (by rw [hz2]; omega) (by unfold maxLen; omega) (by omega) ?_; intro v1 hown1 hgr1; rw [hB] at hown1 ⊢; have O1 : Hid (v1.ownsRow B 3 1 (.slice (some ⟨B, 0, none⟩) n n) n (flat (fL n (fun y => if y < 0 then n else 0)))) := (by rw [show (Value.int .i64 0).cells = #[.int .i64 0] by rfl, rep_made] at hown1; unfold Hid; rw [fL_congr (G := fun _ => 0) (fun y _ => by simp), ← fL_rep n 0]; rw [show flat (List.replicate n ((0 : Nat) : Int)) = List.replicate n (Value.int .i64 0) by rw [flat_ints, List.map_replicate]; rfl]; exact hown1); have E1 : Hid (Below B w v1) := ((Below.refl _ _).grown hgr1 (by omega) (fun k h => by cases h)); clear hown1 hgr1)
  go_loopg [17] n (fun gk si wr => ∃ k : Nat, gk = n - k ∧ si = .int .i64 (k : Int) ∧ k ≤ n ∧ wr.ownsRow B 3 1 (.slice (some ⟨B, 0, none⟩) n n) n (flat (fL n (fun y => if y < k then n else 0))) ∧ Below B w wr)
  case atStart => exact ⟨0, rfl, rfl, Nat.zero_le _, O1.out, E1.out⟩
  case round =>
    clear O1 E1
    obtain ⟨k, hgk, rfl, hk, hO, hE⟩ := hrel
    have O1 := hidH hO
    have E1 := hidH hE
    clear hO hE
    by_cases hkn : k < n
    · have hkn' : (k : Int) < (n : Int) := by omega
      have kk : IntKind.i64.wrap ((k : Int) + 1) = ((k + 1 : Nat) : Int) := by rw [IntWalk.i64_in _ ⟨by omega, by omega⟩]; omega
      obtain ⟨cK, fK⟩ := row_cell O1.out (fL_get _ hkn)
      have O2 : Hid ((wr.setCell ⟨B, k, none⟩ (.int .i64 (n : Int))).ownsRow B 3 1 (.slice (some ⟨B, 0, none⟩) n n) n (flat (fL n (fun y => if y < k + 1 then n else 0)))) := by
        have h1 := (World.ownsRow.stored O1.out k (.int .i64 (n : Int))).1
        rw [flat_setI, fL_set _ hkn] at h1
        unfold Hid
        rw [fL_congr (n := n) (G := fun z => if z = k then n else if z < k then n else 0) (fun y hy => by by_cases e : y = k; (subst e; simp); (rw [if_neg e]; by_cases e2 : y < k; (rw [if_pos e2, if_pos (by omega)]); (rw [if_neg e2, if_neg (by omega)])))]
        exact h1
      have E2 := hidH (E1.out.setCell (p := ⟨B, k, none⟩) (Nat.le_refl _) (.int .i64 (n : Int)))
      go_wp2
      go_roundg (n - (k + 1))
      case measure => omega
      case rel => exact ⟨k + 1, rfl, rfl, by omega, O2.out, E2.out⟩
    · have hkn' : ¬ (k : Int) < (n : Int) := by omega
      have hk2 : k = n := by omega
      subst hk2
      obtain ⟨cF, fF⟩ := row_cell O1.out (fL_get _ hf)
      have O2 : Hid ((wr.setCell ⟨B, f, none⟩ (.int .i64 0)).ownsRow B 3 1 (.slice (some ⟨B, 0, none⟩) k k) k (flat (fL k (fun y => if y = f then 0 else k)))) := by
        have h1 := (World.ownsRow.stored O1.out f (.int .i64 ((0 : Nat) : Int))).1
        rw [flat_setI, fL_set _ hf] at h1
        unfold Hid
        rw [fL_congr (n := k) (G := fun z => if z = f then 0 else if z < k then k else 0) (fun y hy => by by_cases e : y = f; (rw [if_pos e, if_pos e]); (rw [if_neg e, if_neg e, if_pos hy]))]
        exact h1
      have E2 := hidH (E1.out.setCell (p := ⟨B, f, none⟩) (Nat.le_refl _) (.int .i64 0))
      go_upto_region 8 with fail
      obtain ⟨w2, hw2⟩ : ∃ w2, wr.setCell ⟨B, f, none⟩ (.int .i64 0) = w2 := ⟨_, rfl⟩
      rw [hw2] at O2 E2 ⊢
      have hB2 : B ≤ w2.heap.size := by have := (O2.out.lt B rfl).2; omega
      obtain ⟨gQ, hgQ⟩ : ∃ gQ, w2.heap.size = gQ := ⟨_, rfl⟩
      obtain ⟨w3, e3, hb3, hs3, X3⟩ := bx1 w2 #[.int .i64 (f : Int)] 3
      have W3 : Hid (Fw B k w3 (.slice (some ⟨gQ, 0, none⟩) 1 1) (fun y => if y = f then 0 else k) [f]) := by
        refine ⟨own_belowR O2.out hb3 (Nat.le_refl _), ?_, ?_⟩
        · have h1 := own_one B w2 (.int .i64 (f : Int)) 3 hB2
          rw [e3, hgQ] at h1
          exact h1
        · intro e
          injection e with e
          have := (O2.out.lt B rfl).2
          simp only at e
          omega
      have E3 := hidH (E2.out.trans (hb3.mono hB2))
      clear hw2
      go_upto_region 9 with fail
      clear e3 hb3 hs3 X3 O1 E1 O2 E2 hB2 hgQ hgk hk
      go_wp2
      go_loopg [7, 8] k (fun gk s7 s8 wq => ∃ (i : Nat) (V : Value) (F : Nat → Nat) (q : List Nat), gk = k - i ∧ s7 = V ∧ s8 = .int .i64 (i : Int) ∧ i ≤ q.length ∧ Fw B k wq V F q ∧ Bq ps k f F q i (fun _ => False) ∧ Below B w wq)
      case atStart => exact ⟨0, _, _, [f], rfl, rfl, rfl, Nat.zero_le _, W3.out, Bq.start hf, E3.out⟩
      case round =>
        clear W3 E3
        obtain ⟨i, V, F, q, hgk, rfl, rfl, hiq, hW, hQ, hE⟩ := hrel
        have FW := hidH hW
        have BQ := hidH hQ
        have EE := hidH hE
        have hqk := hQ.few
        obtain ⟨aV, cV, hV, haV, -⟩ := own_slice hW.nx
        subst hV
        clear hW hQ hE
        by_cases hil : i < q.length
        · have hil' : (i : Int) < (q.length : Int) := by omega
          have kk : IntKind.i64.wrap ((i : Int) + 1) = ((i + 1 : Nat) : Int) := by rw [IntWalk.i64_in _ ⟨by omega, by omega⟩]; omega
          obtain ⟨x, hx⟩ : ∃ x, q[i]? = some x := ⟨_, List.getElem?_eq_getElem hil⟩
          have hxk : x < k := BQ.out.rng x (List.mem_of_getElem? hx)
          have hxk' : (x : Int) < (k : Int) := by omega
          obtain ⟨gq, rfl⟩ := haV (by omega)
          have cx := (row_cell FW.out.nx (qI_get hx)).1
          obtain ⟨aD, cD, cD1, hrow⟩ := HD.out.row x hxk
          have cD0 := (EE.out.cell (p := ⟨gD, x, none⟩) HD.out.lt).trans cD1
          have HROW := hidH hrow
          clear cD1
          obtain ⟨r, hr⟩ : ∃ r, (D x).length = r := ⟨_, rfl⟩
          rw [hr] at cD0
          have HR := hidH hr
          have hrk : r ≤ k := by rw [← hr]; exact (HM.out x hxk).1
          have HX := hidH hx
          clear hr hx hrow
          obtain ⟨ql, hql⟩ : ∃ ql, q.length = ql := ⟨_, rfl⟩
          have HQL := hidH hql
          rw [hql] at hil' hqk hiq hil ⊢
          clear hql
          go_wp2
          go_loopg [7, 46] r (fun g3 s7 s46 wq => ∃ (j : Nat) (V : Value) (F : Nat → Nat) (q : List Nat), g3 = r - j ∧ s7 = V ∧ s46 = .int .i64 (j : Int) ∧ j ≤ r ∧ Fw B k wq V F q ∧ Bq ps k f F q i (fun z => (z : Int) ∈ (D x).take j) ∧ q[i]? = some x ∧ Below B w wq)
          case atStart => exact ⟨0, _, F, q, rfl, rfl, rfl, Nat.zero_le _, by rw [← HQL.out]; exact FW.out, BQ.out.weak (fun z hz => by simp at hz), HX.out, EE.out⟩
          case round =>
            clear FW BQ EE cx cD0
            obtain ⟨j, V, F, q, hg3, rfl, rfl, hj, hW, hQ, hx, hE⟩ := hrel
            have FW := hidH hW
            have BQ := hidH hQ
            have EE := hidH hE
            have HX := hidH hx
            have hqk2 := hQ.few
            obtain ⟨aV, cV, hV, haV, -⟩ := own_slice hW.nx
            subst hV
            clear hW hQ hE hx
            by_cases hjr : j < r
            · have hjr' : (j : Int) < (r : Int) := by omega
              have kj : IntKind.i64.wrap ((j : Int) + 1) = ((j + 1 : Nat) : Int) := by rw [IntWalk.i64_in _ ⟨by omega, by omega⟩]; omega
              obtain ⟨y0, hy0⟩ : ∃ y, (D x)[j]? = some y := ⟨_, List.getElem?_eq_getElem (by rw [HR.out]; exact hjr)⟩
              have hey := ((HM.out x hxk).2 y0).1 (List.mem_of_getElem? hy0)
              have hyr := (HPS.out _ hey).1
              simp only at hyr
              obtain ⟨y, rfl⟩ : ∃ y : Nat, y0 = (y : Int) := ⟨y0.toNat, by omega⟩
              have hyk : y < k := by omega
              have hyk' : (y : Int) < (k : Int) := by omega
              obtain ⟨gr, rfl, hgrB, hcell⟩ := HROW.out (by rw [HR.out]; omega)
              have cY := (EE.out.cell (p := ⟨gr, j, none⟩) hgrB).trans (hcell j _ hy0)
              obtain ⟨cF, fF⟩ := FW.out.get hyk
              obtain ⟨cX, -⟩ := FW.out.get hxk
              have HEY := hidH hey
              have HY0 := hidH hy0
              obtain ⟨u, hu⟩ : ∃ u, F y = u := ⟨_, rfl⟩
              obtain ⟨v, hv⟩ : ∃ v, F x = v := ⟨_, rfl⟩
              rw [hu] at cF
              rw [hv] at cX
              have HU := hidH hu
              have HV := hidH hv
              have ky : IntKind.i64.wrap (y : Int) = (y : Int) := by rw [IntWalk.i64_in _ ⟨by omega, by omega⟩]
              clear hcell hy0 hey hyr hu hv
              by_cases huk : u = k
              · subst huk
                obtain ⟨hvk, hql2, bq2⟩ := BQ.out.new HX.out hyk HU.out HEY.out
                rw [HV.out] at hvk bq2
                have BQ2 := hidH (bq2.weak (dn' := fun z => (z : Int) ∈ (D x).take (j + 1)) (fun z hz => (take_mem HY0.out hz).imp id (fun e => by omega)))
                have W2 := hidH (FW.out.set hyk (v + 1))
                have E2 := hidH (EE.out.setCell (p := ⟨B, y, none⟩) (Nat.le_refl _) (.int .i64 ((v : Int) + 1)))
                have kv : IntKind.i64.wrap ((v : Int) + 1) = (v : Int) + 1 := by rw [IntWalk.i64_in _ ⟨by omega, by omega⟩]
                clear bq2
                go_upto_region 18 with fail
                obtain ⟨w2, hw2⟩ : ∃ w2, wr.setCell ⟨B, y, none⟩ (.int .i64 ((v : Int) + 1)) = w2 := ⟨_, rfl⟩
                have W2' : Hid (Fw B u w2 (.slice aV q.length cV) (fun z => if z = y then v + 1 else F z) q) := by rw [← hw2]; exact W2.out
                rw [hw2] at E2 ⊢
                obtain ⟨p, hp⟩ : ∃ p, q.length = p := ⟨_, rfl⟩
                have HP := hidH hp
                obtain ⟨zA, eA, hbA, hsA, BA⟩ := bx1 w2 #[.int .i64 (y : Int)] 3
                have WA := hidH (W2'.out.below hbA)
                have hB2 : B ≤ w2.heap.size := by have := (W2'.out.fr.lt B rfl).2; omega
                have EA := hidH (E2.out.trans (hbA.mono hB2))
                have NA : Hid (∀ j u, [Value.int .i64 (y : Int)][j]? = some u → zA.cell? ((⟨w2.heap.size, 0, none⟩ : Addr).add j) = some u) := by unfold Hid; rw [← eA]; exact cells_newH w2 [Value.int .i64 (y : Int)] 3
                have HEA := hidH eA
                have HSA := hidH hsA
                have hBA : B ≤ zA.heap.size := by omega
                have OA : Hid (zA.ownsRow B 3 1 (.slice aV p cV) p (flat (qI q))) := by have h9 := WA.out.nx; rw [HP.out] at h9; exact h9
                rw [hp] at WA hqk2 hql2 ⊢
                clear hw2 eA hbA hsA BA hp W2 W2' E2 cY cF fF cX
                go_wp2_with (at_builtin; rw [HEA.out]; refine wpList_append_lies _ rfl _ _ 24 rfl B 3 i0 (.int .i64 0) 1 8 Try.underlying24 hi0 hz0 hz1 hz2 rfl (by decide) (.slice aV p cV) p (flat (qI q)) rfl OA.out ⟨w2.heap.size, 0, none⟩ 1 1 [Value.int .i64 (y : Int)] rfl rfl NA.out (by intro u hu; simp at hu; subst hu; rfl) (by decide) (by unfold maxLen; omega) (by omega) hBA (w2.heap.size + 1) HSA.out ?_; intro gg cp w9 hown9 hgrow9 hat9 hlt9; have L9 := hidH (WA.out.push (V' := .slice (some ⟨gg, 0, none⟩) (p + 1) cp) (y := y) (by rw [HP.out]; exact hown9) hgrow9 (by have h7 := HSA.out; rcases hat9 with e | e; exact .inl e.symm; exact .inr ⟨gg, rfl, by omega⟩)); have E9 := hidH (EA.out.grown hgrow9 hBA (fun g e => (OA.out.lt g e).1)); clear hown9 hgrow9 hat9 hlt9)
                go_roundg (r - (j + 1))
                case measure => omega
                case rel => exact ⟨j + 1, _, _, q ++ [y], rfl, rfl, rfl, by omega, L9.out, BQ2.out, by rw [List.getElem?_append_left (List.getElem?_eq_some_iff.1 HX.out).1]; exact HX.out, E9.out⟩
              · have hu1 : ((u : Int) == (k : Int)) = false := by rw [beq_eq_false_iff_ne]; omega
                have hu2 : ¬ (u : Int) = (k : Int) := by omega
                have BQ2 := hidH ((BQ.out.have hyk (by rw [HU.out]; exact huk)).weak (dn' := fun z => (z : Int) ∈ (D x).take (j + 1)) (fun z hz => (take_mem HY0.out hz).imp id (fun e => by omega)))
                go_wp2
                go_roundg (r - (j + 1))
                case measure => omega
                case rel => exact ⟨j + 1, _, F, q, rfl, rfl, rfl, by omega, FW.out, BQ2.out, HX.out, EE.out⟩
            · have hjr' : ¬ (j : Int) < (r : Int) := by omega
              have hj2 : j = r := by omega
              have BQ2 := hidH (BQ.out.next HX.out (fun z hz => by rw [List.take_of_length_le (by rw [HR.out]; omega)]; exact ((HM.out x hxk).2 _).2 hz))
              have hil2 := (List.getElem?_eq_some_iff.1 HX.out).1
              go_wp2
              go_roundg (k - (i + 1))
              case measure => omega
              case rel => exact ⟨i + 1, _, F, q, rfl, rfl, rfl, by omega, FW.out, BQ2.out, EE.out⟩
        · have hil' : ¬ (i : Int) < (q.length : Int) := by omega
          have hi2 : i = q.length := by omega
          have FR := hidH (BQ.out.weak (dn' := fun _ => False) (fun _ h => h))
          clear BQ
          go_wp2
          go_ret
          exact ⟨rfl, EE.out, F, FW.out.fr, by have h9 := FR.out; rw [hi2] at h9; exact h9.done⟩
end Go.Proofs.Ytgijcbipnjmhgab
