import Derived.Test.YteolfolkolpehaaDoorOwC
import Derived.Test.YteolfolkolpehaaDoorMg
import Derived.Test.YteolfolkolpehaaDoorOwM
import Derived.Test.YteolfolkolpehaaDoorRoundW
import Derived.Test.YteolfolkolpehaaDoorPrintsW
import Derived.Test.YteolfolkolpehaaDoorComposesW
namespace Go.Proofs.YteolfolkolpehaaDoor
open Go.ChangeShapes Go.WideShapes Go.ChangeAt Go.RowKit
set_option linter.unusedVariables false

theorem cmpL_len' (size : Int) (a b : List Ed) : (cmpL size a b).length ≤ 65536 := by
  unfold cmpL
  split
  · rename_i h; exact h.2.2
  · simp

theorem nrmA_len (tx : ByteArray) (xs : List Ed) : (nrmA tx xs).length ≤ xs.length := by
  unfold nrmA
  split
  · have := nrm_len tx xs xs.length
    rwa [List.take_of_length_le (Nat.le_refl _)] at this
  · exact Nat.zero_le _
theorem mgL_len (size : Int) (a b : List Ed) : (mgL size a b).length ≤ 65536 := by
  unfold mgL
  split
  · split
    · unfold mrg
      split
      · exact Nat.zero_le _
      · split
        · exact Nat.zero_le _
        · omega
    · exact Nat.zero_le _
  · exact Nat.zero_le _

theorem hidO {p : Prop} (h : p) : Hid p := h
theorem Pd.eds {B : Nat} {w : World} {rs us : List Rr} {gc gd : Nat} {x : Option Addr} {k : Nat} {E : List Ed} (h : Pd B w rs us gc gd (.slice x E.length k) E) : EdsA w x E := by
  obtain ⟨a', c', q1, q2, -, -⟩ := own_form h.own
  injection q1 with q1 _ q3
  subst q1
  exact q2
/-- Shelf.Edits, and what waits waits still -/
theorem put_anyO {b B n : Nat} {w0 w : World} {V U : Value} {rs us : List Rr} {gc gd : Nat} {xa xb : List Ed} (h : Ow b B n w0 w V U rs us gc gd xa xb) {v : Value} {E : List Ed} (hp : Pd B w rs us gc gd v E) (hE : E.length ≤ 1000000) (hn : n ≤ 1000) :
    Calls Tryd.prog 23 #[.pointer (some ⟨b, 0, none⟩), v] w fun e w' => (∃ x, e = .returned x) ∧ ∃ V' U' rs' us', Ow b B (n + 1) w0 w' V' U' rs' us' gc gd xa xb ∧ ∀ v' E', (∀ g, v.ownBlock = some g → v'.ownBlock ≠ some g) → Pd B w rs us gc gd v' E' → Pd B w' rs' us' gc gd v' E' := by
  refine (put_any h hp hE hn).mono ?_
  rintro e w' ⟨he, V', U', u, hO, hu, hk⟩
  exact ⟨he, V', U', _, _, hO, fun v' E' hv hp' => Pd.put h hp' hv hu hk⟩

/-- one edit of a lent list, written over -/
theorem write3 {b B n : Nat} {w0 w : World} {V U : Value} {rs us : List Rr} (h : Ow0 b B n w0 w V U rs us) {g m g' m' : Nat} (hl : Ln B w rs us g m) (hl' : Ln B w rs us g' m') (hne : g' ≠ g) {i : Nat} (hi : i < m) (x y z : Value) :
    (∃ u, w.cell? ⟨g, i * 3, none⟩ = some u) ∧ w.frozen? ⟨g, i * 3, none⟩ = false ∧
    (∃ u, (w.setCell ⟨g, i * 3, none⟩ x).cell? ⟨g, i * 3 + 1, none⟩ = some u) ∧ (w.setCell ⟨g, i * 3, none⟩ x).frozen? ⟨g, i * 3 + 1, none⟩ = false ∧
    (∃ u, ((w.setCell ⟨g, i * 3, none⟩ x).setCell ⟨g, i * 3 + 1, none⟩ y).cell? ⟨g, i * 3 + 2, none⟩ = some u) ∧ ((w.setCell ⟨g, i * 3, none⟩ x).setCell ⟨g, i * 3 + 1, none⟩ y).frozen? ⟨g, i * 3 + 2, none⟩ = false ∧
    Ow0 b B n w0 (((w.setCell ⟨g, i * 3, none⟩ x).setCell ⟨g, i * 3 + 1, none⟩ y).setCell ⟨g, i * 3 + 2, none⟩ z) V U rs us ∧
    Ln B (((w.setCell ⟨g, i * 3, none⟩ x).setCell ⟨g, i * 3 + 1, none⟩ y).setCell ⟨g, i * 3 + 2, none⟩ z) rs us g m ∧
    Ln B (((w.setCell ⟨g, i * 3, none⟩ x).setCell ⟨g, i * 3 + 1, none⟩ y).setCell ⟨g, i * 3 + 2, none⟩ z) rs us g' m' := by
  have l1 := hl.write (i * 3) x
  have l2 := l1.write (i * 3 + 1) y
  have a0 := hl.at hi
  have a1 := l1.at hi
  have a2 := l2.at hi
  exact ⟨a0.1, a0.2.2.2 _, a1.2.1, a1.2.2.2 _, a2.2.2.1, a2.2.2.2 _, ((h.write hl _ _).write l1 _ _).write l2 _ _, l2.write _ _, ((hl'.other hne _ _).other hne _ _).other hne _ _⟩

set_option maxRecDepth 1000000 in
set_option maxHeartbeats 8000000 in
theorem editsOwn_walk (tx : ByteArray) (a1 : Option Addr) (c1 : Nat) (a : List Ed) (a2 : Option Addr) (c2 : Nat) (b : List Ed) (w : World) (hx : tx.size ≤ 140737488351232)
    (h1 : EdsA w a1 a) (hF1 : ∀ e ∈ a, EdFit e) (hn1 : a1 = none → a.length = 0 ∧ c1 = 0) (hl1 : a.length * 32 ≤ 140737488351232) (hC1 : a.length ≤ c1)
    (h2 : EdsA w a2 b) (hF2 : ∀ e ∈ b, EdFit e) (hn2 : a2 = none → b.length = 0 ∧ c2 = 0) (hl2 : b.length * 32 ≤ 140737488351232) (hC2 : b.length ≤ c2) (hB : tx.size + (4 * a.length + tot a) + (4 * b.length + tot b) ≤ 1048576) (htab : Lib.TabIs Tryd.prog w "internal/strconv.uint64pow10" .u64 Lib.pow10Tab) :
    Calls Tryd.prog 7 #[.string tx, .slice a1 a.length c1, .slice a2 b.length c2] w fun e w' => e = .returned (.bool true) ∧ Below w.heap.size w w' := by
  have hT0 : tx.size + tots a + tots b + 4 * a.length + 4 * b.length ≤ 1048576 := by rw [tots_tot, tots_tot]; omega
  have HT : Hid (Lib.TabBelow Tryd.prog w.heap.size w "internal/strconv.uint64pow10" .u64 Lib.pow10Tab) := Lib.tabBelow_of_tabIs htab
  have H1 : Hid (EdsA w a1 a) := h1
  have H2 : Hid (EdsA w a2 b) := h2
  have HF1 : Hid (∀ e ∈ a, EdFit e) := hF1
  have HF2 : Hid (∀ e ∈ b, EdFit e) := hF2
  have HN1 : Hid (a1 = none → a.length = 0 ∧ c1 = 0) := hn1
  have HN2 : Hid (a2 = none → b.length = 0 ∧ c2 = 0) := hn2
  have HLa : Hid (a.length ≤ maxLen) := by unfold Hid maxLen; omega
  have HLb : Hid (b.length ≤ maxLen) := by unfold Hid maxLen; omega
  clear h1 h2 hF1 hF2 hn1 hn2 htab hB
  obtain ⟨IV, hIV⟩ : ∃ L, invA tx a = L := ⟨_, rfl⟩
  obtain ⟨ie, hie⟩ : ∃ x, vld tx.size a = x := ⟨_, rfl⟩
  obtain ⟨BO, hBO⟩ : ∃ L, cmpL tx.size a b = L := ⟨_, rfl⟩
  obtain ⟨be, hbe⟩ : ∃ x, cmpE tx.size a b = x := ⟨_, rfl⟩
  obtain ⟨PT, hPT⟩ : ∃ x, prtB a = x := ⟨_, rfl⟩
  obtain ⟨RD, re, rp, hq⟩ : ∃ L E P, prs PT PT.size 0 [] = (L, E, P) := ⟨_, _, _, rfl⟩
  have hPs : PT.size ≤ 16777216 := by rw [← hPT]; exact prtB_size HF1.out (by omega)
  have hIVl : IV.length ≤ 1000000 := by rw [← hIV]; have := invA_len tx a; omega
  have hBOl : BO.length ≤ 1000000 := by rw [← hBO]; have := cmpL_len' tx.size a b; omega
  have hRDl : RD.length ≤ 1000000 := by have := (prs_lens PT PT.size 0 [] (Nat.zero_le _)).1; rw [hq] at this; simp only at this; omega
  have RI : Hid (∀ v, Below w.heap.size w v → Calls Tryd.prog 21 #[.string tx, .slice a1 a.length c1] v fun e w' => ∃ a' cap', e = .returned (.tuple #[.slice a' IV.length cap', .int .i64 ie]) ∧ EdsA w' a' IV ∧ Below v.heap.size v w') := fun v hv => by
    have := rinvert_all tx a1 c1 a v hx (H1.out.below hv) hl1 hC1 HF1.out (by omega)
    rw [hIV, hie] at this
    exact this.mono (fun e w' ⟨a', c', q1, q2, _, q4⟩ => ⟨a', c', q1, q2, q4⟩)
  have RC : Hid (∀ v, Below w.heap.size w v → Calls Tryd.prog 18 #[.int .i64 tx.size, .slice a1 a.length c1, .slice a2 b.length c2] v fun e w' => ∃ a' cap', e = .returned (.tuple #[.slice a' BO.length cap', .int .i64 be]) ∧ EdsA w' a' BO ∧ Below v.heap.size v w') := fun v hv => by
    have := rcompose_all tx.size a1 a2 c1 c2 a b v (by omega) (by omega) (H1.out.below hv) (H2.out.below hv) (by omega) (by omega) (by omega) (by omega)
    rw [hBO, hbe] at this
    exact this
  have RPt : Hid (∀ v, Below w.heap.size w v → Calls Tryd.prog 12 #[.slice a1 a.length c1] v fun e w' => e = .returned (.string PT) ∧ Below v.heap.size v w') := fun v hv => by
    have := rPrint_all a1 c1 a v (H1.out.below hv) HLa.out HF1.out (by omega) (HT.out.on hv).here
    rw [hPT] at this
    exact this
  have RPs : Hid (∀ v, Calls Tryd.prog 14 #[.string PT] v fun e w' => ∃ u, e = .returned (.tuple #[u, .int .i64 re, .int .i64 (rp : Nat)]) ∧ w'.ownsRow v.heap.size 45 3 u RD.length (flat RD) ∧ Below v.heap.size v w') := fun v => rparse_any PT v hPs RD re rp hq
  obtain ⟨v0, e0⟩ : ∃ v0, w.alloc (.cells (bxA (.slice none 0 0) (.slice none 0 0)) 54) = v0 := ⟨_, rfl⟩
  have HE0 : Hid (w.alloc (.cells #[.slice none 0 0, .slice none 0 0, .slice none 0 0, .slice none 0 0, .slice none 0 0, .slice none 0 0, .slice none 0 0, .slice none 0 0, .slice none 0 0, .slice none 0 0, .slice none 0 0, .slice none 0 0] 54) = v0) := e0
  have X0 : Hid (Bx v0 w.heap.size (bxA (.slice none 0 0) (.slice none 0 0)) 54) := by unfold Hid; rw [← e0]; exact Bx.new _ _ _
  have B0 : Hid (Below w.heap.size w v0) := by unfold Hid; rw [← e0]; exact (Below.refl _ w).alloc (Nat.le_refl _) _
  have Z0 : Hid (v0.heap.size = w.heap.size + 1) := by unfold Hid; rw [← e0]; simp
  clear e0
  go_enter Tryd.func7, Tryd.ntmps7
  go_wp2_with (first
    | (go_at_call 21; rw [HE0.out]; (with_reducible refine (RI.out _ B0.out).mono ?_); rintro e v1 ⟨ai, ki, rfl, q1, hb⟩; have B1 : Hid (Below v0.heap.size v0 v1) := hb; have A1 : Hid (EdsA v1 ai IV) := q1; clear hb q1)
    | (go_at_call 18; (with_reducible refine (RC.out _ (B0.out.trans (B1.out.mono B0.out.size))).mono ?_); rintro e v2 ⟨ab, kb, rfl, q1, hb⟩; have B2 : Hid (Below v0.heap.size v0 v2) := B1.out.trans (hb.mono B1.out.size); have A2 : Hid (EdsA v2 ai IV ∧ EdsA v2 ab BO) := ⟨A1.out.below hb, q1⟩; clear hb q1)
    | (go_at_call 12; (with_reducible refine (RPt.out _ (B0.out.trans (B2.out.mono B0.out.size))).mono ?_); rintro e v3 ⟨rfl, hb⟩; have B3 : Hid (Below v0.heap.size v0 v3) := B2.out.trans (hb.mono B2.out.size); have A3 : Hid (EdsA v3 ai IV ∧ EdsA v3 ab BO) := ⟨A2.out.1.below hb, A2.out.2.below hb⟩; clear hb)
    | (go_at_call 14; (with_reducible refine (RPs.out _).mono ?_); rintro e w0 ⟨ur, rfl, qo, hb⟩; obtain ⟨ar, kr, rfl, q1, -, -⟩ := own_form qo; have B4 : Hid (Below v0.heap.size v0 w0) := B3.out.trans (hb.mono B3.out.size); have A4 : Hid (EdsA w0 ai IV ∧ EdsA w0 ab BO ∧ EdsA w0 ar RD) := ⟨A3.out.1.below hb, A3.out.2.below hb, q1⟩; clear hb q1 qo))
  obtain ⟨NB, hNB⟩ : ∃ L, nrmA tx b = L := ⟨_, rfl⟩
  obtain ⟨nb, hnb⟩ : ∃ x, vld tx.size b = x := ⟨_, rfl⟩
  obtain ⟨NA, hNA⟩ : ∃ L, nrmA tx a = L := ⟨_, rfl⟩
  obtain ⟨MG, hMG⟩ : ∃ L, mgL tx.size a b = L := ⟨_, rfl⟩
  obtain ⟨me, hme⟩ : ∃ x, mgE tx.size a b = x := ⟨_, rfl⟩
  obtain ⟨CN, hCN⟩ : ∃ L, cmpL tx.size a [] = L := ⟨_, rfl⟩
  obtain ⟨ce, hce⟩ : ∃ x, cmpE tx.size a [] = x := ⟨_, rfl⟩
  obtain ⟨MN, hMN⟩ : ∃ L, mgL tx.size [] b = L := ⟨_, rfl⟩
  obtain ⟨mn, hmn⟩ : ∃ x, mgE tx.size [] b = x := ⟨_, rfl⟩
  have hNBl : NB.length ≤ 1000000 := by rw [← hNB]; have := nrmA_len tx b; omega
  have hNAl : NA.length ≤ 1000000 := by rw [← hNA]; have := nrmA_len tx a; omega
  have hMGl : MG.length ≤ 1000000 := by rw [← hMG]; have := mgL_len tx.size a b; omega
  have hCNl : CN.length ≤ 1000000 := by rw [← hCN]; have := cmpL_len' tx.size a []; omega
  have hMNl : MN.length ≤ 1000000 := by rw [← hMN]; have := mgL_len tx.size [] b; omega
  have CI : Hid (∀ v n V U rs us gc gd, Ow w.heap.size w0.heap.size n w0 v V U rs us gc gd a b → Calls Tryd.prog 22 #[.string tx, .slice (some ⟨gc, 0, none⟩) a.length (a.length + 3)] v fun e w' => ∃ u, e = .returned (.tuple #[u, .int .i64 ie]) ∧ w'.ownsRow v.heap.size 45 3 u IV.length (flat IV) ∧ Below v.heap.size v w') := fun v n V U rs us gc gd h => by
    have := invert_own tx (some ⟨gc, 0, none⟩) (a.length + 3) a v hx (.inr ⟨gc, 0, rfl, h.edsC.1.frontC⟩) hl1 HF1.out (by omega)
    rw [hIV, hie] at this
    exact this
  have CC : Hid (∀ v n V U rs us gc gd, Ow w.heap.size w0.heap.size n w0 v V U rs us gc gd a b → Calls Tryd.prog 17 #[.int .i64 tx.size, .slice (some ⟨gc, 0, none⟩) a.length (a.length + 3), .slice (some ⟨gd, 0, none⟩) b.length (b.length + 3)] v fun e w' => ∃ u, e = .returned (.tuple #[u, .int .i64 be]) ∧ w'.ownsRow v.heap.size 45 3 u BO.length (flat BO) ∧ Below v.heap.size v w') := fun v n V U rs us gc gd h => by
    have := compose_any tx.size (some ⟨gc, 0, none⟩) (some ⟨gd, 0, none⟩) (a.length + 3) (b.length + 3) a b v (by omega) (by omega) (.inr ⟨gc, 0, rfl, by omega, h.edsC.1.frontC⟩) (.inr ⟨gd, 0, rfl, by omega, h.edsC.2.frontC⟩) HLa.out HLb.out HF1.out (by omega) (by omega)
    rw [hBO, hbe] at this
    exact this
  have CNo : Hid (∀ v n V U rs us gc gd, Ow w.heap.size w0.heap.size n w0 v V U rs us gc gd a b → Calls Tryd.prog 17 #[.int .i64 tx.size, .slice (some ⟨gc, 0, none⟩) a.length (a.length + 3), .slice none 0 0] v fun e w' => ∃ u, e = .returned (.tuple #[u, .int .i64 ce]) ∧ w'.ownsRow v.heap.size 45 3 u CN.length (flat CN) ∧ Below v.heap.size v w') := fun v n V U rs us gc gd h => by
    have := compose_any tx.size (some ⟨gc, 0, none⟩) none (a.length + 3) 0 a [] v (by omega) (by omega) (.inr ⟨gc, 0, rfl, by omega, h.edsC.1.frontC⟩) (.inl rfl) HLa.out (by unfold maxLen; simp) HF1.out (by omega) (by simp [tots])
    rw [hCN, hce] at this
    exact this
  have NBo : Hid (∀ v n V U rs us gc gd, Ow w.heap.size w0.heap.size n w0 v V U rs us gc gd a b → Calls Tryd.prog 24 #[.string tx, .slice (some ⟨gd, 0, none⟩) b.length (b.length + 3)] v fun e w' => ∃ u, e = .returned (.tuple #[u, .int .i64 nb]) ∧ w'.ownsRow v.heap.size 45 3 u NB.length (flat NB) ∧ Below v.heap.size v w') := fun v n V U rs us gc gd h => by
    have := normal_own tx (some ⟨gd, 0, none⟩) (b.length + 3) b v hx (.inr ⟨gd, 0, rfl, h.edsC.2.frontC⟩) hl2 HF2.out
    rw [hNB, hnb] at this
    exact this
  have NAo : Hid (∀ v n V U rs us gc gd, Ow w.heap.size w0.heap.size n w0 v V U rs us gc gd a b → Calls Tryd.prog 24 #[.string tx, .slice (some ⟨gc, 0, none⟩) a.length (a.length + 3)] v fun e w' => ∃ u, e = .returned (.tuple #[u, .int .i64 ie]) ∧ w'.ownsRow v.heap.size 45 3 u NA.length (flat NA) ∧ Below v.heap.size v w') := fun v n V U rs us gc gd h => by
    have := normal_own tx (some ⟨gc, 0, none⟩) (a.length + 3) a v hx (.inr ⟨gc, 0, rfl, h.edsC.1.frontC⟩) hl1 HF1.out
    rw [hNA, hie] at this
    exact this
  have MGo : Hid (∀ v n V U rs us gc gd, Ow w.heap.size w0.heap.size n w0 v V U rs us gc gd a b → Calls Tryd.prog 25 #[.int .i64 tx.size, .slice (some ⟨gc, 0, none⟩) a.length (a.length + 3), .slice (some ⟨gd, 0, none⟩) b.length (b.length + 3)] v fun e w' => ∃ u, e = .returned (.tuple #[u, .int .i64 me]) ∧ w'.ownsRow v.heap.size 45 3 u MG.length (flat MG) ∧ Below v.heap.size v w') := fun v n V U rs us gc gd h => by
    have := merge_own tx.size (some ⟨gc, 0, none⟩) (some ⟨gd, 0, none⟩) (a.length + 3) (b.length + 3) a b v (by omega) (by omega) (.inr ⟨gc, 0, rfl, by omega, h.edsC.1.frontC⟩) (.inr ⟨gd, 0, rfl, by omega, h.edsC.2.frontC⟩) (fun h => by cases h) (fun h => by cases h) (by omega) (by omega) (by omega)
    rw [hMG, hme] at this
    exact this
  have MNo : Hid (∀ v n V U rs us gc gd, Ow w.heap.size w0.heap.size n w0 v V U rs us gc gd a b → Calls Tryd.prog 25 #[.int .i64 tx.size, .slice none 0 0, .slice (some ⟨gd, 0, none⟩) b.length (b.length + 3)] v fun e w' => ∃ u, e = .returned (.tuple #[u, .int .i64 mn]) ∧ w'.ownsRow v.heap.size 45 3 u MN.length (flat MN) ∧ Below v.heap.size v w') := fun v n V U rs us gc gd h => by
    have := merge_own tx.size none (some ⟨gd, 0, none⟩) 0 (b.length + 3) [] b v (by omega) (by omega) (.inl rfl) (.inr ⟨gd, 0, rfl, by omega, h.edsC.2.frontC⟩) (fun _ => rfl) (fun h => by cases h) (by simp) (by omega) (by simp [tots]; omega)
    rw [hMN, hmn] at this
    exact this
  have HW0 : Hid (Below w.heap.size w w0) := B0.out.trans (B4.out.mono B0.out.size)
  have X4 : Hid (Bx w0 w.heap.size (bxA (.slice none 0 0) (.slice none 0 0)) 54) := X0.out.below B4.out X0.out.lt
  have Z4 : Hid (w.heap.size < w0.heap.size) := by unfold Hid; have := B4.out.size; have := Z0.out; omega
  have CP : Hid (∀ v n V U rs us gc gd, Ow w.heap.size w0.heap.size n w0 v V U rs us gc gd a b → Calls Tryd.prog 8 #[.slice (some ⟨gc, 0, none⟩) a.length (a.length + 3)] v fun e w' => e = .returned (.string PT) ∧ Below v.heap.size v w') := fun v n V U rs us gc gd h => by
    have := Print_all (some ⟨gc, 0, none⟩) (a.length + 3) a v (.inr ⟨gc, 0, rfl, h.edsC.1.frontC⟩) HLa.out HF1.out (by omega) (HT.out.on (HW0.out.trans h.bel)).here
    rw [hPT] at this
    exact this
  have CR : Hid (∀ v, Calls Tryd.prog 9 #[.string PT] v fun e w' => ∃ u, e = .returned (.tuple #[u, .int .i64 re, .int .i64 (rp : Nat)]) ∧ w'.ownsRow v.heap.size 45 3 u RD.length (flat RD) ∧ Below v.heap.size v w') := fun v => parse_any PT v hPs RD re rp hq
  have LA : Hid (∀ v, Below w.heap.size w v → Calls Tryd.prog 11 #[.slice a1 a.length c1] v fun e w' => e = .returned (.slice (some ⟨v.heap.size, 0, none⟩) a.length (a.length + 3)) ∧ Below v.heap.size v w' ∧ w'.ownsRow v.heap.size 45 3 (.slice (some ⟨v.heap.size, 0, none⟩) (a.length + 3) (a.length + 3)) (a.length + 3) (flat (a ++ marks))) := fun v hv => lent_any a1 c1 a v (H1.out.below hv) HN1.out hl1
  have LB : Hid (∀ v, Below w.heap.size w v → Calls Tryd.prog 11 #[.slice a2 b.length c2] v fun e w' => e = .returned (.slice (some ⟨v.heap.size, 0, none⟩) b.length (b.length + 3)) ∧ Below v.heap.size v w' ∧ w'.ownsRow v.heap.size 45 3 (.slice (some ⟨v.heap.size, 0, none⟩) (b.length + 3) (b.length + 3)) (b.length + 3) (flat (b ++ marks))) := fun v hv => lent_any a2 c2 b v (H2.out.below hv) HN2.out hl2
  have KA : Hid (∀ v n V U rs us gc gd, Ow w.heap.size w0.heap.size n w0 v V U rs us gc gd a b → Calls Tryd.prog 13 #[.slice (some ⟨gc, 0, none⟩) a.length (a.length + 3), .slice a1 a.length c1] v fun e w' => e = .returned (.bool true) ∧ Below v.heap.size v w') := fun v n V U rs us gc gd h => kept_any gc a1 c1 a v h.edsC.1 (H1.out.below (HW0.out.trans h.bel)) hl1
  have KB' : Hid (∀ v n V U rs us gc gd, Ow w.heap.size w0.heap.size n w0 v V U rs us gc gd a b → Calls Tryd.prog 13 #[.slice (some ⟨gd, 0, none⟩) b.length (b.length + 3), .slice a2 b.length c2] v fun e w' => e = .returned (.bool true) ∧ Below v.heap.size v w') := fun v n V U rs us gc gd h => kept_any gd a2 c2 b v h.edsC.2 (H2.out.below (HW0.out.trans h.bel)) hl2
  have SAM : Hid (∀ v n V U rs us gc gd (x : Option Addr) (k : Nat) (y : Option Addr) (l : Nat) (L : List Ed), L.length ≤ 1000000 → Ow w.heap.size w0.heap.size n w0 v V U rs us gc gd a b → EdsA w0 y L → EdsA v x L → Calls Tryd.prog 10 #[.slice x L.length k, .slice y L.length l] v fun e w' => e = .returned (.bool true) ∧ Below v.heap.size v w') := fun v n V U rs us gc gd x k y l L hL h hy hxx => same_any x y k l L v hxx (h.zero.keepA rfl X4.out hy) (by unfold maxLen; omega)
  clear hIV hie hBO hbe hPT hq hNB hnb hNA hMG hme hCN hce hMN hmn RI RC RPt RPs A1 A2 A3 B1 B2 B3 HE0 X0
  go_loopg [16] 2 (fun gk st wr => ∃ (t : Nat) (V U : Value) (rs us : List Rr), gk = 2 - t ∧ t ≤ 2 ∧ st = .int .i64 (t : Int) ∧ Ow0 w.heap.size w0.heap.size (8 * t) w0 wr V U rs us)
  case atStart => exact ⟨0, _, _, [], [], rfl, Nat.zero_le _, rfl, ⟨X4.out, She.nil _ _ _ _ _, ⟨rfl, (fun i r u hr => by simp at hr)⟩, rfl, fun _ _ _ => rfl, Below.refl _ _, Nat.le_refl _, Z4.out⟩⟩
  case round =>
    obtain ⟨t, V, U, rs, us, rfl, ht, rfl, hO⟩ := hrel
    have O0 : Hid (Ow0 w.heap.size w0.heap.size (8 * t) w0 wr V U rs us) := hO
    clear hO
    by_cases ht2 : t < 2
    · have ht2' : (t : Int) < 2 := by omega
      have HWr : Hid (Below w.heap.size w wr) := HW0.out.trans O0.out.bel
      go_wp2_with (first
        | (go_at_call 11; (with_reducible refine (LA.out _ HWr.out).mono ?_); rintro e u1 ⟨rfl, hb, ro⟩; have D1 := hidO hb; have R1 := hidO ro; clear hb ro)
        | (go_at_call 11; (with_reducible refine (LB.out _ (HWr.out.trans (D1.out.mono HWr.out.size))).mono ?_); rintro e u2 ⟨rfl, hb, ro⟩; have P2 := hidO (O0.out.lent D1.out R1.out hb ro); have NE := hidO (show wr.heap.size ≠ u1.heap.size from Nat.ne_of_lt (R1.out.lt _ rfl).2); clear hb ro D1 R1)
        | (go_at_call 22; (with_reducible refine (CI.out _ _ _ _ _ _ _ _ P2.out).mono ?_); rintro e u3 ⟨ux, rfl, qo, hb⟩; obtain ⟨ax, kx, rfl, -, -, -⟩ := own_form qo; have P3 := hidO (P2.out.below hb); have QX3 := hidO (Pd.new P2.out qo); clear hb qo P2)
        | (go_at_call 17; (with_reducible refine (CC.out _ _ _ _ _ _ _ _ P3.out).mono ?_); rintro e u4 ⟨uy, rfl, qo, hb⟩; obtain ⟨ay, ky, rfl, -, -, -⟩ := own_form qo; have P4 := hidO (P3.out.below hb); have QX4 := hidO (QX3.out.below hb); have QY4 := hidO (Pd.new P3.out qo); have AXY := hidO (new_apart QX3.out.own qo); clear hb qo P3 QX3)
        | (go_at_call 8; (with_reducible refine (CP.out _ _ _ _ _ _ _ _ P4.out).mono ?_); rintro e u5 ⟨rfl, hb⟩; have P5 := hidO (P4.out.below hb); have QX5 := hidO (QX4.out.below hb); have QY5 := hidO (QY4.out.below hb); clear hb P4 QX4 QY4)
        | (go_at_call 9; (with_reducible refine (CR.out _).mono ?_); rintro e u6 ⟨uz, rfl, qo, hb⟩; obtain ⟨az, kz, rfl, -, -, -⟩ := own_form qo; have P6 := hidO (P5.out.below hb); have QX6 := hidO (QX5.out.below hb); have QY6 := hidO (QY5.out.below hb); have QZ6 := hidO (Pd.new P5.out qo); have AXZ := hidO (new_apart QX5.out.own qo); have AYZ := hidO (new_apart QY5.out.own qo); clear hb qo P5 QX5 QY5)
        | (go_at_call 10; (with_reducible refine (SAM.out _ _ _ _ _ _ _ _ _ _ _ _ _ hIVl P6.out A4.out.1 QX6.out.eds).mono ?_); rintro e u7 ⟨rfl, hb⟩; have P7 := hidO (P6.out.below hb); have QX7 := hidO (QX6.out.below hb); have QY7 := hidO (QY6.out.below hb); have QZ7 := hidO (QZ6.out.below hb); clear hb P6 QX6 QY6 QZ6)
        | (go_at_call 10; (with_reducible refine (SAM.out _ _ _ _ _ _ _ _ _ _ _ _ _ hBOl P7.out A4.out.2.1 QY7.out.eds).mono ?_); rintro e u8 ⟨rfl, hb⟩; have P8 := hidO (P7.out.below hb); have QX8 := hidO (QX7.out.below hb); have QY8 := hidO (QY7.out.below hb); have QZ8 := hidO (QZ7.out.below hb); clear hb P7 QX7 QY7 QZ7)
        | (go_at_call 10; (with_reducible refine (SAM.out _ _ _ _ _ _ _ _ _ _ _ _ _ hRDl P8.out A4.out.2.2 QZ8.out.eds).mono ?_); rintro e u9 ⟨rfl, hb⟩; have P9 := hidO (P8.out.below hb); have QX9 := hidO (QX8.out.below hb); have QY9 := hidO (QY8.out.below hb); have QZ9 := hidO (QZ8.out.below hb); clear hb P8 QX8 QY8 QZ8)
        | (go_at_call 23; (with_reducible refine (put_anyO P9.out QX9.out hIVl (by omega)).mono ?_); rintro e u10 ⟨⟨_, rfl⟩, V1, U1, rs1, us1, qO, qk⟩; have P10 := hidO qO; have QY10 := hidO (qk _ _ AXY.out QY9.out); have QZ10 := hidO (qk _ _ AXZ.out QZ9.out); clear qO qk P9 QX9 QY9 QZ9 AXY AXZ)
        | (go_at_call 23; (with_reducible refine (put_anyO P10.out QY10.out hBOl (by omega)).mono ?_); rintro e u11 ⟨⟨_, rfl⟩, V2, U2, rs2, us2, qO, qk⟩; have P11 := hidO qO; have QZ11 := hidO (qk _ _ AYZ.out QZ10.out); clear qO qk P10 QY10 QZ10 AYZ)
        | (go_at_call 23; (with_reducible refine (put_anyO P11.out QZ11.out hRDl (by omega)).mono ?_); rintro e u12 ⟨⟨_, rfl⟩, V3, U3, rs3, us3, qO, qk⟩; have P12 := hidO qO; clear qO qk P11 QZ11)
        | (go_at_call 24; (with_reducible refine (NBo.out _ _ _ _ _ _ _ _ P12.out).mono ?_); rintro e u13 ⟨uq0, rfl, qo, hb⟩; obtain ⟨aq0, kq0, rfl, -, -, -⟩ := own_form qo; have P13 := hidO (P12.out.below hb); have QN13 := hidO (Pd.new P12.out qo); clear hb qo P12)
        | (go_at_call 23; (with_reducible refine (put_anyO P13.out QN13.out hNBl (by omega)).mono ?_); rintro e u14 ⟨⟨_, rfl⟩, V4, U4, rs4, us4, qO, qk⟩; have P14 := hidO qO; clear qO qk P13 QN13)
        | (go_at_call 25; (with_reducible refine (MGo.out _ _ _ _ _ _ _ _ P14.out).mono ?_); rintro e u15 ⟨uq1, rfl, qo, hb⟩; obtain ⟨aq1, kq1, rfl, -, -, -⟩ := own_form qo; have P15 := hidO (P14.out.below hb); have QN15 := hidO (Pd.new P14.out qo); clear hb qo P14)
        | (go_at_call 23; (with_reducible refine (put_anyO P15.out QN15.out hMGl (by omega)).mono ?_); rintro e u16 ⟨⟨_, rfl⟩, V5, U5, rs5, us5, qO, qk⟩; have P16 := hidO qO; clear qO qk P15 QN15)
        | (go_at_call 17; (with_reducible refine (CNo.out _ _ _ _ _ _ _ _ P16.out).mono ?_); rintro e u17 ⟨uq2, rfl, qo, hb⟩; obtain ⟨aq2, kq2, rfl, -, -, -⟩ := own_form qo; have P17 := hidO (P16.out.below hb); have QN17 := hidO (Pd.new P16.out qo); clear hb qo P16)
        | (go_at_call 23; (with_reducible refine (put_anyO P17.out QN17.out hCNl (by omega)).mono ?_); rintro e u18 ⟨⟨_, rfl⟩, V6, U6, rs6, us6, qO, qk⟩; have P18 := hidO qO; clear qO qk P17 QN17)
        | (go_at_call 25; (with_reducible refine (MNo.out _ _ _ _ _ _ _ _ P18.out).mono ?_); rintro e u19 ⟨uq3, rfl, qo, hb⟩; obtain ⟨aq3, kq3, rfl, -, -, -⟩ := own_form qo; have P19 := hidO (P18.out.below hb); have QN19 := hidO (Pd.new P18.out qo); clear hb qo P18)
        | (go_at_call 23; (with_reducible refine (put_anyO P19.out QN19.out hMNl (by omega)).mono ?_); rintro e u20 ⟨⟨_, rfl⟩, V7, U7, rs7, us7, qO, qk⟩; have P20 := hidO qO; clear qO qk P19 QN19)
        | (go_at_call 24; (with_reducible refine (NAo.out _ _ _ _ _ _ _ _ P20.out).mono ?_); rintro e u21 ⟨uq4, rfl, qo, hb⟩; obtain ⟨aq4, kq4, rfl, -, -, -⟩ := own_form qo; have P21 := hidO (P20.out.below hb); have QN21 := hidO (Pd.new P20.out qo); clear hb qo P20)
        | (go_at_call 23; (with_reducible refine (put_anyO P21.out QN21.out hNAl (by omega)).mono ?_); rintro e u22 ⟨⟨_, rfl⟩, V8, U8, rs8, us8, qO, qk⟩; have P22 := hidO qO; clear qO qk P21 QN21)
        | (go_at_call 13; (with_reducible refine (KA.out _ _ _ _ _ _ _ _ P22.out).mono ?_); rintro e u23 ⟨rfl, hb⟩; have P23 := hidO (P22.out.below hb); clear hb P22)
        | (go_at_call 13; (with_reducible refine (KB'.out _ _ _ _ _ _ _ _ P23.out).mono ?_); rintro e u24 ⟨rfl, hb⟩; have P24 := hidO (P23.out.below hb); clear hb P23))
      obtain ⟨gc, hgc⟩ : ∃ g, g = wr.heap.size := ⟨_, rfl⟩
      obtain ⟨gd, hgd⟩ : ∃ g, g = u1.heap.size := ⟨_, rfl⟩
      rw [← hgc, ← hgd] at P24 NE ⊢
      have OS : Hid (Ow0 w.heap.size w0.heap.size (8 * (t + 1)) w0 u24 V8 U8 rs8 us8) := P24.out.zero
      have LS := hidO P24.out.lnC.1
      have LT := hidO P24.out.lnC.2
      have hal : a.length ≤ 262144 := by omega
      have hbl : b.length ≤ 262144 := by omega
      clear P24 hgc hgd O0 HWr CI CC CNo NBo NAo MGo MNo CP CR LA LB KA KB' SAM
      go_loopg [153] a.length (fun gk st wi => ∃ k : Nat, gk = a.length - k ∧ k ≤ a.length ∧ st = .int .i64 (k : Int) ∧ Ow0 w.heap.size w0.heap.size (8 * (t + 1)) w0 wi V8 U8 rs8 us8 ∧ Ln w0.heap.size wi rs8 us8 gc a.length ∧ Ln w0.heap.size wi rs8 us8 gd b.length)
      case atStart => exact ⟨0, rfl, Nat.zero_le _, rfl, OS.out, LS.out, LT.out⟩
      case round =>
        obtain ⟨k, rfl, hk, rfl, hO, hc, hd⟩ := hrel
        have OR := hidO hO
        have LC := hidO hc
        have LD := hidO hd
        clear hO hc hd OS LS LT
        by_cases hka : k < a.length
        · have hk1 : (k : Int) < (a.length : Int) := by omega
          have hk0 : (0 : Int) ≤ (k : Int) := by omega
          obtain ⟨⟨c0, d0⟩, f0, ⟨c1, d1⟩, f1, ⟨c2, d2⟩, f2, hO, hc, hd⟩ := write3 OR.out LC.out LD.out (Ne.symm NE.out) hka (.int .i64 3) (.int .i64 2) (.string ⟨#[111, 118, 101, 114]⟩)
          obtain ⟨w9, e9⟩ : ∃ w9, ((wr.setCell ⟨gc, k * 3, none⟩ (.int .i64 3)).setCell ⟨gc, k * 3 + 1, none⟩ (.int .i64 2)).setCell ⟨gc, k * 3 + 2, none⟩ (.string ⟨#[111, 118, 101, 114]⟩) = w9 := ⟨_, rfl⟩
          have HE9 := hidO e9
          rw [e9] at hO hc hd
          have OE := hidO hO
          have CE := hidO hc
          have DE := hidO hd
          clear hO hc hd e9
          go_wp2
          rw [HE9.out]
          go_roundg (a.length - (k + 1))
          case measure => omega
          case rel => exact ⟨k + 1, rfl, by omega, by go_num, OE.out, CE.out, DE.out⟩
        · have hka' : ¬ (k : Int) < (a.length : Int) := by omega
          go_wp2
          have OS := OR
          have LS := LC
          have LT := LD
          clear OR LC LD hk hka hka'
          go_loopg [163] b.length (fun gk st wi => ∃ k : Nat, gk = b.length - k ∧ k ≤ b.length ∧ st = .int .i64 (k : Int) ∧ Ow0 w.heap.size w0.heap.size (8 * (t + 1)) w0 wi V8 U8 rs8 us8 ∧ Ln w0.heap.size wi rs8 us8 gc a.length ∧ Ln w0.heap.size wi rs8 us8 gd b.length)
          case atStart => exact ⟨0, rfl, Nat.zero_le _, rfl, OS.out, LS.out, LT.out⟩
          case round =>
            obtain ⟨k, rfl, hk, rfl, hO, hc, hd⟩ := hrel
            have OR := hidO hO
            have LC := hidO hc
            have LD := hidO hd
            clear hO hc hd OS LS LT
            by_cases hka : k < b.length
            · have hk1 : (k : Int) < (b.length : Int) := by omega
              have hk0 : (0 : Int) ≤ (k : Int) := by omega
              obtain ⟨⟨c0, d0⟩, f0, ⟨c1, d1⟩, f1, ⟨c2, d2⟩, f2, hO, hc, hd⟩ := write3 OR.out LD.out LC.out NE.out hka (.int .i64 5) (.int .i64 4) (.string ⟨#[119, 114, 105, 116, 116, 101, 110]⟩)
              obtain ⟨w9, e9⟩ : ∃ w9, ((wr.setCell ⟨gd, k * 3, none⟩ (.int .i64 5)).setCell ⟨gd, k * 3 + 1, none⟩ (.int .i64 4)).setCell ⟨gd, k * 3 + 2, none⟩ (.string ⟨#[119, 114, 105, 116, 116, 101, 110]⟩) = w9 := ⟨_, rfl⟩
              have HE9 := hidO e9
              rw [e9] at hO hc hd
              have OE := hidO hO
              have CE := hidO hd
              have DE := hidO hc
              clear hO hc hd e9
              go_wp2
              rw [HE9.out]
              go_roundg (b.length - (k + 1))
              case measure => omega
              case rel => exact ⟨k + 1, rfl, by omega, by go_num, OE.out, CE.out, DE.out⟩
            · have hka' : ¬ (k : Int) < (b.length : Int) := by omega
              go_wp2
              go_roundg (2 - (t + 1))
              case measure => omega
              case rel => exact ⟨t + 1, V8, U8, rs8, us8, rfl, by omega, by go_num, OR.out⟩
    · have ht2' : ¬ (t : Int) < 2 := by omega
      go_wp2_with (go_at_call 26; (with_reducible refine (own_any w.heap.size w0.heap.size _ V U rs us O0.out.box O0.out.she O0.out.sti (by rw [O0.out.len]; omega) O0.out.bB O0.out.sz).mono ?_); rintro e w9 ⟨rfl, hb9⟩; have B9 : Hid (Below w.heap.size w w9) := (HW0.out.trans O0.out.bel).trans hb9; clear hb9)
      go_ret
      exact ⟨rfl, B9.out⟩
end Go.Proofs.YteolfolkolpehaaDoor
