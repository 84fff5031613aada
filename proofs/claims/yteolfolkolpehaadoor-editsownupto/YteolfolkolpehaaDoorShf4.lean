import Derived.Test.YteolfolkolpehaaDoorShf3
namespace Go.Proofs.YteolfolkolpehaaDoor
open Go.ChangeShapes Go.WideShapes Go.ChangeAt Go.RowKit
set_option linter.unusedVariables false
set_option linter.unusedSimpArgs false

theorem Sti.n {rs us : List Rr} (h : Sti rs us) : ∀ r ∈ rs, r.n ≤ 1000000 := fun r hr => by
  obtain ⟨i, hi⟩ := List.getElem?_of_mem hr
  have hl := (List.getElem?_eq_some_iff.1 hi).1
  obtain ⟨u, hu⟩ : ∃ u, us[i]? = some u := ⟨_, List.getElem?_eq_getElem (by have := h.1; omega)⟩
  obtain ⟨E, h1, -, -, -, h2⟩ := h.2 i r u hi hu
  omega
theorem vn_at {ts rs : List Rr} (h : ts.map vn = rs.map vn) {j : Nat} {t : Rr} (ht : ts[j]? = some t) : ∃ r, rs[j]? = some r ∧ r.n = t.n := by
  have h1 : (ts.map vn)[j]? = some (vn t) := by rw [List.getElem?_map, ht]; rfl
  rw [h, List.getElem?_map] at h1
  obtain ⟨q, hq, he⟩ := Option.map_eq_some_iff.1 h1
  exact ⟨q, hq, congrArg Prod.snd he⟩

theorem marked0_any (b B : Nat) (w : World) (V U : Value) (ts us : List Rr) (hbx : Bx w b (bxA V U) 54) (hS : She 45 22 3 B w V U ts us) (hM : Mkd 0 ts us) (hts : ts.length ≤ 1000) :
    Calls Tryd.prog 55 #[.pointer (some ⟨b, 0, none⟩), .int .i64 0] w fun e w' => e = .returned (.bool true) ∧ Below w.heap.size w w' := marked_any b B 0 w V U ts us hbx hS hM hts (by decide)
theorem marked70_any (b B : Nat) (w : World) (V U : Value) (ts us : List Rr) (hbx : Bx w b (bxA V U) 54) (hS : She 45 22 3 B w V U ts us) (hM : Mkd 70 ts us) (hts : ts.length ≤ 1000) :
    Calls Tryd.prog 55 #[.pointer (some ⟨b, 0, none⟩), .int .i64 70] w fun e w' => e = .returned (.bool true) ∧ Below w.heap.size w w' := marked_any b B 70 w V U ts us hbx hS hM hts (by decide)

set_option maxRecDepth 1000000 in
set_option maxHeartbeats 2000000 in
/-- what is on the shelf is the asker's own -/
theorem own_any (b B : Nat) (w : World) (V U : Value) (rs us : List Rr) (hbx : Bx w b (bxA V U) 54) (hS : She 45 22 3 B w V U rs us) (hE : Sti rs us) (hrs : rs.length ≤ 1000) (hbB : b < B) (hBw : B ≤ w.heap.size) :
    Calls Tryd.prog 26 #[.pointer (some ⟨b, 0, none⟩)] w fun e w' => e = .returned (.bool true) ∧ Below b w w' := by
  have HX : Hid (Bx w b (bxA V U) 54) := hbx
  have HS : Hid (She 45 22 3 B w V U rs us) := hS
  have HE : Hid (Sti rs us) := hE
  clear hbx hS hE
  go_enter Tryd.func26, Tryd.ntmps26
  go_wp2_with (first
    | (go_at_call 53; (with_reducible refine (still_any b B _ V U rs us HX.out HS.out HE.out hrs).mono ?_); rintro e w1 ⟨rfl, hb1⟩; have X1 : Hid (Bx w1 b (bxA V U) 54) := HX.out.below hb1 HX.out.lt; have S1 : Hid (She 45 22 3 B w1 V U rs us) := HS.out.below hb1; have B1 : Hid (Below b w w1) := hb1.mono (by omega); have Z1 : Hid (B ≤ w1.heap.size) := Nat.le_trans hBw hb1.size; clear hb1)
    | (go_at_call 54; (with_reducible refine (fill_any b B _ V U rs us X1.out S1.out hrs HE.out.n hbB).mono ?_); rintro e w2 ⟨⟨x, rfl⟩, ts, hx2, hs2, hv2, hm2, hb2⟩; have X2 : Hid (Bx w2 b (bxA V U) 54) := hx2; have S2 : Hid (She 45 22 3 B w2 V U ts us) := hs2; have V2 : Hid (ts.map vn = rs.map vn) := hv2; have M2 : Hid (∀ j t, ts[j]? = some t → t.xs = flat (List.replicate t.n (mkE j))) := hm2; have B2 : Hid (Below b w w2) := B1.out.trans hb2; have Z2 : Hid (B ≤ w2.heap.size) := Nat.le_trans Z1.out hb2.size; have K2 : Hid (Mkd 0 ts us) := ⟨(vn_len hv2).trans HE.out.1, fun j t u ht hu => (by obtain ⟨r, hr, hn⟩ := vn_at hv2 ht; obtain ⟨E, q1, -, q3, -, q5⟩ := HE.out.2 j r u hr hu; exact ⟨by omega, hm2 j t ht, by omega⟩)⟩; have N2 : Hid (∀ r ∈ ts, r.n ≤ 1000000) := (fun t ht => by obtain ⟨j, hj⟩ := List.getElem?_of_mem ht; obtain ⟨r, hr, hn⟩ := vn_at hv2 hj; have := HE.out.n r (List.mem_of_getElem? hr); omega); have L2 : Hid (ts.length ≤ 1000) := (by unfold Hid; rw [vn_len hv2]; exact hrs); have G2 : Hid (Grn 0 0 ts ts) := ⟨rfl, fun j r t hr ht => (by rw [hr] at ht; cases ht; exact ⟨by simp, hm2 j r hr⟩)⟩; clear hx2 hs2 hv2 hm2 hb2)
    | (go_at_call 55; (with_reducible refine (marked0_any b B _ V U ts us X2.out S2.out K2.out L2.out).mono ?_); rintro e w3 ⟨rfl, hb3⟩; have X3 : Hid (Bx w3 b (bxA V U) 54) := X2.out.below hb3 X2.out.lt; have S3 : Hid (She 45 22 3 B w3 V U ts us) := S2.out.below hb3; have B3 : Hid (Below b w w3) := B2.out.trans (hb3.mono (by have := Z2.out; omega)); have Z3 : Hid (B ≤ w3.heap.size) := Nat.le_trans Z2.out hb3.size; clear hb3)
    | (go_at_call 56; (with_reducible refine (grow_any b B _ V U ts us X3.out S3.out L2.out N2.out G2.out hbB Z3.out).mono ?_); rintro e w4 ⟨⟨x, rfl⟩, ys, hx4, hs4, hg4, hb4⟩; have X4 : Hid (Bx w4 b (bxA V U) 54) := hx4; have S4 : Hid (She 45 22 3 B w4 V U ys us) := hs4; have B4 : Hid (Below b w w4) := B3.out.trans hb4; have Z4 : Hid (B ≤ w4.heap.size) := Nat.le_trans Z3.out hb4.size; have L4 : Hid (ys.length ≤ 1000) := (by unfold Hid; rw [hg4.1]; exact L2.out); have K4 : Hid (Mkd 70 ys us) := ⟨hg4.1.trans K2.out.1, fun j t u ht hu => (by obtain ⟨r, hr⟩ : ∃ r, ts[j]? = some r := ⟨_, List.getElem?_eq_getElem (by have := (List.getElem?_eq_some_iff.1 ht).1; have := hg4.1; omega)⟩; obtain ⟨q1, q2⟩ := hg4.2 j r t hr ht; obtain ⟨p1, -, p3⟩ := K2.out.2 j r u hr hu; have p4 := N2.out r (List.mem_of_getElem? hr); rw [if_neg (Nat.not_lt_zero _)] at q1; exact ⟨by omega, q2, by omega⟩)⟩; clear hx4 hs4 hg4 hb4)
    | (go_at_call 55; (with_reducible refine (marked70_any b B _ V U ys us X4.out S4.out K4.out L4.out).mono ?_); rintro e w5 ⟨rfl, hb5⟩; have B5 : Hid (Below b w w5) := B4.out.trans (hb5.mono (by have := Z4.out; omega)); clear hb5))
  go_ret
  exact ⟨rfl, B5.out⟩
end Go.Proofs.YteolfolkolpehaaDoor
