import Derived.Test.YtcanabbjliloeaaDoorSk1
import Derived.Test.YtcanabbjliloeaaDoorApA
namespace Go.Proofs.YtcanabbjliloeaaDoor
open Go.ChangeShapes Go.WideShapes Go.ChangeAt Go.RowKit
set_option linter.unusedVariables false

/-- the two lists of the kinds' names, as they lie -/
structure NmcAt (nmL : List (List UInt8)) (v : World) : Prop where
  code : ∀ i, i < 58 → v.cell? ⟨0, i, none⟩ = some (.string ⟨(nmL.getD i []).toArray⟩)
theorem NmcAt.below {nmL : List (List UInt8)} {v w : World} (h : NmcAt nmL v) (hb : Below v.heap.size v w) : NmcAt nmL w :=
  ⟨fun i hi => (hb.cell (World.block_lt_of_cell? _ _ (h.code i hi))).trans (h.code i hi)⟩
def nmF (nmL : List (List UInt8)) (k : Nat) : List UInt8 := nmL.getD k []
theorem nd_kind {ns : List Nd} (h : shB ns = true) {n : Nat} {x : Nd} (hx : ns[n]? = some x) : x.k < 58 := by
  have h1 := (shB_parts h).2 n (List.getElem?_eq_some_iff.1 hx).1
  rw [okN_at hx, Bool.and_eq_true] at h1
  exact of_decide_eq_true h1.1
theorem isB_bel {T e : TypeId} {B b B' : Nat} {bs : List Value} {w w' : World} (h : Lib.IsBuilder T e B b bs w) (hb : Below B' w w') (hB : w.heap.size ≤ B') : Lib.IsBuilder T e B b bs w' := by
  have key : ∀ p, Lib.BuilderAt T e B b p bs w → Lib.BuilderAt T e B b p bs w' := fun p ⟨h1, v, h2, h3, h4⟩ =>
    ⟨h1, v, (hb.block b (Nat.lt_of_lt_of_le (lt_of_block h2) hB)).trans h2, ownsRow_below h3 hb hB, h4⟩
  rcases h with h | h
  · exact .inl (key _ h)
  · exact .inr (key _ h)
theorem isB_grw {T e e' : TypeId} {B b : Nat} {bs : List Value} {w w' : World} {row : Option Nat} (h : Lib.IsBuilder T e B b bs w) (hg : w.grownBy w' row) (hr : ∀ g, row = some g → ∃ c fz, w.heap[g]? = some (.cells c e' fz)) (h1 : e' ≠ e) (h2 : e' ≠ T) : Lib.IsBuilder T e B b bs w' := by
  have same : ∀ (k : Nat) (c : Array Value) (t : TypeId) (fz : Nat × Nat), w.heap[k]? = some (.cells c t fz) → e' ≠ t → w'.heap[k]? = some (.cells c t fz) := by
    intro k c t fz hk hne
    rw [hg.block k (lt_of_block hk) (fun hrow => ?_)]
    · exact hk
    · obtain ⟨c', fz', h'⟩ := hr k hrow.symm
      rw [hk] at h'
      cases h'
      exact hne rfl
  have key : ∀ p, Lib.BuilderAt T e B b p bs w → Lib.BuilderAt T e B b p bs w' := fun p ⟨k1, v, k2, k3, k4⟩ => by
    refine ⟨k1, v, same b _ _ _ k2 h2, ⟨k3.1, ?_⟩, k4⟩
    rcases k3.2 with k | ⟨g, cap, cur, hv, hgb, hh, r⟩
    · exact .inl k
    · exact .inr ⟨g, cap, cur, hv, hgb, same g _ _ _ hh h1, r⟩
  rcases h with h | h
  · exact .inl (key _ h)
  · exact .inr (key _ h)
/-- the builder and the open ends, beside one another -/
structure SkS (b : Nat) (w1 wr : World) (o : List UInt8) (st : List Nat) (a : Option Addr) (cap : Nat) : Prop where
  own : wr.ownsRow (b + 1) 3 1 (.slice a st.length cap) st.length (flat (rv st))
  bld : Lib.IsBuilder 42 5 b b (Lib.byteCells o) wr
  bel : Below b w1 wr
  sz : b + 1 ≤ wr.heap.size
theorem SkS.on {b : Nat} {w1 wr wx : World} {o : List UInt8} {st : List Nat} {a : Option Addr} {cap : Nat} (h : SkS b w1 wr o st a cap) (hb : Below wr.heap.size wr wx) : SkS b w1 wx o st a cap :=
  ⟨ownsRow_below h.own hb (Nat.le_refl _), isB_bel h.bld hb (Nat.le_refl _), h.bel.trans (hb.mono (by have := h.sz; omega)), by have := h.sz; have := hb.size; omega⟩
theorem cells_rep (o : List UInt8) (c : Nat) : Lib.byteCells (o ++ List.replicate c 41) = Lib.byteCells o ++ List.replicate c (.int .u8 41) := by
  rw [Lib.byteCells_append]
  congr 1
  simp [Lib.byteCells]
theorem closeS {b : Nat} {w1 wr : World} {o : List UInt8} {st : List Nat} {a : Option Addr} {cap : Nat} (h : SkS b w1 wr o st a cap) (n : Nat) (hn : n ≤ 105553116266496) (hl : o.length + st.length ≤ 105553116266496) :
    Calls Tryd.prog 9 #[.pointer (some ⟨b, 0, none⟩), .slice a st.length cap, .int .i64 (n : Int)] wr fun e w' => e = .returned (.slice a (pops n st).2.length cap) ∧ SkS b w1 w' (o ++ List.replicate (pops n st).1 41) (pops n st).2 a cap ∧ Lib.OthersKept 5 (some b) wr w' := by
  refine (closeTo_any b b (b + 1) _ st n a cap wr h.bld h.own (by rw [Lib.byteCells_length]; exact hl) hn (by omega) (by have := h.sz; omega)).mono ?_
  rintro e w' ⟨rfl, h1, h2, h3, h4⟩
  exact ⟨rfl, ⟨h2, by rw [cells_rep]; exact h1, h.bel.trans h3, by have := h.sz; have := h3.size; omega⟩, h4⟩
theorem byteS {b : Nat} {w1 wr : World} {o : List UInt8} {st : List Nat} {a : Option Addr} {cap : Nat} (h : SkS b w1 wr o st a cap) (c : UInt8) (hl : o.length + st.length ≤ 105553116266496) :
    Calls Tryd.prog 10 #[.pointer (some ⟨b, 0, none⟩), .int .u8 (c.toNat : Int)] wr fun e w' => e = .returned .nilIface ∧ SkS b w1 w' (o ++ [c]) st a cap ∧ Lib.OthersKept 5 (some b) wr w' := by
  refine (writeByte_k b b _ (c.toNat : Int) wr h.bld (by rw [Lib.byteCells_length]; omega) (by have := h.sz; omega)).mono ?_
  rintro e w' ⟨rfl, h1, h2, h3⟩
  exact ⟨rfl, ⟨row_others h.own h3 (by omega) (by decide), by rw [Lib.byteCells_append]; exact .inr h1, h.bel.trans h2, by have := h.sz; have := h2.size; omega⟩, h3⟩
theorem strS {b : Nat} {w1 wr : World} {o : List UInt8} {st : List Nat} {a : Option Addr} {cap : Nat} (h : SkS b w1 wr o st a cap) (t : List UInt8) (hl : o.length + st.length ≤ 105553116266496) (ht : t.length ≤ 12) :
    Calls Tryd.prog 11 #[.pointer (some ⟨b, 0, none⟩), .string ⟨t.toArray⟩] wr fun e w' => (∃ v, e = .returned v) ∧ SkS b w1 w' (o ++ t) st a cap ∧ Lib.OthersKept 5 (some b) wr w' := by
  have hz : (⟨t.toArray⟩ : ByteArray).size = t.length := by simp [ByteArray.size]
  refine (writeString_k b b _ ⟨t.toArray⟩ wr h.bld (by rw [Lib.byteCells_length, hz]; omega) (by have := h.sz; omega)).mono ?_
  rintro e w' ⟨rfl, h1, h2, h3⟩
  refine ⟨⟨_, rfl⟩, ⟨row_others h.own h3 (by omega) (by decide), ?_, h.bel.trans h2, by have := h.sz; have := h2.size; omega⟩, h3⟩
  rw [Lib.byteCells_append]
  have e1 : Lib.strCells (⟨t.toArray⟩ : ByteArray) = Lib.byteCells t := by rw [Lib.strCells_eq]
  rw [e1] at h1
  exact .inr h1

theorem bx_oth {w w' : World} {g b : Nat} {vs : Array Value} {t e : TypeId} (h : Bx w g vs t) (hk : Lib.OthersKept e (some b) w w') (hg : g ≠ b) (hne : t ≠ e) : Bx w' g vs t :=
  hk g _ h (fun e => hg (Option.some.inj e)) (fun c fz hc => by cases hc; exact hne rfl)
theorem SkS.push {b : Nat} {w1 wr w9 : World} {o : List UInt8} {st : List Nat} {a : Option Addr} {cap : Nat} (h : SkS b w1 wr o st a cap) {n : Nat} {x : Int} (hx : x = (n : Int)) {ob : Obj} {v9 : Value} (hown : w9.ownsRow (b + 1) 3 1 v9 (st.length + 1) (flat (rv st) ++ flat [x])) (hg : (wr.alloc ob).grownBy w9 (Value.slice a st.length cap).ownBlock) :
    ∃ a9 c9, v9 = .slice a9 (n :: st).length c9 ∧ SkS b w1 w9 o (n :: st) a9 c9 := by
  obtain ⟨a9, c9, rfl⟩ : ∃ a9 c9, v9 = .slice a9 (st.length + 1) c9 := by
    rcases hown.2 with ⟨_, h0⟩ | ⟨g, c, cur, hv, _⟩
    · omega
    · exact ⟨_, c, hv⟩
  have hz := h.sz
  refine ⟨a9, c9, rfl, ?_, ?_, ?_, ?_⟩
  · rw [rv_cons, flat_append, ← hx]; exact hown
  · exact isB_grw (isB_bel h.bld ((Below.refl _ wr).alloc (Nat.le_refl _) ob) (Nat.le_refl _)) hg (row_kind (h.own.alloc ob)) (by decide) (by decide)
  · exact (h.bel.alloc (by omega) ob).grown hg (by simp; omega) (fun g hh => by have := (h.own.lt g hh).1; omega)
  · have := hg.size; simp at this; omega

/-- what Sketch answers -/
def skB (nmL : List (List UInt8)) (ns : List Nd) : ByteArray := if shB ns then ⟨(cz (nmF nmL) ns).toArray⟩ else ⟨#[]⟩

set_option maxRecDepth 1000000 in
set_option maxHeartbeats 4000000 in
theorem sketch_big (nmL : List (List UInt8)) (hm : ∀ k, (nmF nmL k).length ≤ 12) (a : Option Addr) (cap : Nat) (ns : List Nd) (w : World) (h : LiesA w a ns) (hl : ns.length ≤ 4398046510976) (hf : ∀ e ∈ ns, NdFit e) (hN : NmcAt nmL w) :
    Calls Tryd.prog 5 #[.agg #[.slice a ns.length cap]] w fun e w' => e = .returned (.string (skB nmL ns)) ∧ Below w.heap.size w w' := by
  obtain ⟨i0, hi, hz0, hz1i, hz2i⟩ := info_parts infoInt
  have H : Hid (LiesA w a ns) := h
  have HF : Hid (∀ e ∈ ns, NdFit e) := hf
  have HN : Hid (NmcAt nmL w) := hN
  clear h hf hN
  cases hs : shB ns with
  | false =>
    have hR : skB nmL ns = ⟨#[]⟩ := by unfold skB; rw [hs]; rfl
    rw [hR]
    have NS : Hid (∀ v, LiesA v a ns → Calls Tryd.prog 8 #[.agg #[.slice a ns.length cap]] v fun e w' => e = .returned (.bool false) ∧ Below v.heap.size v w') := fun v hv => by rw [← hs]; exact nested_any a cap ns v hv (by omega) HF.out
    clear hR hs
    go_enter Tryd.func5, Tryd.ntmps5
    go_wp2_with fail
    refine (NS.out _ (H.out.below ((Below.refl _ w).alloc (Nat.le_refl _) _))).mono ?_
    rintro e w1 ⟨rfl, hb⟩
    have HB1 : Hid (Below w.heap.size w w1) := ((Below.refl _ w).alloc (Nat.le_refl _) _).trans (hb.mono (by simp))
    clear hb
    go_wp2
    go_ret
    exact ⟨rfl, HB1.out⟩
  | true =>
    have hR : skB nmL ns = ⟨(cz (nmF nmL) ns).toArray⟩ := by unfold skB; rw [hs]; rfl
    rw [hR]
    have NS : Hid (∀ v, LiesA v a ns → Calls Tryd.prog 8 #[.agg #[.slice a ns.length cap]] v fun e w' => e = .returned (.bool true) ∧ Below v.heap.size v w') := fun v hv => by rw [← hs]; exact nested_any a cap ns v hv (by omega) HF.out
    have HS : Hid (shB ns = true) := hs
    obtain ⟨w0, e0, hw0, hs0, B0⟩ := bx1 w #[.slice a ns.length cap] 25
    have HE0 : Hid (w.alloc (.cells #[.slice a ns.length cap] 25) = w0) := e0
    have HW0 : Hid (Below w.heap.size w w0) := hw0
    have HX0 : Hid (Bx w0 w.heap.size #[.slice a ns.length cap] 25) := B0
    have hs0' : w0.heap.size = w.heap.size + 1 := hs0
    clear hR hs hw0 hs0 B0 e0
    go_enter Tryd.func5, Tryd.ntmps5
    go_wp2_with fail
    rw [HE0.out]
    refine (NS.out _ (H.out.below HW0.out)).mono ?_
    rintro e w1 ⟨rfl, hb⟩
    have HX1 : Hid (Bx w1 w.heap.size #[.slice a ns.length cap] 25) := HX0.out.below hb (by omega)
    have HW1 : Hid (Below w.heap.size w w1) := HW0.out.trans (hb.mono HW0.out.size)
    have hs1 : w.heap.size + 1 ≤ w1.heap.size := by have := hb.size; omega
    have x1 := (HX1.out.alloc (.cells #[.pointer none, .slice none 0 0] 42)).cell 0
    clear hb
    have S0 : Hid (SkS w1.heap.size w1 (w1.alloc (.cells #[.pointer none, .slice none 0 0] 42)) [] [] none 0) := ⟨World.ownsRow_nil _ _ _ _, Lib.fresh_isBuilder 42 5 w1, (Below.refl _ _).alloc (Nat.le_refl _) _, by simp⟩
    go_wp2_with fail
    clear x1
    obtain ⟨b, hb⟩ : ∃ b, w1.heap.size = b := ⟨_, rfl⟩
    rw [hb] at S0 hs1
    rw [hb]
    go_loopg [4, 13] ns.length (fun gk so si wr => ∃ (k : Nat) (a' : Option Addr) (cap' : Nat), gk = ns.length - k ∧ k ≤ ns.length ∧ so = .slice a' (ck (nmF nmL) ns k).2.length cap' ∧ si = .int .i64 (k : Int) ∧ SkS b w1 wr (ck (nmF nmL) ns k).1 (ck (nmF nmL) ns k).2 a' cap')
    case atStart => exact ⟨0, none, 0, rfl, Nat.zero_le _, rfl, rfl, S0.out⟩
    case round =>
      obtain ⟨k, a', cap', rfl, hk, rfl, rfl, hS⟩ := hrel
      have SR : Hid (SkS b w1 wr (ck (nmF nmL) ns k).1 (ck (nmF nmL) ns k).2 a' cap') := hS
      have hcl := ck_len (nmF nmL) hm ns k
      have hcs := ck_st (nmF nmL) ns k
      have x1 : wr.cell? ⟨w.heap.size, 0, none⟩ = some (.slice a ns.length cap) := (hS.bel.cell (p := ⟨w.heap.size, 0, none⟩) (by show w.heap.size < b; omega)).trans HX1.out.one
      clear S0 hS
      by_cases hlt : k < ns.length
      · obtain ⟨x, hx⟩ : ∃ e, ns[k]? = some e := ⟨_, List.getElem?_eq_getElem hlt⟩
        rcases H.out with h0 | ⟨b2, o2, rfl, hL2⟩
        · rw [h0] at hlt; simp at hlt
        have HWR : Hid (Below w.heap.size w wr) := HW1.out.trans (SR.out.bel.mono (by omega))
        obtain ⟨d0, d1, d2, d3⟩ := hL2.nd HWR.out hx
        have hkd := nd_kind HS.out hx
        have hkf := (HF.out x (List.mem_of_getElem? hx)).1
        have hzf := size_pos HS.out hx
        have hnx := nd_at hx
        obtain ⟨xk, xf, xe, xz⟩ := x
        simp only at d0 d1 d2 d3 hkd hkf hzf
        obtain ⟨kk, rfl⟩ : ∃ kk : Nat, xk = (kk : Int) := ⟨xk.toNat, by omega⟩
        obtain ⟨z, rfl⟩ : ∃ z : Nat, xz = (z : Int) := ⟨xz.toNat, by omega⟩
        have hkk : kk < 58 := by omega
        have hlt' : (k : Int) < (ns.length : Int) := by omega
        obtain ⟨o, st, hck⟩ : ∃ o st, ck (nmF nmL) ns k = (o, st) := ⟨_, _, rfl⟩
        rw [hck] at SR hcl hcs
        simp only at SR hcl hcs
        have HST : Hid (st.length ≤ ns.length) := Nat.le_trans hcs hk
        clear hcs
        rw [hck]
        have HNX : Hid (nd ns k = ⟨(kk : Int), xf, xe, (z : Int)⟩) := hnx
        have HCK : Hid (ck (nmF nmL) ns k = (o, st)) := hck
        obtain ⟨w2, e2, hb2, hs2, B2⟩ := bx1 wr #[.int .u8 (kk : Int), .int .i64 xf, .int .i64 xe, .int .i64 (z : Int)] 37
        have HE2 : Hid (wr.alloc (.cells #[.int .u8 (kk : Int), .int .i64 xf, .int .i64 xe, .int .i64 (z : Int)] 37) = w2) := e2
        have HB2 : Hid (Bx w2 wr.heap.size #[.int .u8 (kk : Int), .int .i64 xf, .int .i64 xe, .int .i64 (z : Int)] 37) := B2
        have S2 : Hid (SkS b w1 w2 o st a' cap') := SR.out.on hb2
        have HV2 : Hid (Below w.heap.size w w2) := HWR.out.trans (hb2.mono HWR.out.size)
        have hzr := S2.out.sz
        have hzw := SR.out.sz
        have x2 : w2.cell? ⟨w.heap.size, 0, none⟩ = some (.slice (some ⟨b2, o2, none⟩) ns.length cap) := (S2.out.bel.cell (p := ⟨w.heap.size, 0, none⟩) (by show w.heap.size < b; omega)).trans HX1.out.one
        have NM : Hid (∀ v, Below w.heap.size w v → v.cell? ⟨0, kk, none⟩ = some (.string ⟨(nmF nmL kk).toArray⟩)) := fun v hv => (HN.out.below hv).code kk hkk
        have HL2 : Hid (Lies w b2 o2 ns) := hL2
        clear hnx hck hb2 hs2 B2 x1 hL2 hx
        by_cases hk0 : k = 0
        · have hk0' : ¬ (0 : Int) < (k : Int) := by omega
          have HLN : Hid (o.length + st.length ≤ 87960930222080) := by unfold Hid; omega
          have KY : ck1 ns k (o, st) = (o, st) := by unfold ck1; rw [if_neg (fun h => by omega)]
          clear hk0
          have n0 := (HB2.out).cell 0
          have n1 := NM.out _ (HW1.out.trans (S2.out.bel.mono (by omega)))
          by_cases hz1 : 1 < z
          · have hz1' : (1 : Int) < (z : Int) := by omega
            have HCN : Hid (ck (nmF nmL) ns (k + 1) = (o ++ nmF nmL kk ++ [40], (k + z) :: st)) := by
              unfold Hid
              rw [ck, HCK.out, HNX.out, KY, ck2, if_pos (show (1 : Int) < (z : Int) from hz1')]
              rfl
            have BY : Hid (∀ v, SkS b w1 v (o ++ nmF nmL kk) (st) a' cap' → Calls Tryd.prog 10 #[.pointer (some ⟨b, 0, none⟩), .int .u8 40] v fun e w' => e = .returned .nilIface ∧ SkS b w1 w' (o ++ nmF nmL kk ++ [40]) (st) a' cap' ∧ Lib.OthersKept 5 (some b) v w') := fun v hv => byteS hv 40 (by have := HLN.out; have := hm kk; rw [List.length_append]; omega)
            go_wp2_with (first
              | (go_at_call 11; (with_reducible refine (strS S2.out (nmF nmL kk) (by have := HLN.out; omega) (hm kk)).mono ?_); rintro e w5 ⟨⟨v5, rfl⟩, h5, k5⟩; have S5 : Hid (SkS b w1 w5 (o ++ nmF nmL kk) (st) a' cap') := h5; have BX5 : Hid (Bx w5 wr.heap.size #[.int .u8 (kk : Int), .int .i64 xf, .int .i64 xe, .int .i64 (z : Int)] 37) := bx_oth (HB2.out) k5 (by omega) (by decide); have y3 := BX5.out.cell 3; clear h5 k5)
              | (go_at_call 10; (with_reducible refine (BY.out _ S5.out).mono ?_); rintro e w6 ⟨rfl, h6, k6⟩; have S6 : Hid (SkS b w1 w6 (o ++ nmF nmL kk ++ [40]) (st) a' cap') := h6; have BX6 : Hid (Bx w6 wr.heap.size #[.int .u8 (kk : Int), .int .i64 xf, .int .i64 xe, .int .i64 (z : Int)] 37) := bx_oth BX5.out k6 (by omega) (by decide); clear y3; have y3 := BX6.out.cell 3; clear h6 k6)
              | (at_builtin; (refine wpList_append_own_any _ rfl _ _ 43 rfl (b + 1) 3 i0 (.int .i64 0) 1 8 Tryd.underlying43 hi hz0 hz1i hz2i rfl (by decide) _ _ _ rfl (S6.out.own.alloc _) (some ⟨w6.heap.size, 0, none⟩) 1 1 (flat [((k : Int) + (z : Int))]) rfl (by rfl) (fun h => by cases h) (fun ad had => by cases had; exact cells_new w6 (flat [((k : Int) + (z : Int))]) 3) (flat_oneCell _) (by have := HLN.out; unfold maxLen; omega) (by have := HLN.out; have := HST.out; omega) (by have := S6.out.sz; simp; omega) ?_); intro v9 w9 hown9 hgrow9; obtain ⟨a9, c9, rfl, h9⟩ := S6.out.push (n := k + z) (by omega) hown9 hgrow9; have S9 : Hid (SkS b w1 w9 (o ++ nmF nmL kk ++ [40]) ((k + z) :: (st)) a9 c9) := h9; clear hown9 hgrow9 h9))
            go_roundg (ns.length - (k + 1))
            case measure => omega
            case rel => exact ⟨k + 1, a9, c9, rfl, by omega, by rw [HCN.out]; rfl, by go_num, by rw [HCN.out]; exact S9.out⟩
          · have hz1' : ¬ (1 : Int) < (z : Int) := by omega
            have HCN : Hid (ck (nmF nmL) ns (k + 1) = (o ++ nmF nmL kk, st)) := by
              unfold Hid
              rw [ck, HCK.out, HNX.out, KY, ck2, if_neg (show ¬ (1 : Int) < (z : Int) from hz1')]
              rfl
            go_wp2_with (go_at_call 11; (with_reducible refine (strS S2.out (nmF nmL kk) (by have := HLN.out; omega) (hm kk)).mono ?_); rintro e w5 ⟨⟨v5, rfl⟩, h5, k5⟩; have S5 : Hid (SkS b w1 w5 (o ++ nmF nmL kk) (st) a' cap') := h5; have BX5 : Hid (Bx w5 wr.heap.size #[.int .u8 (kk : Int), .int .i64 xf, .int .i64 xe, .int .i64 (z : Int)] 37) := bx_oth (HB2.out) k5 (by omega) (by decide); have y3 := BX5.out.cell 3; clear h5 k5)
            go_roundg (ns.length - (k + 1))
            case measure => omega
            case rel => exact ⟨k + 1, a', cap', rfl, by omega, by rw [HCN.out], by go_num, by rw [HCN.out]; exact S5.out⟩
        · have hk0' : (0 : Int) < (k : Int) := by omega
          obtain ⟨j, hj⟩ : ∃ j, k - 1 = j := ⟨_, rfl⟩
          have hj' : (k : Int) - 1 = (j : Int) := by omega
          have mj : IntKind.i64.wrap (j : Int) = (j : Int) := IntWalk.i64_in _ ⟨by omega, by omega⟩
          have hjl' : (j : Int) < (ns.length : Int) := by omega
          obtain ⟨y, hy⟩ : ∃ e, ns[j]? = some e := ⟨_, List.getElem?_eq_getElem (by omega)⟩
          have p3 := (HL2.out.nd HV2.out hy).2.2.2
          have hny := nd_at hy
          by_cases hys : y.s = 1
          · have t1 : (y.s == 1) = true := by rw [hys]; rfl
            obtain ⟨C, R, hCR⟩ : ∃ C R, pops k st = (C, R) := ⟨_, _, rfl⟩
            have hpl := pops_len k st
            rw [hCR] at hpl
            simp only at hpl
            have CL : Hid (∀ v, SkS b w1 v o st a' cap' → Calls Tryd.prog 9 #[.pointer (some ⟨b, 0, none⟩), .slice a' st.length cap', .int .i64 (k : Int)] v fun e w' => e = .returned (.slice a' R.length cap') ∧ SkS b w1 w' (o ++ List.replicate C 41) R a' cap' ∧ Lib.OthersKept 5 (some b) v w') := fun v hv => by
              have := closeS hv k (by omega) (by omega)
              rw [hCR] at this
              exact this
            have HSR : Hid (R.length ≤ ns.length) := by unfold Hid; have := HST.out; omega
            clear HST
            have HST : Hid (R.length ≤ ns.length) := HSR.out
            have HLN : Hid ((o ++ List.replicate C 41 ++ [32]).length + R.length ≤ 87960930222080) := by unfold Hid; simp only [List.length_append, List.length_replicate, List.length_cons, List.length_nil]; omega
            have KY : ck1 ns k (o, st) = (o ++ List.replicate C 41 ++ [32], R) := by unfold ck1; rw [hj, hny, if_pos ⟨by omega, hys⟩, hCR]
            clear hys hny hy hCR
            go_wp2_with fail
            refine (CL.out _ S2.out).mono ?_
            rintro e w3 ⟨rfl, h3, k3⟩
            have S3 : Hid (SkS b w1 w3 (o ++ List.replicate C 41) R a' cap') := h3
            have BX3 : Hid (Bx w3 wr.heap.size #[.int .u8 (kk : Int), .int .i64 xf, .int .i64 xe, .int .i64 (z : Int)] 37) := bx_oth HB2.out k3 (by omega) (by decide)
            clear h3 k3 x2 p3 hj'
            go_wp2_with fail
            refine (byteS S3.out 32 (by have := HLN.out; simp only [List.length_append, List.length_replicate, List.length_cons, List.length_nil] at this ⊢; omega)).mono ?_
            rintro e w4 ⟨rfl, h4, k4⟩
            have S4 : Hid (SkS b w1 w4 (o ++ List.replicate C 41 ++ [32]) R a' cap') := h4
            have BX4 : Hid (Bx w4 wr.heap.size #[.int .u8 (kk : Int), .int .i64 xf, .int .i64 xe, .int .i64 (z : Int)] 37) := bx_oth BX3.out k4 (by omega) (by decide)
            clear h4 k4
            have n0 := (BX4.out).cell 0
            have n1 := NM.out _ (HW1.out.trans (S4.out.bel.mono (by omega)))
            by_cases hz1 : 1 < z
            · have hz1' : (1 : Int) < (z : Int) := by omega
              have HCN : Hid (ck (nmF nmL) ns (k + 1) = ((o ++ List.replicate C 41 ++ [32]) ++ nmF nmL kk ++ [40], (k + z) :: R)) := by
                unfold Hid
                rw [ck, HCK.out, HNX.out, KY, ck2, if_pos (show (1 : Int) < (z : Int) from hz1')]
                rfl
              have BY : Hid (∀ v, SkS b w1 v ((o ++ List.replicate C 41 ++ [32]) ++ nmF nmL kk) (R) a' cap' → Calls Tryd.prog 10 #[.pointer (some ⟨b, 0, none⟩), .int .u8 40] v fun e w' => e = .returned .nilIface ∧ SkS b w1 w' ((o ++ List.replicate C 41 ++ [32]) ++ nmF nmL kk ++ [40]) (R) a' cap' ∧ Lib.OthersKept 5 (some b) v w') := fun v hv => byteS hv 40 (by have := HLN.out; have := hm kk; rw [List.length_append]; omega)
              go_wp2_with (first
                | (go_at_call 11; (with_reducible refine (strS S4.out (nmF nmL kk) (by have := HLN.out; omega) (hm kk)).mono ?_); rintro e w5 ⟨⟨v5, rfl⟩, h5, k5⟩; have S5 : Hid (SkS b w1 w5 ((o ++ List.replicate C 41 ++ [32]) ++ nmF nmL kk) (R) a' cap') := h5; have BX5 : Hid (Bx w5 wr.heap.size #[.int .u8 (kk : Int), .int .i64 xf, .int .i64 xe, .int .i64 (z : Int)] 37) := bx_oth (BX4.out) k5 (by omega) (by decide); have y3 := BX5.out.cell 3; clear h5 k5)
                | (go_at_call 10; (with_reducible refine (BY.out _ S5.out).mono ?_); rintro e w6 ⟨rfl, h6, k6⟩; have S6 : Hid (SkS b w1 w6 ((o ++ List.replicate C 41 ++ [32]) ++ nmF nmL kk ++ [40]) (R) a' cap') := h6; have BX6 : Hid (Bx w6 wr.heap.size #[.int .u8 (kk : Int), .int .i64 xf, .int .i64 xe, .int .i64 (z : Int)] 37) := bx_oth BX5.out k6 (by omega) (by decide); clear y3; have y3 := BX6.out.cell 3; clear h6 k6)
                | (at_builtin; (refine wpList_append_own_any _ rfl _ _ 43 rfl (b + 1) 3 i0 (.int .i64 0) 1 8 Tryd.underlying43 hi hz0 hz1i hz2i rfl (by decide) _ _ _ rfl (S6.out.own.alloc _) (some ⟨w6.heap.size, 0, none⟩) 1 1 (flat [((k : Int) + (z : Int))]) rfl (by rfl) (fun h => by cases h) (fun ad had => by cases had; exact cells_new w6 (flat [((k : Int) + (z : Int))]) 3) (flat_oneCell _) (by have := HLN.out; unfold maxLen; omega) (by have := HLN.out; have := HST.out; omega) (by have := S6.out.sz; simp; omega) ?_); intro v9 w9 hown9 hgrow9; obtain ⟨a9, c9, rfl, h9⟩ := S6.out.push (n := k + z) (by omega) hown9 hgrow9; have S9 : Hid (SkS b w1 w9 ((o ++ List.replicate C 41 ++ [32]) ++ nmF nmL kk ++ [40]) ((k + z) :: (R)) a9 c9) := h9; clear hown9 hgrow9 h9))
              go_roundg (ns.length - (k + 1))
              case measure => omega
              case rel => exact ⟨k + 1, a9, c9, rfl, by omega, by rw [HCN.out]; rfl, by go_num, by rw [HCN.out]; exact S9.out⟩
            · have hz1' : ¬ (1 : Int) < (z : Int) := by omega
              have HCN : Hid (ck (nmF nmL) ns (k + 1) = ((o ++ List.replicate C 41 ++ [32]) ++ nmF nmL kk, R)) := by
                unfold Hid
                rw [ck, HCK.out, HNX.out, KY, ck2, if_neg (show ¬ (1 : Int) < (z : Int) from hz1')]
                rfl
              go_wp2_with (go_at_call 11; (with_reducible refine (strS S4.out (nmF nmL kk) (by have := HLN.out; omega) (hm kk)).mono ?_); rintro e w5 ⟨⟨v5, rfl⟩, h5, k5⟩; have S5 : Hid (SkS b w1 w5 ((o ++ List.replicate C 41 ++ [32]) ++ nmF nmL kk) (R) a' cap') := h5; have BX5 : Hid (Bx w5 wr.heap.size #[.int .u8 (kk : Int), .int .i64 xf, .int .i64 xe, .int .i64 (z : Int)] 37) := bx_oth (BX4.out) k5 (by omega) (by decide); have y3 := BX5.out.cell 3; clear h5 k5)
              go_roundg (ns.length - (k + 1))
              case measure => omega
              case rel => exact ⟨k + 1, a', cap', rfl, by omega, by rw [HCN.out], by go_num, by rw [HCN.out]; exact S5.out⟩
          · have t1 : (y.s == 1) = false := by rw [beq_eq_false_iff_ne]; exact hys
            have HLN : Hid (o.length + st.length ≤ 87960930222080) := by unfold Hid; omega
            have KY : ck1 ns k (o, st) = (o, st) := by unfold ck1; rw [hj, hny, if_neg (fun h => hys h.2)]
            clear hys hny hy
            have n0 := (HB2.out).cell 0
            have n1 := NM.out _ (HW1.out.trans (S2.out.bel.mono (by omega)))
            by_cases hz1 : 1 < z
            · have hz1' : (1 : Int) < (z : Int) := by omega
              have HCN : Hid (ck (nmF nmL) ns (k + 1) = (o ++ nmF nmL kk ++ [40], (k + z) :: st)) := by
                unfold Hid
                rw [ck, HCK.out, HNX.out, KY, ck2, if_pos (show (1 : Int) < (z : Int) from hz1')]
                rfl
              have BY : Hid (∀ v, SkS b w1 v (o ++ nmF nmL kk) (st) a' cap' → Calls Tryd.prog 10 #[.pointer (some ⟨b, 0, none⟩), .int .u8 40] v fun e w' => e = .returned .nilIface ∧ SkS b w1 w' (o ++ nmF nmL kk ++ [40]) (st) a' cap' ∧ Lib.OthersKept 5 (some b) v w') := fun v hv => byteS hv 40 (by have := HLN.out; have := hm kk; rw [List.length_append]; omega)
              go_wp2_with (first
                | (go_at_call 11; (with_reducible refine (strS S2.out (nmF nmL kk) (by have := HLN.out; omega) (hm kk)).mono ?_); rintro e w5 ⟨⟨v5, rfl⟩, h5, k5⟩; have S5 : Hid (SkS b w1 w5 (o ++ nmF nmL kk) (st) a' cap') := h5; have BX5 : Hid (Bx w5 wr.heap.size #[.int .u8 (kk : Int), .int .i64 xf, .int .i64 xe, .int .i64 (z : Int)] 37) := bx_oth (HB2.out) k5 (by omega) (by decide); have y3 := BX5.out.cell 3; clear h5 k5)
                | (go_at_call 10; (with_reducible refine (BY.out _ S5.out).mono ?_); rintro e w6 ⟨rfl, h6, k6⟩; have S6 : Hid (SkS b w1 w6 (o ++ nmF nmL kk ++ [40]) (st) a' cap') := h6; have BX6 : Hid (Bx w6 wr.heap.size #[.int .u8 (kk : Int), .int .i64 xf, .int .i64 xe, .int .i64 (z : Int)] 37) := bx_oth BX5.out k6 (by omega) (by decide); clear y3; have y3 := BX6.out.cell 3; clear h6 k6)
                | (at_builtin; (refine wpList_append_own_any _ rfl _ _ 43 rfl (b + 1) 3 i0 (.int .i64 0) 1 8 Tryd.underlying43 hi hz0 hz1i hz2i rfl (by decide) _ _ _ rfl (S6.out.own.alloc _) (some ⟨w6.heap.size, 0, none⟩) 1 1 (flat [((k : Int) + (z : Int))]) rfl (by rfl) (fun h => by cases h) (fun ad had => by cases had; exact cells_new w6 (flat [((k : Int) + (z : Int))]) 3) (flat_oneCell _) (by have := HLN.out; unfold maxLen; omega) (by have := HLN.out; have := HST.out; omega) (by have := S6.out.sz; simp; omega) ?_); intro v9 w9 hown9 hgrow9; obtain ⟨a9, c9, rfl, h9⟩ := S6.out.push (n := k + z) (by omega) hown9 hgrow9; have S9 : Hid (SkS b w1 w9 (o ++ nmF nmL kk ++ [40]) ((k + z) :: (st)) a9 c9) := h9; clear hown9 hgrow9 h9))
              go_roundg (ns.length - (k + 1))
              case measure => omega
              case rel => exact ⟨k + 1, a9, c9, rfl, by omega, by rw [HCN.out]; rfl, by go_num, by rw [HCN.out]; exact S9.out⟩
            · have hz1' : ¬ (1 : Int) < (z : Int) := by omega
              have HCN : Hid (ck (nmF nmL) ns (k + 1) = (o ++ nmF nmL kk, st)) := by
                unfold Hid
                rw [ck, HCK.out, HNX.out, KY, ck2, if_neg (show ¬ (1 : Int) < (z : Int) from hz1')]
                rfl
              go_wp2_with (go_at_call 11; (with_reducible refine (strS S2.out (nmF nmL kk) (by have := HLN.out; omega) (hm kk)).mono ?_); rintro e w5 ⟨⟨v5, rfl⟩, h5, k5⟩; have S5 : Hid (SkS b w1 w5 (o ++ nmF nmL kk) (st) a' cap') := h5; have BX5 : Hid (Bx w5 wr.heap.size #[.int .u8 (kk : Int), .int .i64 xf, .int .i64 xe, .int .i64 (z : Int)] 37) := bx_oth (HB2.out) k5 (by omega) (by decide); have y3 := BX5.out.cell 3; clear h5 k5)
              go_roundg (ns.length - (k + 1))
              case measure => omega
              case rel => exact ⟨k + 1, a', cap', rfl, by omega, by rw [HCN.out], by go_num, by rw [HCN.out]; exact S5.out⟩
      · have hke : k = ns.length := by omega
        subst hke
        have hlt' : ¬ ((ns.length : Int) < (ns.length : Int)) := by omega
        clear hlt hk
        go_wp2_with fail
        refine (closeS SR.out ns.length (by omega) (by omega)).mono ?_
        rintro e w3 ⟨rfl, h3, -⟩
        have S3 : Hid (SkS b w1 w3 (cz (nmF nmL) ns) (pops ns.length (ck (nmF nmL) ns ns.length).2).2 a' cap') := h3
        clear h3 SR x1
        go_wp2_with fail
        refine (string_k b b (cz (nmF nmL) ns) w3 S3.out.bld (by have := S3.out.sz; omega)).mono ?_
        rintro e w4 ⟨rfl, -, hb4, -⟩
        have HB4 : Hid (Below w.heap.size w w4) := HW1.out.trans ((S3.out.bel.trans hb4).mono (by omega))
        clear hb4
        go_wp2
        go_ret
        exact ⟨rfl, HB4.out⟩
theorem sketch_any (nmL : List (List UInt8)) (hm : ∀ k, (nmF nmL k).length ≤ 12) (a : Option Addr) (cap : Nat) (ns : List Nd) (w : World) (h : LiesA w a ns) (hl : ns.length ≤ 1048576) (hf : ∀ e ∈ ns, NdFit e) (hN : NmcAt nmL w) :
    Calls Tryd.prog 5 #[.agg #[.slice a ns.length cap]] w fun e w' => e = .returned (.string (skB nmL ns)) ∧ Below w.heap.size w w' :=
  sketch_big nmL hm a cap ns w h (by omega) hf hN
end Go.Proofs.YtcanabbjliloeaaDoor
