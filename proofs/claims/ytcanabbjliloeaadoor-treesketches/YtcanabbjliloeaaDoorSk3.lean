import Derived.Test.YtcanabbjliloeaaDoorSk2
import Derived.Test.YtcanabbjliloeaaDoorVl3
import Derived.Laws.IdiomStrings
namespace Go.Proofs.YtcanabbjliloeaaDoor
open Go.ChangeShapes Go.WideShapes Go.ChangeAt Go.RowKit
set_option linter.unusedVariables false

/-- the two lists of the kinds' names -/
structure NmsAt (nmL : List (List UInt8)) (v : World) : Prop where
  code : ∀ i, i < 58 → v.cell? ⟨0, i, none⟩ = some (.string ⟨(nmL.getD i []).toArray⟩)
  ref : ∀ i, i < 58 → v.cell? ⟨1, i, none⟩ = some (.string ⟨(nmL.getD i []).toArray⟩)
theorem NmsAt.below {nmL : List (List UInt8)} {v w : World} (h : NmsAt nmL v) (hb : Below v.heap.size v w) : NmsAt nmL w :=
  ⟨fun i hi => (hb.cell (World.block_lt_of_cell? _ _ (h.code i hi))).trans (h.code i hi), fun i hi => (hb.cell (World.block_lt_of_cell? _ _ (h.ref i hi))).trans (h.ref i hi)⟩
theorem NmsAt.c {nmL : List (List UInt8)} {v : World} (h : NmsAt nmL v) : NmcAt nmL v := ⟨h.code⟩
theorem str_nil (w : World) : (convert 40 9 (.slice none 0 0)).run Tryd.prog w = .ok (.string ⟨#[]⟩) w := by kernel_rfl
theorem str_own {w : World} {base n : Nat} {v : Value} {l : List UInt8} (h : w.ownsRow base 5 1 v n (Lib.byteCells l)) : (convert 40 9 v).run Tryd.prog w = .ok (.string ⟨l.toArray⟩) w := by
  have hn : n = l.length := by have := h.1; rw [Lib.byteCells_length] at this; omega
  subst hn
  rcases h.2 with ⟨rfl, h2⟩ | ⟨g, cp, cur, rfl, _⟩
  · have hl : l = [] := List.eq_nil_of_length_eq_zero h2
    subst hl
    exact str_nil w
  · exact run_convert_bytes_back (P := Tryd.prog) w 40 9 5 ⟨g, 0, none⟩ cp l Tryd.underlying40 Tryd.underlying5 Tryd.underlying9 (fun j hj => h.cells rfl j _ (by simp [Lib.byteCells, hj]))
/-- the bytes and the open ends, beside one another -/
structure RkS (B : Nat) (w0 wr : World) (o : List UInt8) (st : List Nat) (vb : Value) (a : Option Addr) (cap : Nat) : Prop where
  own : wr.ownsRow B 3 1 (.slice a st.length cap) st.length (flat (rv st))
  byt : wr.ownsRow B 5 1 vb o.length (Lib.byteCells o)
  bel : Below B w0 wr
  sz : B ≤ wr.heap.size
theorem RkS.bytes {B : Nat} {w0 wr w9 : World} {o m : List UInt8} {st : List Nat} {vb v9 : Value} {a : Option Addr} {cap : Nat} (h : RkS B w0 wr o st vb a cap) {ob : Obj} (hown : w9.ownsRow B 5 1 v9 (o.length + m.length) (Lib.byteCells o ++ Lib.byteCells m)) (hg : (wr.alloc ob).grownBy w9 vb.ownBlock) : RkS B w0 w9 (o ++ m) st v9 a cap := by
  have hz := h.sz
  refine ⟨own_grw (h.own.alloc ob) hg (row_kind (h.byt.alloc ob)) (by decide), by rw [List.length_append, Lib.byteCells_append]; exact hown, (h.bel.alloc hz ob).grown hg (by simp; omega) (fun g hh => (h.byt.lt g hh).1), ?_⟩
  have := hg.size; simp at this; omega
theorem RkS.str {B : Nat} {w0 wr w9 : World} {o m : List UInt8} {st : List Nat} {vb v9 : Value} {a : Option Addr} {cap : Nat} (h : RkS B w0 wr o st vb a cap) {n : Nat} (hn : n = m.length) (hown : w9.ownsRow B 5 1 v9 (o.length + n) (Lib.byteCells o ++ Lib.byteCells m)) (hg : wr.grownBy w9 vb.ownBlock) : RkS B w0 w9 (o ++ m) st v9 a cap := by
  have hz := h.sz
  subst hn
  refine ⟨own_grw h.own hg (row_kind h.byt) (by decide), by rw [List.length_append, Lib.byteCells_append]; exact hown, h.bel.grown hg (by omega) (fun g hh => (h.byt.lt g hh).1), ?_⟩
  have := hg.size; omega
theorem RkS.push {B : Nat} {w0 wr w9 : World} {o : List UInt8} {st : List Nat} {vb : Value} {a : Option Addr} {cap : Nat} (h : RkS B w0 wr o st vb a cap) {n : Nat} {x : Int} (hx : x = (n : Int)) {ob : Obj} {v9 : Value} (hown : w9.ownsRow B 3 1 v9 (st.length + 1) (flat (rv st) ++ flat [x])) (hg : (wr.alloc ob).grownBy w9 (Value.slice a st.length cap).ownBlock) :
    ∃ a9 c9, v9 = .slice a9 (n :: st).length c9 ∧ RkS B w0 w9 o (n :: st) vb a9 c9 := by
  obtain ⟨a9, c9, rfl⟩ : ∃ a9 c9, v9 = .slice a9 (st.length + 1) c9 := by
    rcases hown.2 with ⟨_, h0⟩ | ⟨g, c, cur, hv, _⟩
    · omega
    · exact ⟨_, c, hv⟩
  have hz := h.sz
  refine ⟨a9, c9, rfl, ?_, ?_, ?_, ?_⟩
  · rw [rv_cons, flat_append, ← hx]; exact hown
  · exact own_grw (h.byt.alloc ob) hg (row_kind (h.own.alloc ob)) (by decide)
  · exact (h.bel.alloc hz ob).grown hg (by simp; omega) (fun g hh => (h.own.lt g hh).1)
  · have := hg.size; simp at this; omega
theorem RkS.less {B : Nat} {w0 wr : World} {o : List UInt8} {st : List Nat} {t : Nat} {vb : Value} {a : Option Addr} {cap : Nat} (h : RkS B w0 wr o (t :: st) vb a cap) : RkS B w0 wr o st vb a cap := by
  refine ⟨?_, h.byt, h.bel, h.sz⟩
  have := h.own
  rw [List.length_cons, rv_cons, flat_append, flat_int [(t : Int)]] at this
  exact own_less this
theorem one_int (c : Int) : ∀ u ∈ ([.int .u8 c] : List Value), u.oneCell' = true := by
  intro u hu
  rw [List.mem_singleton] at hu
  subst hu
  rfl

/-- what the reference's Sketch answers -/
def rsB (nmL : List (List UInt8)) (ns : List Nd) : ByteArray := if shB ns then ⟨(rk (nmF nmL) ns ns.length).1.toArray⟩ else ⟨#[]⟩
theorem rs_sk (nmL : List (List UInt8)) (ns : List Nd) : rsB nmL ns = skB nmL ns := by
  unfold rsB skB
  cases h : shB ns with
  | false => rfl
  | true => rw [if_pos rfl, if_pos rfl, sketch_one _ h]

set_option maxRecDepth 1000000 in
set_option maxHeartbeats 4000000 in
theorem rsketch_big (nmL : List (List UInt8)) (hm : ∀ k, (nmF nmL k).length ≤ 12) (a : Option Addr) (cap : Nat) (ns : List Nd) (w : World) (h : LiesA w a ns) (hl : ns.length ≤ 4398046510976) (hf : ∀ e ∈ ns, NdFit e) (hN : NmsAt nmL w) :
    Calls Tryd.prog 6 #[.agg #[.slice a ns.length cap]] w fun e w' => e = .returned (.string (rsB nmL ns)) ∧ Below w.heap.size w w' := by
  obtain ⟨i0, hi, hz0, hz1i, hz2i⟩ := info_parts infoInt
  obtain ⟨i1, hj, hy0, hy1, hy2⟩ := info_parts infoByte
  have H : Hid (LiesA w a ns) := h
  have HF : Hid (∀ e ∈ ns, NdFit e) := hf
  have HN : Hid (NmsAt nmL w) := hN
  clear h hf hN
  obtain ⟨w0, e0, hw0, hs0, B0⟩ := bx1 w #[.slice a ns.length cap] 25
  have HE0 : Hid (w.alloc (.cells #[.slice a ns.length cap] 25) = w0) := e0
  have HW0 : Hid (Below w.heap.size w w0) := hw0
  have HX0 : Hid (Bx w0 w.heap.size #[.slice a ns.length cap] 25) := B0
  have hs0' : w0.heap.size = w.heap.size + 1 := hs0
  clear hw0 hs0 B0 e0
  cases hs : shB ns with
  | false =>
    have hR : rsB nmL ns = ⟨#[]⟩ := by unfold rsB; rw [hs]; rfl
    rw [hR]
    have NS : Hid (∀ v, LiesA v a ns → Calls Tryd.prog 13 #[.agg #[.slice a ns.length cap]] v fun e w' => e = .returned (.bool false) ∧ Below v.heap.size v w') := fun v hv => by rw [← hs]; exact shaped_any a cap ns v hv (by omega) HF.out
    clear hR hs
    go_enter Tryd.func6, Tryd.ntmps6
    go_wp2_with fail
    rw [HE0.out]
    refine (NS.out _ (H.out.below HW0.out)).mono ?_
    rintro e w1 ⟨rfl, hb⟩
    have HB1 : Hid (Below w.heap.size w w1) := HW0.out.trans (hb.mono HW0.out.size)
    clear hb
    go_wp2
    go_ret
    exact ⟨rfl, HB1.out⟩
  | true =>
    have hR : rsB nmL ns = ⟨(rk (nmF nmL) ns ns.length).1.toArray⟩ := by unfold rsB; rw [hs]; rfl
    rw [hR]
    have NS : Hid (∀ v, LiesA v a ns → Calls Tryd.prog 13 #[.agg #[.slice a ns.length cap]] v fun e w' => e = .returned (.bool true) ∧ Below v.heap.size v w') := fun v hv => by rw [← hs]; exact shaped_any a cap ns v hv (by omega) HF.out
    have HS : Hid (shB ns = true) := hs
    clear hR hs
    go_enter Tryd.func6, Tryd.ntmps6
    go_wp2_with fail
    rw [HE0.out]
    refine (NS.out _ (H.out.below HW0.out)).mono ?_
    rintro e w1 ⟨rfl, hb⟩
    have HX1 : Hid (Bx w1 w.heap.size #[.slice a ns.length cap] 25) := HX0.out.below hb (by omega)
    have HW1 : Hid (Below w.heap.size w w1) := HW0.out.trans (hb.mono HW0.out.size)
    have hs1 : w.heap.size + 1 ≤ w1.heap.size := by have := hb.size; omega
    clear hb
    have x1 := HX1.out.one
    go_wp2_with fail
    clear x1
    obtain ⟨B, hB⟩ : ∃ B, w1.heap.size = B := ⟨_, rfl⟩
    have XB : Hid (∀ v, Below B w1 v → v.cell? ⟨w.heap.size, 0, none⟩ = some (.slice a ns.length cap)) := fun v hv => (hv.cell (p := ⟨w.heap.size, 0, none⟩) (by show w.heap.size < B; omega)).trans HX1.out.one
    go_loopg [3, 4, 5] ns.length (fun gk vb so sn wr => ∃ (k : Nat) (a' : Option Addr) (cap' : Nat), gk = ns.length - k ∧ k ≤ ns.length ∧ so = .slice a' (rk (nmF nmL) ns k).2.length cap' ∧ sn = .int .i64 (k : Int) ∧ RkS B w1 wr (rk (nmF nmL) ns k).1 (rk (nmF nmL) ns k).2 vb a' cap')
    case atStart => exact ⟨0, none, 0, rfl, Nat.zero_le _, rfl, rfl, World.ownsRow_nil _ _ _ _, World.ownsRow_nil _ _ _ _, Below.refl _ _, by omega⟩
    case round =>
      obtain ⟨k, a', cap', rfl, hk, rfl, rfl, hS⟩ := hrel
      have SR : Hid (RkS B w1 wr (rk (nmF nmL) ns k).1 (rk (nmF nmL) ns k).2 u3 a' cap') := hS
      have hcl := rk_len (nmF nmL) hm ns k
      have hcs := rk_st (nmF nmL) ns k
      have x1 := XB.out _ hS.bel
      clear hS
      by_cases hlt : k < ns.length
      · obtain ⟨x, hx⟩ : ∃ e, ns[k]? = some e := ⟨_, List.getElem?_eq_getElem hlt⟩
        rcases H.out with h0 | ⟨b2, o2, rfl, hL2⟩
        · rw [h0] at hlt; simp at hlt
        have HBW : Hid (∀ v, Below B w1 v → Below w.heap.size w v) := fun v hv => HW1.out.trans (hv.mono (by omega))
        obtain ⟨d0, -, -, d3⟩ := hL2.nd (HBW.out _ SR.out.bel) hx
        have hkd := nd_kind HS.out hx
        have hkf := (HF.out x (List.mem_of_getElem? hx)).1
        have hzf := size_pos HS.out hx
        have hnx := nd_at hx
        have DN0 : ∀ v, Below B w1 v → v.cell? ⟨b2, o2 + k * 4 + 3, none⟩ = some (.int .i64 x.s) := fun v hv => (hL2.nd (HBW.out _ hv) hx).2.2.2
        obtain ⟨xk, xf, xe, xz⟩ := x
        simp only at d0 d3 hkd hkf hzf DN0
        obtain ⟨kk, rfl⟩ : ∃ kk : Nat, xk = (kk : Int) := ⟨xk.toNat, by omega⟩
        obtain ⟨z, rfl⟩ : ∃ z : Nat, xz = (z : Int) := ⟨xz.toNat, by omega⟩
        have DN : Hid (∀ v, Below B w1 v → v.cell? ⟨b2, o2 + k * 4 + 3, none⟩ = some (.int .i64 (z : Int))) := DN0
        have hkk : kk < 58 := by omega
        have n1 := (HN.out.below (HBW.out _ SR.out.bel)).ref kk hkk
        have n1' : wr.cell? ⟨1, kk, none⟩ = some (.string ⟨(nmF nmL kk).toArray⟩) := n1
        have hlt' : (k : Int) < (ns.length : Int) := by omega
        obtain ⟨o, st, hck⟩ : ∃ o st, rk (nmF nmL) ns k = (o, st) := ⟨_, _, rfl⟩
        rw [hck] at SR hcl hcs
        simp only at SR hcl hcs
        have HST : Hid (st.length ≤ ns.length) := Nat.le_trans hcs hk
        clear hcs
        rw [hck]
        have HNX : Hid (nd ns k = ⟨(kk : Int), xf, xe, (z : Int)⟩) := hnx
        have HCK : Hid (rk (nmF nmL) ns k = (o, st)) := hck
        have hsz : (⟨(nmF nmL kk).toArray⟩ : ByteArray).size = (nmF nmL kk).length := by simp [ByteArray.size]
        have HLN : Hid ((o ++ nmF nmL kk).length + st.length ≤ 87960930222080) := by unfold Hid; have := hm kk; rw [List.length_append]; omega
        have mk : IntKind.i64.wrap ((k : Int) + (z : Int)) = (k : Int) + (z : Int) := IntWalk.i64_in _ ⟨by omega, by omega⟩
        have mk1 : IntKind.i64.wrap ((k : Int) + 1) = (k : Int) + 1 := IntWalk.i64_in _ ⟨by omega, by omega⟩
        clear hnx hck n1 DN0 hL2 hx d3
        by_cases hz1 : 1 < z
        · have hz1' : (1 : Int) < (z : Int) := by omega
          have HCN : Hid (rk (nmF nmL) ns (k + 1) = (o ++ nmF nmL kk ++ [40], (k + z) :: st)) := by
            unfold Hid
            rw [rk, HCK.out, HNX.out, rk2, if_pos (show (1 : Int) < (z : Int) from hz1')]
            rfl
          go_wp2_with (first
            | (at_builtin; (refine Lib.wpList_append_own_string _ rfl _ _ 40 9 rfl B 5 i1 Tryd.underlying40 Tryd.underlying9 hj hy0 hy1 hy2 _ _ _ rfl SR.out.byt ⟨(nmF nmL kk).toArray⟩ rfl (by rw [hsz]; unfold maxLen; have := HLN.out; simp only [List.length_append] at this; omega) (by rw [hsz]; have := HLN.out; simp only [List.length_append] at this; omega) (by have := SR.out.sz; omega) ?_); intro v2 w2 hown hgrow _; have S2 : Hid (RkS B w1 w2 (o ++ nmF nmL kk) st v2 a' cap') := SR.out.str hsz hown hgrow; have x2 := XB.out _ S2.out.bel; have q2 := DN.out _ S2.out.bel; clear hown hgrow)
            | (at_builtin; (refine wpList_append_own_any _ rfl _ _ 40 rfl B 5 i1 (.int .u8 0) 1 1 Tryd.underlying40 hj hy0 hy1 hy2 rfl (by decide) _ _ _ rfl (S2.out.byt.alloc _) (some ⟨w2.heap.size, 0, none⟩) 1 1 [.int .u8 40] rfl (by rfl) (fun h => by cases h) (fun ad had => by cases had; exact cells_new w2 [.int .u8 40] 5) (one_int _) (by have := HLN.out; unfold maxLen; simp only [List.length_append] at this ⊢; omega) (by have := HLN.out; simp only [List.length_append] at this ⊢; omega) (by have := S2.out.sz; simp; omega) ?_); intro v3 w3 hown hgrow; have S3 : Hid (RkS B w1 w3 (o ++ nmF nmL kk ++ [40]) st v3 a' cap') := S2.out.bytes (m := [40]) hown hgrow; clear hown hgrow; have x3 := XB.out _ S3.out.bel; have q3 := DN.out _ S3.out.bel)
            | (at_builtin; (refine wpList_append_own_any _ rfl _ _ 43 rfl B 3 i0 (.int .i64 0) 1 8 Tryd.underlying43 hi hz0 hz1i hz2i rfl (by decide) _ _ _ rfl (S3.out.own.alloc _) (some ⟨w3.heap.size, 0, none⟩) 1 1 (flat [((k : Int) + (z : Int))]) rfl (by rfl) (fun h => by cases h) (fun ad had => by cases had; exact cells_new w3 (flat [((k : Int) + (z : Int))]) 3) (flat_oneCell _) (by have := HLN.out; unfold maxLen; omega) (by have := HLN.out; have := HST.out; omega) (by have := S3.out.sz; simp; omega) ?_); intro v4 w4 hown hgrow; obtain ⟨a9, c9, rfl, h9⟩ := S3.out.push (n := k + z) (by omega) hown hgrow; have S4 : Hid (RkS B w1 w4 (o ++ nmF nmL kk ++ [40]) ((k + z) :: st) v3 a9 c9) := h9; clear hown hgrow h9))
          go_roundg (ns.length - (k + 1))
          case measure => omega
          case rel => exact ⟨k + 1, a9, c9, rfl, by omega, by rw [HCN.out]; rfl, by go_num, by rw [HCN.out]; exact S4.out⟩
        · have hz1' : ¬ (1 : Int) < (z : Int) := by omega
          obtain ⟨C, R, hCR⟩ : ∃ C R, pops (k + 1) st = (C, R) := ⟨_, _, rfl⟩
          have HCN : Hid (rk (nmF nmL) ns (k + 1) = (o ++ nmF nmL kk ++ List.replicate C 41 ++ (if R = [] then [] else [32]), R)) := by
            unfold Hid
            rw [rk, HCK.out, HNX.out, rk2, if_neg (show ¬ (1 : Int) < (z : Int) from hz1')]
            simp only [hCR]
            rfl
          have HP : Hid (pops (k + 1) st = (C, R)) := hCR
          clear hCR
          go_wp2_with (at_builtin; (refine Lib.wpList_append_own_string _ rfl _ _ 40 9 rfl B 5 i1 Tryd.underlying40 Tryd.underlying9 hj hy0 hy1 hy2 _ _ _ rfl SR.out.byt ⟨(nmF nmL kk).toArray⟩ rfl (by rw [hsz]; unfold maxLen; have := HLN.out; simp only [List.length_append] at this; omega) (by rw [hsz]; have := HLN.out; simp only [List.length_append] at this; omega) (by have := SR.out.sz; omega) ?_); intro v2 w2 hown hgrow _; have S2 : Hid (RkS B w1 w2 (o ++ nmF nmL kk) st v2 a' cap') := SR.out.str hsz hown hgrow; have x2 := XB.out _ S2.out.bel; have q2 := DN.out _ S2.out.bel; clear hown hgrow)
          clear x2 q2 x1 n1' d0
          go_loopg [3, 4] st.length (fun gk vb so wi => ∃ (st' : List Nat) (c : Nat), gk = st'.length ∧ so = .slice a' st'.length cap' ∧ ((pops (k + 1) st').1 + c, (pops (k + 1) st').2) = (C, R) ∧ st'.length + c = st.length ∧ RkS B w1 wi (o ++ nmF nmL kk ++ List.replicate c 41) st' vb a' cap')
          case atStart => exact ⟨st, 0, rfl, rfl, by rw [HP.out]; rfl, rfl, by rw [List.replicate_zero, List.append_nil]; exact S2.out⟩
          case round =>
            obtain ⟨st', c, rfl, rfl, hp, hc, hS⟩ := hrel
            have HP2 : Hid (((pops (k + 1) st').1 + c, (pops (k + 1) st').2) = (C, R)) := hp
            have SI : Hid (RkS B w1 wr (o ++ nmF nmL kk ++ List.replicate c 41) st' u3 a' cap') := hS
            clear hp hS S2 SR HP
            cases st' with
            | nil =>
              have HE : Hid (C = c ∧ R = []) := by
                have := HP2.out
                simp only [pops, Prod.mk.injEq] at this
                exact ⟨by omega, this.2.symm⟩
              clear HP2
              go_wp2
              go_roundg (ns.length - (k + 1))
              case measure => omega
              case rel => exact ⟨k + 1, a', cap', rfl, by omega, by rw [HCN.out, HE.out.2], by go_num, by rw [HCN.out, HE.out.1, HE.out.2, if_pos rfl, List.append_nil]; exact SI.out⟩
            | cons t r =>
              have how := SI.out.own
              rw [List.length_cons, rv_cons, flat_append, flat_int [(t : Int)]] at how
              obtain ⟨g, rfl, hcell⟩ := own_at how
              have hcp := own_cap how
              obtain ⟨q, hq⟩ : ∃ q, r.length = q := ⟨_, rfl⟩
              simp only [List.length_cons, hq] at hc hcp ⊢
              rw [hq] at hcell
              have hcp' : (q : Int) ≤ (cap' : Int) := by omega
              have hk0 : (0 : Int) < (q : Int) + 1 := by omega
              have m1 : IntKind.i64.wrap ((q : Int)) = (q : Int) := IntWalk.i64_in _ ⟨by have := HLN.out; omega, by have := HLN.out; omega⟩
              have hkc : (q : Int) < (q : Int) + 1 := by omega
              clear how
              by_cases ht : t = k + 1
              · have t1 : ((t : Int) == (k : Int) + 1) = true := by rw [beq_iff_eq]; omega
                have HP3 : Hid (((pops (k + 1) r).1 + (c + 1), (pops (k + 1) r).2) = (C, R)) := by
                  have := HP2.out
                  rw [ht, pops_yes] at this
                  simp only [Prod.mk.injEq] at this
                  exact Prod.ext (by show _ = C; omega) this.2
                clear HP2 ht
                go_wp2_with (at_builtin; (refine wpList_append_own_any _ rfl _ _ 40 rfl B 5 i1 (.int .u8 0) 1 1 Tryd.underlying40 hj hy0 hy1 hy2 rfl (by decide) _ _ _ rfl (SI.out.byt.alloc _) (some ⟨wr.heap.size, 0, none⟩) 1 1 [.int .u8 41] rfl (by rfl) (fun h => by cases h) (fun ad had => by cases had; exact cells_new wr [.int .u8 41] 5) (one_int _) (by have := HLN.out; unfold maxLen; simp only [List.length_append, List.length_replicate] at this ⊢; omega) (by have := HLN.out; simp only [List.length_append, List.length_replicate] at this ⊢; omega) (by have := SI.out.sz; simp; omega) ?_); intro v5 w5 hown hgrow; have S5 : Hid (RkS B w1 w5 (o ++ nmF nmL kk ++ List.replicate c 41 ++ [41]) (t :: r) v5 (some ⟨g, 0, none⟩) cap') := SI.out.bytes (m := [41]) hown hgrow; clear hown hgrow)
                go_roundg r.length
                case measure => first | omega | (simp only [List.length_cons]; omega) | (rw [hq]; omega)
                case rel => exact ⟨r, c + 1, rfl, by rw [hq], HP3.out, by omega, by rw [List.replicate_succ', ← List.append_assoc]; exact S5.out.less⟩
              · have t1 : ((t : Int) == (k : Int) + 1) = false := by rw [beq_eq_false_iff_ne]; omega
                have HE : Hid (C = c ∧ R = t :: r) := by
                  have := HP2.out
                  rw [pops_no r ht] at this
                  simp only [Prod.mk.injEq] at this
                  exact ⟨by omega, this.2.symm⟩
                clear HP2 ht
                go_wp2_with (at_builtin; (refine wpList_append_own_any _ rfl _ _ 40 rfl B 5 i1 (.int .u8 0) 1 1 Tryd.underlying40 hj hy0 hy1 hy2 rfl (by decide) _ _ _ rfl (SI.out.byt.alloc _) (some ⟨wr.heap.size, 0, none⟩) 1 1 [.int .u8 32] rfl (by rfl) (fun h => by cases h) (fun ad had => by cases had; exact cells_new wr [.int .u8 32] 5) (one_int _) (by have := HLN.out; unfold maxLen; simp only [List.length_append, List.length_replicate] at this ⊢; omega) (by have := HLN.out; simp only [List.length_append, List.length_replicate] at this ⊢; omega) (by have := SI.out.sz; simp; omega) ?_); intro v5 w5 hown hgrow; have S5 : Hid (RkS B w1 w5 (o ++ nmF nmL kk ++ List.replicate c 41 ++ [32]) (t :: r) v5 (some ⟨g, 0, none⟩) cap') := SI.out.bytes (m := [32]) hown hgrow; clear hown hgrow)
                go_roundg (ns.length - (k + 1))
                case measure => omega
                case rel => exact ⟨k + 1, some ⟨g, 0, none⟩, cap', rfl, by omega, by rw [HCN.out, HE.out.2, List.length_cons, hq], by go_num, by rw [HCN.out, HE.out.1, HE.out.2, if_neg (by simp)]; exact S5.out⟩
      · have hke : k = ns.length := by omega
        subst hke
        have hlt' : ¬ ((ns.length : Int) < (ns.length : Int)) := by omega
        have hcv := str_own SR.out.byt
        clear hlt hk
        go_wp2
        go_ret
        exact ⟨rfl, HW1.out.trans (SR.out.bel.mono (by omega))⟩
theorem rsketch_any (nmL : List (List UInt8)) (hm : ∀ k, (nmF nmL k).length ≤ 12) (a : Option Addr) (cap : Nat) (ns : List Nd) (w : World) (h : LiesA w a ns) (hl : ns.length ≤ 1048576) (hf : ∀ e ∈ ns, NdFit e) (hN : NmsAt nmL w) :
    Calls Tryd.prog 6 #[.agg #[.slice a ns.length cap]] w fun e w' => e = .returned (.string (rsB nmL ns)) ∧ Below w.heap.size w w' :=
  rsketch_big nmL hm a cap ns w h (by omega) hf hN
end Go.Proofs.YtcanabbjliloeaaDoor
