import Derived.Test.YtijcfgeafgddkaaDoorBk2
import Derived.Test.YtijcfgeafgddkaaDoorSpP
import Derived.Laws.CopyOwn
namespace Go.Proofs.YtijcfgeafgddkaaDoor
open Go.ChangeShapes Go.WideShapes Go.ChangeAt Go.RowKit
set_option linter.unusedVariables false

theorem isB_below' {T e : TypeId} {B b B' : Nat} {bs : List Value} {w w' : World} (h : Lib.IsBuilder T e B b bs w) (hb : Below B' w w') (hB : w.heap.size ≤ B') : Lib.IsBuilder T e B b bs w' := by
  have key : ∀ p, Lib.BuilderAt T e B b p bs w → Lib.BuilderAt T e B b p bs w' := fun p ⟨h1, v, h2, h3, h4⟩ =>
    ⟨h1, v, (hb.block b (Nat.lt_of_lt_of_le (lt_of_block h2) hB)).trans h2, ownsRow_below h3 hb hB, h4⟩
  rcases h with h | h
  · exact .inl (key _ h)
  · exact .inr (key _ h)

/-- a builder stands while a row of another kind grows -/
theorem isB_grown {T e e' : TypeId} {B b : Nat} {bs : List Value} {w w' : World} {row : Option Nat} (h : Lib.IsBuilder T e B b bs w) (hg : w.grownBy w' row) (hr : ∀ g, row = some g → ∃ c fz, w.heap[g]? = some (.cells c e' fz)) (h1 : e' ≠ e) (h2 : e' ≠ T) : Lib.IsBuilder T e B b bs w' := by
  have same : ∀ (k : Nat) (c : Array Value) (t : TypeId) (fz : Nat × Nat), w.heap[k]? = some (.cells c t fz) → e' ≠ t → w'.heap[k]? = some (.cells c t fz) := by
    intro k c t fz hk hne
    rw [hg.block k (lt_of_block hk) (fun hrow => ?_)]
    · exact hk
    · obtain ⟨c', fz', h'⟩ := hr k hrow.symm
      rw [hk] at h'
      cases h'
      exact hne rfl
  have key : ∀ p, Lib.BuilderAt T e B b p bs w → Lib.BuilderAt T e B b p bs w' := fun p ⟨k1, v, k2, k3, k4⟩ => by
    refine ⟨k1, v, same b _ _ _ k2 h2, ⟨k3.1, ?_⟩, k4⟩
    rcases k3.2 with k | ⟨g, cap, cur, hv, hgb, hh, r⟩
    · exact .inl k
    · exact .inr ⟨g, cap, cur, hv, hgb, same g _ _ _ hh h1, r⟩
  rcases h with h | h
  · exact .inl (key _ h)
  · exact .inr (key _ h)

/-- a box stands while a row of another kind grows -/
theorem bx_grown {e' t : TypeId} {g : Nat} {vs : Array Value} {w w' : World} {row : Option Nat} (h : Bx w g vs t) (hg : w.grownBy w' row) (hr : ∀ g, row = some g → ∃ c fz, w.heap[g]? = some (.cells c e' fz)) (hne : e' ≠ t) : Bx w' g vs t := by
  show w'.heap[g]? = _
  rw [hg.block g h.lt (fun hrow => ?_)]
  · exact h
  · obtain ⟨c', fz', h'⟩ := hr g hrow.symm
    rw [show w.heap[g]? = _ from h] at h'
    cases h'
    exact hne rfl

theorem own_set2 {w : World} {base e k n g : Nat} {v : Value} {xs : List Value} (h : w.ownsRow base e k v n xs) (hne : v.ownBlock ≠ some g) (x y : Value) :
    ((w.setCell ⟨g, 0, none⟩ x).setCell ⟨g, 1, none⟩ y).ownsRow base e k v n xs :=
  ownsRow_setCell_other (ownsRow_setCell_other h (a := ⟨g, 0, none⟩) hne x) (a := ⟨g, 1, none⟩) hne y

/-- the buffer of a builder that String() has read -/
theorem builder_len {T e : TypeId} {B b : Nat} {bs : List Value} {w : World} (h : Lib.IsBuilderF T e B b bs w) : ∃ a c, w.cell? ⟨b, 1, none⟩ = some (.slice a bs.length c) := by
  have key : ∀ p, Lib.BuilderAtF T e B b p bs w → ∃ a c, w.cell? ⟨b, 1, none⟩ = some (.slice a bs.length c) := fun p ⟨_, v, h2, h3, _⟩ => by
    have hc : w.cell? ⟨b, 1, none⟩ = some v := by rw [Lib.cell_of_heap h2]; rfl
    rcases h3.2 with ⟨h4, h5⟩ | ⟨g, cap, cur, fz, h4, _⟩
    · exact ⟨none, 0, by rw [hc, h4, h5]⟩
    · exact ⟨_, _, by rw [hc, h4]⟩
  rcases h with h | h
  · exact key _ h
  · exact key _ h

/-- a piece's kind, as a byte -/
def kb (p : Tk) : UInt8 := UInt8.ofNat p.k.toNat
/-- the kinds of the tokens among n pieces from b on -/
def kby (ts : List Tk) (b : Nat) : Nat → List UInt8
  | 0 => []
  | n + 1 => match ts[b + n]? with | some p => if tokB p then kby ts b n ++ [kb p] else kby ts b n | none => kby ts b n

theorem kby_tok {ts : List Tk} {b n : Nat} {p : Tk} (hp : ts[b + n]? = some p) (h : tokB p = true) : kby ts b (n + 1) = kby ts b n ++ [kb p] := by rw [kby, hp]; simp [h]
theorem kby_not {ts : List Tk} {b n : Nat} {p : Tk} (hp : ts[b + n]? = some p) (h : tokB p = false) : kby ts b (n + 1) = kby ts b n := by rw [kby, hp]; simp [h]
theorem kby_le (ts : List Tk) (b n : Nat) : (kby ts b n).length ≤ n := by
  induction n with
  | zero => simp [kby]
  | succ n ih =>
    rw [kby]
    cases ts[b + n]? with
    | none => simp only; omega
    | some p =>
      simp only
      cases tokB p
      · simp only [Bool.false_eq_true, if_false]; omega
      · simp only [if_true, List.length_append, List.length_singleton]; omega

theorem kby_split (ts : List Tk) (b n m : Nat) : kby ts b (n + m) = kby ts b n ++ kby ts (b + n) m := by
  induction m with
  | zero => simp [kby]
  | succ m ih =>
    have h : n + (m + 1) = (n + m) + 1 := by omega
    rw [h, kby, kby, ih, show b + (n + m) = b + n + m by omega]
    cases ts[b + n + m]? with
    | none => rfl
    | some p =>
      simp only
      cases tokB p
      · rfl
      · simp only [if_true, List.append_assoc]

theorem kb_cell {p : Tk} (h : TkFit p) : Value.int .u8 p.k = Value.int .u8 ((kb p).toNat : Int) := by
  obtain ⟨⟨h1, h2⟩, _⟩ := h
  have : (kb p).toNat = p.k.toNat := by
    unfold kb; rw [UInt8.toNat_ofNat']; exact Nat.mod_eq_of_lt (by omega)
  rw [this]
  congr 1
  omega

theorem wp_bld {o : Oper} {a : Act} {w : World} {K : Act → World → Prop} {Q : Exit → Act → World → Prop} (t : TypeId) (parts : Array (Nat × Operand)) (ho : o.op = .build t parts) (cells : Array Value)
    (hc : Tryd.prog.built t (parts.map fun (i, x) => (i, a.eval x)).toList = some cells) (h : K (a.put o.dst (.agg cells)) w) : o.wp Tryd.prog a w K Q :=
  wp_build t parts ho (by rw [hc]; rfl) (by rw [hc]; exact h)

/-- how many tokens stand ahead of each of k pieces -/
def aL (ts : List Tk) (k : Nat) : List Int := (List.range k).map fun i => ((kby ts 0 i).length : Int)
theorem aL_len (ts : List Tk) (k : Nat) : (aL ts k).length = k := by simp [aL]
theorem aL_succ (ts : List Tk) (k : Nat) : aL ts (k + 1) = aL ts k ++ [((kby ts 0 k).length : Int)] := by simp [aL, List.range_succ]
theorem aL_get {ts : List Tk} {k i : Nat} (h : i < k) : (aL ts k)[i]? = some ((kby ts 0 i).length : Int) := by simp [aL, h]

set_option maxRecDepth 1000000 in
set_option maxHeartbeats 4000000 in
theorem kindsOf_any (a : Option Addr) (cap : Nat) (ts : List Tk) (w : World) (h : LiesA w a ts) (hl : ts.length * 24 ≤ 140737488351232) (hf : ∀ e ∈ ts, TkFit e) :
    Calls Tryd.prog 9 #[.slice a ts.length cap] w fun e w' => ∃ a' c', e = .returned (.agg #[.string ⟨(kby ts 0 ts.length).toArray⟩, .slice a' (ts.length + 1) c']) ∧ LiesA w' a' (aL ts (ts.length + 1)) ∧ Below w.heap.size w w' := by
  obtain ⟨i0, hi, hz0, hz1, hz2⟩ := info_parts infoInt
  have H : Hid (LiesA w a ts) := h
  have HF : Hid (∀ e ∈ ts, TkFit e) := hf
  obtain ⟨w2, e2, hw, hs2, B0, C0⟩ := bx2 w #[.string ⟨#[]⟩, .slice none 0 0] #[.pointer none, .slice none 0 0] 41 48
  have HB0 : Hid (Below w.heap.size w w2) := hw
  have HX0 : Hid (Bx w2 w.heap.size #[.string ⟨#[]⟩, .slice none 0 0] 41) := B0
  have HE2 : Hid ((w.alloc (.cells #[.string ⟨#[]⟩, .slice none 0 0] 41)).alloc (.cells #[.pointer none, .slice none 0 0] 48) = w2) := e2
  have HI2 : Hid (Lib.IsBuilder 48 5 (w.heap.size + 1) (w.heap.size + 1) (Lib.byteCells []) w2) := by
    unfold Hid
    have := Lib.fresh_isBuilder 48 5 (w.alloc (.cells #[.string ⟨#[]⟩, .slice none 0 0] 41))
    rw [e2] at this
    show Lib.IsBuilder 48 5 (w.heap.size + 1) (w.heap.size + 1) [] w2
    simpa using this
  have HS2 : Hid (w2.heap.size = w.heap.size + 2) := hs2
  clear h hf hw hs2 B0 C0 e2
  go_enter Tryd.func9, Tryd.ntmps9
  go_upto_region 2 with fail
  rw [HE2.out]
  go_wp2_with (at_make; refine wpList_make_own _ rfl _ _ 39 rfl (w.heap.size + 2) 3 i0 (.int .i64 0) 1 Tryd.underlying39 hi hz0 hz1 _ _ _ (ts.length + 1) rfl rfl (by omega) ?b2 ?b3 ?b4 ?_)
  case b2 => rw [hz2]; omega
  case b3 => unfold maxLen; omega
  case b4 => have := HS2.out; omega
  intro w3 hown3 hgrow3
  have b3 : Below (w.heap.size + 2) w2 w3 := (Below.refl _ _).grown hgrow3 (by have := HS2.out; omega) (fun k h => by cases h)
  have HB3 : Hid (Below (w.heap.size + 1) w2 w3) := b3.mono (by omega)
  have HI3 : Hid (Lib.IsBuilder 48 5 (w.heap.size + 1) (w.heap.size + 1) (Lib.byteCells []) w3) := isB_below' HI2.out ((Below.refl w2.heap.size w2).grown hgrow3 (Nat.le_refl _) (fun k h => by cases h)) (Nat.le_refl _)
  have HO3 : Hid (w3.ownsRow (w.heap.size + 2) 3 1 (.slice (some ⟨w2.heap.size, 0, none⟩) 0 (ts.length + 1)) 0 []) := hown3
  clear hown3 hgrow3 b3
  have hs3 : w.heap.size + 2 ≤ w3.heap.size := by have := HB3.out.size; have := HS2.out; omega
  go_wp2
  go_loopw [4, 13] (fun v i wr => ∃ k : Nat, k ≤ ts.length ∧ i = .int .i64 k ∧ Below (w.heap.size + 1) w2 wr ∧ wr.ownsRow (w.heap.size + 2) 3 1 v (aL ts k).length (flat (aL ts k)) ∧ Lib.IsBuilder 48 5 (w.heap.size + 1) (w.heap.size + 1) (Lib.byteCells (kby ts 0 k)) wr ∧ w.heap.size + 2 ≤ wr.heap.size) (fun _ i _ => ts.length - (intOf i).toNat)
  case atStart => exact ⟨0, Nat.zero_le _, rfl, HB3.out, HO3.out, HI3.out, hs3⟩
  case round =>
    obtain ⟨k, hk, rfl, hbel, hown, hib, hsr⟩ := hrel
    have HBR : Hid (Below (w.heap.size + 1) w2 wr) := hbel
    have HO : Hid (wr.ownsRow (w.heap.size + 2) 3 1 u4 (aL ts k).length (flat (aL ts k))) := hown
    have HIB : Hid (Lib.IsBuilder 48 5 (w.heap.size + 1) (w.heap.size + 1) (Lib.byteCells (kby ts 0 k)) wr) := hib
    have HWR : Hid (Below w.heap.size w wr) := HB0.out.trans (hbel.mono (by omega))
    have hkl := kby_le ts 0 k
    have hal := aL_len ts k
    have HAL : Hid ((aL ts k).length = k) := hal
    clear hbel hown hib hal
    by_cases hlt : k < ts.length
    · obtain ⟨p, hp⟩ : ∃ e, ts[k]? = some e := ⟨_, List.getElem?_eq_getElem hlt⟩
      rcases H.out with h0 | ⟨b1, o1, rfl, hL1⟩
      · rw [h0] at hlt; simp at hlt
      obtain ⟨t0, t1, t2⟩ := hL1.tk HWR.out hp
      have HP : Hid (ts[0 + k]? = some p) := by unfold Hid; rw [Nat.zero_add]; exact hp
      have HPF : Hid (TkFit p) := HF.out p (List.mem_of_getElem? hp)
      have hlt' : (k : Int) < (ts.length : Int) := by omega
      obtain ⟨w6, e6, hb6, hs6, B6⟩ := bx1 wr #[.int .u8 p.k, .int .i64 p.f, .int .i64 p.t] 67
      have HE6 : Hid (wr.alloc (.cells #[.int .u8 p.k, .int .i64 p.f, .int .i64 p.t] 67) = w6) := e6
      have HB6 : Hid (Bx w6 wr.heap.size #[.int .u8 p.k, .int .i64 p.f, .int .i64 p.t] 67) := B6
      have HI6 : Hid (Lib.IsBuilder 48 5 (w.heap.size + 1) (w.heap.size + 1) (Lib.byteCells (kby ts 0 k)) w6) := isB_below' HIB.out hb6 (Nat.le_refl _)
      have HO6 : Hid (w6.ownsRow (w.heap.size + 2) 3 1 u4 (aL ts k).length (flat (aL ts k))) := ownsRow_below HO.out hb6 (Nat.le_refl _)
      have HW6 : Hid (Below (w.heap.size + 1) w2 w6) := HBR.out.trans (hb6.mono (by omega))
      have hs6' : wr.heap.size < w6.heap.size := by omega
      have hlen : (Lib.byteCells (kby ts 0 k)).length = (kby ts 0 k).length := Lib.byteCells_length _
      have HLEN : Hid ((Lib.byteCells (kby ts 0 k)).length = (kby ts 0 k).length) := hlen
      clear hp hL1 e6 hb6 hs6 B6 hlen
      go_upto_region 6 with fail
      rw [HE6.out]
      clear t0 t1 t2
      go_upto_region 7 with (first
        | (go_at_call 22; refine (Tryd.Builder_Len (w.heap.size + 1) (w.heap.size + 1) _ _ HI6.out).mono ?_; rintro e wz ⟨rfl, hwz'⟩; obtain rfl := hwz'.symm; rw [HLEN.out])
        | (at_builtin; (refine wpList_append_own _ rfl (.tmp 17) (.tmp 19) 39 rfl (w.heap.size + 2) 3 i0 (.int .i64 0) 1 8 Tryd.underlying39 hi hz0 hz1 hz2 rfl (by decide) _ _ _ rfl (HO6.out.alloc _) ⟨w6.heap.size, 0, none⟩ 1 1 (flat [((kby ts 0 k).length : Int)]) rfl rfl (cells_new w6 (flat [((kby ts 0 k).length : Int)]) 3) (flat_oneCell _) ?q1 ?q2 ?q3 ?_)))
      case q1 => rw [HAL.out]; unfold maxLen; omega
      case q2 => rw [HAL.out]; omega
      case q3 => simp; omega
      intro v7 w7 hown7 hgrow7 _
      have HI7 : Hid (Lib.IsBuilder 48 5 (w.heap.size + 1) (w.heap.size + 1) (Lib.byteCells (kby ts 0 k)) w7) := isB_grown (isB_below' HI6.out ((Below.refl _ w6).alloc (Nat.le_refl _) _) (Nat.le_refl _)) hgrow7 (row_kind (HO6.out.alloc _)) (by decide) (by decide)
      have HO7 : Hid (w7.ownsRow (w.heap.size + 2) 3 1 v7 (aL ts (k + 1)).length (flat (aL ts (k + 1)))) := by
        unfold Hid; rw [aL_len, aL_succ, flat_append]; rw [HAL.out] at hown7; exact hown7
      have HW7 : Hid (Below (w.heap.size + 1) w2 w7) := (HW6.out.alloc (by omega) _).grown hgrow7 (by simp; omega) (fun k hk => by have := (HO6.out.lt k hk).1; omega)
      have HX7 : Hid (Bx w7 wr.heap.size #[.int .u8 p.k, .int .i64 p.f, .int .i64 p.t] 67) := bx_grown (HB6.out.alloc _) hgrow7 (row_kind (HO6.out.alloc _)) (by decide)
      have r0 := HX7.out.t0
      have hs7 : w.heap.size + 2 ≤ w7.heap.size := by have := HW7.out.size; have := HS2.out; omega
      clear hown7 hgrow7
      cases htk : tokB p with
      | false =>
        have HT : Hid ((p.k != 0 && p.k != 1) = false) := htk
        have HS : Hid (kby ts 0 (k + 1) = kby ts 0 k) := kby_not HP.out htk
        clear htk
        go_upto_region 9 with (first
          | (go_at_call 23; refine (isToken_any p.k _).mono ?_; rintro e wz ⟨rfl, rfl⟩; rw [HT.out])
          | fail)
        go_wp2
        go_roundw
        case rel => exact ⟨k + 1, by omega, by go_num, HW7.out, HO7.out, by rw [HS.out]; exact HI7.out, hs7⟩
        case measure => simp [intOf]; omega
      | true =>
        have HT : Hid ((p.k != 0 && p.k != 1) = true) := htk
        have HS : Hid (Lib.byteCells (kby ts 0 (k + 1)) = Lib.byteCells (kby ts 0 k) ++ [.int .u8 p.k]) := by
          unfold Hid; rw [kby_tok HP.out htk, Lib.byteCells_append, kb_cell HPF.out]; rfl
        clear htk
        go_upto_region 9 with (first
          | (go_at_call 23; refine (isToken_any p.k _).mono ?_; rintro e wz ⟨rfl, rfl⟩; rw [HT.out])
          | (go_at_call 13; refine (writeByte_k (w.heap.size + 1) (w.heap.size + 1) _ p.k _ HI7.out (by rw [HLEN.out]; omega) (by omega)).mono ?_; rintro e w8 ⟨rfl, hib, hbb, hkk⟩; have HI8 : Hid (Lib.IsBuilder 48 5 (w.heap.size + 1) (w.heap.size + 1) (Lib.byteCells (kby ts 0 k) ++ [.int .u8 p.k]) w8) := .inr hib; have HW8 : Hid (Below (w.heap.size + 1) w7 w8) := hbb; have HO8 : Hid (w8.ownsRow (w.heap.size + 2) 3 1 v7 (aL ts (k + 1)).length (flat (aL ts (k + 1)))) := (row_others HO7.out hkk (by omega) (by decide)); clear hib hbb hkk)
          | fail)
        go_wp2
        go_roundw
        case rel => exact ⟨k + 1, by omega, by go_num, HW7.out.trans HW8.out, HO8.out, by rw [HS.out]; exact HI8.out, by have := HW8.out.size; omega⟩
        case measure => simp [intOf]; omega
    · have hkk : k = ts.length := by omega
      subst hkk
      have HO9' : Hid (∀ w9, Lib.OthersKept 5 (some (w.heap.size + 1)) wr w9 → w9.ownsRow (w.heap.size + 2) 3 1 u4 (aL ts ts.length).length (flat (aL ts ts.length))) := fun w9 h9 => row_others HO.out h9 (by omega) (by decide)
      have HX9' : Hid (∀ w9, Below (w.heap.size + 1) wr w9 → Bx w9 w.heap.size #[.string ⟨#[]⟩, .slice none 0 0] 41) := fun w9 h9 => (HX0.out.below HBR.out (by omega)).below h9 (by omega)
      clear HO
      go_upto_region 10 with fail
      go_wp2_with (first
        | (go_at_call 15; refine (string_k (w.heap.size + 1) (w.heap.size + 1) _ _ HIB.out (by omega)).mono ?_; rintro e w9 ⟨rfl, hi9, hb9, hk9⟩; obtain ⟨a9, c9, hc9⟩ := builder_len hi9; rw [Lib.byteCells_length] at hc9; have HC9 : Hid (w9.cell? ⟨w.heap.size + 1, 1, none⟩ = some (.slice a9 (kby ts 0 ts.length).length c9)) := hc9; have HB9 : Hid (Below (w.heap.size + 1) wr w9) := hb9; have HO9 : Hid (w9.ownsRow (w.heap.size + 2) 3 1 u4 (aL ts ts.length).length (flat (aL ts ts.length))) := HO9'.out _ hk9; have HX9 : Hid (Bx w9 w.heap.size #[.string ⟨#[]⟩, .slice none 0 0] 41) := HX9'.out _ hb9; clear hb9 hk9 hi9 hc9)
        | (go_at_call 22; refine (bLen_at (w.heap.size + 1) a9 _ c9 _ HC9.out).mono ?_; rintro e wz ⟨rfl, rfl⟩)
        | (at_builtin; (refine wpList_append_own _ rfl (.tmp 29) (.tmp 31) 39 rfl (w.heap.size + 2) 3 i0 (.int .i64 0) 1 8 Tryd.underlying39 hi hz0 hz1 hz2 rfl (by decide) _ _ _ rfl (HO9.out.alloc _) ⟨w9.heap.size, 0, none⟩ 1 1 (flat [((kby ts 0 ts.length).length : Int)]) rfl rfl (cells_new w9 (flat [((kby ts 0 ts.length).length : Int)]) 3) (flat_oneCell _) ?q1 ?q2 ?q3 ?_)))
      case q1 => rw [HAL.out]; unfold maxLen; omega
      case q2 => rw [HAL.out]; omega
      case q3 => have := HB9.out.size; simp; omega
      intro v10 w10 hown10 hgrow10 _
      have HO10 : Hid (w10.ownsRow (w.heap.size + 2) 3 1 v10 (ts.length + 1) (flat (aL ts (ts.length + 1)))) := by
        unfold Hid; rw [aL_succ, flat_append]; rw [HAL.out] at hown10; exact hown10
      have hs9 : w.heap.size + 2 ≤ w9.heap.size := by have := HB9.out.size; omega
      have HW10 : Hid (Below (w.heap.size + 1) wr w10) := (HB9.out.alloc (by omega) _).grown hgrow10 (by simp; omega) (fun k hk => by have := (HO9.out.lt k hk).1; omega)
      have HX10 : Hid (Bx w10 w.heap.size #[.string ⟨#[]⟩, .slice none 0 0] 41) := bx_grown (HX9.out.alloc _) hgrow10 (row_kind (HO9.out.alloc _)) (by decide)
      obtain ⟨a10, c10, rfl, _⟩ := own_form HO10.out
      clear hown10 hgrow10 hk hlt hkl
      obtain ⟨sv, hsv⟩ : ∃ sv : ByteArray, sv = ⟨(kby ts 0 ts.length).toArray⟩ := ⟨_, rfl⟩
      rw [← hsv]
      have HSV : Hid (sv = ⟨(kby ts 0 ts.length).toArray⟩) := hsv
      clear hsv
      refine wpList_plain rfl fun _ hK => wp_bld 41 _ rfl #[.string sv, .slice a10 (ts.length + 1) c10] (by kernel_rfl) (hK _ _ ?_)
      refine wpList_store_row rfl 41 (.tmp 2) (.tmp 33) rfl w.heap.size #[.string sv, .slice a10 (ts.length + 1) c10] rfl rfl _ _ HX10.out (by kernel_rfl) rfl (by simp [Value.oneCell']) ?_
      obtain ⟨w11, e11⟩ : ∃ w11, w10.setRow w.heap.size #[.string sv, .slice a10 (ts.length + 1) c10] = w11 := ⟨_, rfl⟩
      have HX11 : Hid (Bx w11 w.heap.size #[.string sv, .slice a10 (ts.length + 1) c10] 41) := by
        unfold Hid; rw [← e11]; exact setRow_heap _ _ _ _ _ _ HX10.out
      have HO11 : Hid (LiesA w11 a10 (aL ts (ts.length + 1))) := by
        unfold Hid
        have h : w11.ownsRow (w.heap.size + 2) 3 1 (.slice a10 (ts.length + 1) c10) (ts.length + 1) (flat (aL ts (ts.length + 1))) := by
          rw [← e11]
          refine ⟨HO10.out.1, ?_⟩
          rcases HO10.out.2 with h | ⟨g, cap, cur, hv, hg, hh, r⟩
          · exact .inl h
          · exact .inr ⟨g, cap, cur, hv, hg, by rw [setRow_other _ _ _ _ (by omega)]; exact hh, r⟩
        obtain ⟨a', c', h1, h2, _⟩ := own_form (α := Int) h
        cases h1
        exact h2
      have HW11 : Hid (Below w.heap.size w w11) := by
        unfold Hid; rw [← e11]; exact below_setRow (HWR.out.trans (HW10.out.mono (by omega))) (Nat.le_refl _) _
      rw [e11]
      have y0 : w11.cell? ⟨w.heap.size, 0, none⟩ = some (.string sv) := HX11.out.cell 0
      have y1 : w11.cell? ⟨w.heap.size, 1, none⟩ = some (.slice a10 (ts.length + 1) c10) := HX11.out.cell 1
      clear e11
      go_wp2
      refine bodyPost_ret (v := .agg #[.string sv, .slice a10 (ts.length + 1) c10]) (by simp [results, Tryd.results9, go_sem, y0, y1]) rfl ⟨_, _, by rw [HSV.out], HO11.out, HW11.out⟩
end Go.Proofs.YtijcfgeafgddkaaDoor
