import Derived.Test.YtphejjghgalkpaaDoorLc2
import Derived.Test.YtphejjghgalkpaaDoorLzs
import Derived.Test.YtphejjghgalkpaaDoorLmy
namespace Go.Proofs.YtphejjghgalkpaaDoor
set_option linter.unusedVariables false
set_option linter.unusedSimpArgs false

theorem sqB (l : List UInt8) (i : Nat) : bt (sq l) i = match l[i]? with | some c => c.toNat | none => 256 := by
  cases h : l[i]? with
  | some c => exact bt_at h
  | none =>
    rw [bt_out]
    rw [sq_size]
    have := List.getElem?_eq_none_iff.1 h
    omega
/-- the first byte of a list, and of chunks -/
def hdC : List UInt8 → Nat
  | [] => 256
  | c :: _ => c.toNat
abbrev Ck := Nat × List UInt8
def byC : List Ck → List UInt8
  | [] => []
  | c :: r => c.2 ++ byC r
/-- what may stand behind a chunk -/
def nxt (k : Nat) (b : List UInt8) (c : Nat) : Prop := (k = 0 → blk c = false) ∧ (k = 1 → bt (sq b) 1 = 47 → c = 10) ∧ (2 ≤ k → c = 32 ∨ c = 9 ∨ c = 10)
def okC : List Ck → Prop
  | [] => True
  | c :: r => pce (sq c.2) 0 = .ok c.1 c.2.length ∧ c.2 ≠ [] ∧ nxt c.1 c.2 (hdC (byC r)) ∧ okC r
def pcs : Nat → List Ck → List Tk
  | _, [] => []
  | p, c :: r => ⟨c.1, p, (p + c.2.length : Nat)⟩ :: pcs (p + c.2.length) r
theorem sq_at (P b R : List UInt8) (j : Nat) (hj : j < b.length) : bt (sq (P ++ b ++ R)) (P.length + j) = bt (sq b) j := by
  rw [sqB, sqB, List.getElem?_append_left (by simp; omega), List.getElem?_append_right (by omega), Nat.add_sub_cancel_left]
theorem sq_next (P b R : List UInt8) : bt (sq (P ++ b ++ R)) (P.length + b.length) = hdC R := by
  rw [sqB, List.getElem?_append_right (by simp), List.length_append, Nat.sub_self]
  cases R <;> rfl
theorem mks_noblank : ∀ m ∈ mks, ∀ c ∈ m, c.toNat ≠ 32 ∧ c.toNat ≠ 9 ∧ c.toNat ≠ 10 := by decide
theorem blank_ld : isLD 32 = false ∧ isLD 9 = false ∧ isLD 10 = false := by decide
theorem fit_get {s : ByteArray} : ∀ (m : List UInt8) (p i : Nat) (c : UInt8), fit s p m → m[i]? = some c → bt s (p + i) = c.toNat
  | [], p, i, c, h, e => by simp at e
  | d :: r, p, 0, c, h, e => by simp at e; subst e; exact h.1
  | d :: r, p, i + 1, c, h, e => by
    have := fit_get r (p + 1) i c h.2 (by simpa using e)
    rw [show p + (i + 1) = p + 1 + i by omega]
    exact this
theorem pce_chunk (P b R : List UInt8) (k : Nat) (h : pce (sq b) 0 = .ok k b.length) (hb : b ≠ []) (hn : nxt k b (hdC R)) : pce (sq (P ++ b ++ R)) P.length = .ok k (P.length + b.length) := by
  have hl : 0 < b.length := List.length_pos_iff.2 hb
  have h0 : 0 < (sq b).size := by rw [sq_size]; exact hl
  have hnx := sq_next P b R
  have hTs : (sq (P ++ b ++ R)).size = P.length + b.length + R.length := by rw [sq_size]; simp; omega
  have key := pce_ag (s' := sq (P ++ b ++ R)) (p' := P.length) h0 h (fun j hj => by rw [Nat.zero_add]; exact sq_at P b R j (by omega))
    (fun hk => by rw [Nat.sub_zero, hnx]; exact hn.1 hk)
    (fun hk h1 => by rw [Nat.sub_zero, hnx]; exact .inl (hn.2.1 hk (by simpa using h1)))
    (fun _ h2 _ _ hlt => by
      rw [Nat.sub_zero] at hlt ⊢
      have hc := hn.2.2 h2
      have hb' : bt (sq (P ++ b ++ R)) (P.length + b.length) < 128 := by rw [hnx]; omega
      rw [asc_rn hlt hb', hnx]
      obtain ⟨b1, b2, b3⟩ := blank_ld
      rcases hc with e | e | e <;> rw [e]
      · exact b1
      · exact b2
      · exact b3)
    (fun h32 => by
      have hc := hn.2.2 (by omega)
      refine ⟨fun m hm hbg => ?_, fun e _ => ?_⟩
      · rw [Nat.sub_zero]
        rcases Nat.lt_or_ge b.length m.length with hlt | hge
        · exfalso
          have hf := (bgn_fit _ _ _ (by rw [hTs]; omega)).1 hbg
          obtain ⟨c, hcm⟩ : ∃ c, m[b.length]? = some c := ⟨_, List.getElem?_eq_getElem hlt⟩
          have h1 := fit_get m _ _ c hf hcm
          rw [hnx] at h1
          obtain ⟨a1, a2, a3⟩ := mks_noblank m hm c (List.mem_of_getElem? hcm)
          omega
        · exact hge
      · rw [Nat.zero_add] at e
        rw [← e, hnx]
        omega)
  rw [Nat.sub_zero] at key
  exact key
theorem cut_chunks : ∀ (cs : List Ck) (P : List UInt8), okC cs → cut (sq (P ++ byC cs)) P.length = (pcs P.length cs, none)
  | [], P, _ => by
    rw [cut_end (by rw [sq_size]; simp [byC])]
    rfl
  | (k, b) :: r, P, ⟨h1, h2, h3, h4⟩ => by
    have hl : 0 < b.length := List.length_pos_iff.2 h2
    have hp := pce_chunk P b (byC r) k h1 h2 h3
    have e : P ++ byC ((k, b) :: r) = P ++ b ++ byC r := by simp [byC]
    have ih := cut_chunks r (P ++ b) h4
    rw [e, cut_ok (by rw [sq_size]; simp; omega) hp]
    rw [List.length_append] at ih
    rw [ih]
    simp [pcs]
/-- has a chunk a line feed? -/
def nlB (b : List UInt8) : Bool := decide (0 ≤ Lib.indexByte b 10)
theorem ext_mid (P b R : List UInt8) : ((sq (P ++ b ++ R)).extract P.length (P.length + b.length)).data.toList = b := by
  rw [ByteArray.data_extract, Array.toList_extract]
  show List.extract (P ++ b ++ R).toArray.toList _ _ = b
  simp [List.extract]
theorem nlc_chunk (P b R : List UInt8) (k : Int) : nlc (sq (P ++ b ++ R)) ⟨k, (P.length : Nat), (P.length + b.length : Nat)⟩ = nlB b := by
  have e := ext_mid P b R
  show decide (0 ≤ Lib.indexByte ((sq (P ++ b ++ R)).extract ((P.length : Nat) : Int).toNat ((P.length + b.length : Nat) : Int).toNat).data.toList 10) = decide (0 ≤ Lib.indexByte b 10)
  rw [decide_eq_decide, Int.toNat_natCast, Int.toNat_natCast, e]
/-- the chunks of a gap -/
def gch : Nat → List Ck
  | 0 => [(0, [32])]
  | 1 => [(0, [9, 13, 32])]
  | 2 => [(0, [10])]
  | 3 => [(0, [32]), (1, [47, 42, 32, 97, 32, 42, 47]), (0, [32])]
  | 4 => [(0, [32]), (1, [47, 42, 10, 42, 47]), (0, [32])]
  | _ => [(0, [32]), (1, [47, 47, 32, 99, 32]), (0, [10])]
/-- ends a line in a gap? -/
def gln (g : Nat) : Bool := decide (g = 2 ∨ g = 4 ∨ 5 ≤ g)
/-- a word and what stands behind it -/
structure It where
  w : List UInt8
  k : Nat
  g : Nat
structure It.ok (i : It) : Prop where
  pc : pce (sq i.w) 0 = .ok i.k i.w.length
  ne : i.w ≠ []
  lo : 2 ≤ i.k
  n6 : i.k ≠ 6
  hi : i.k < 80
def chs : List It → List Ck
  | [] => []
  | i :: r => (i.k, i.w) :: (gch i.g ++ chs r)
/-- the tokens, with a semicolon behind those that ask for one where a line ends -/
def wnt : Nat → List It → List Tk
  | _, [] => []
  | p, i :: r => (⟨i.k, p, (p + i.w.length : Nat)⟩ :: (if (gln i.g || r.isEmpty) && ask i.k then [(⟨6, (p + i.w.length : Nat), (p + i.w.length : Nat)⟩ : Tk)] else [])) ++ wnt (p + i.w.length + (byC (gch i.g)).length) r
theorem byC_app (a b : List Ck) : byC (a ++ b) = byC a ++ byC b := by
  induction a with
  | nil => rfl
  | cons c r ih => simp [byC, ih]
theorem pcs_app (a b : List Ck) : ∀ p, pcs p (a ++ b) = pcs p a ++ pcs (p + (byC a).length) b := by
  induction a with
  | nil => intro p; rfl
  | cons c r ih =>
    intro p
    simp only [List.cons_append, pcs, byC, List.length_append, ih]
    rw [Nat.add_assoc]
theorem pc_b1 : pce (sq [32]) 0 = .ok 0 1 := by
  unfold pce
  rw [if_pos (by rw [sqB]; decide)]
  rw [blE_in (by rw [sq_size]; decide) (by rw [sqB]; decide), blE_out (by rw [sq_size]; decide)]
theorem pc_b2 : pce (sq [9, 13, 32]) 0 = .ok 0 3 := by
  unfold pce
  rw [if_pos (by rw [sqB]; decide)]
  rw [blE_in (by rw [sq_size]; decide) (by rw [sqB]; decide), blE_in (by rw [sq_size]; decide) (by rw [sqB]; decide), blE_in (by rw [sq_size]; decide) (by rw [sqB]; decide), blE_out (by rw [sq_size]; decide)]
theorem pc_b3 : pce (sq [10]) 0 = .ok 0 1 := by
  unfold pce
  rw [if_pos (by rw [sqB]; decide)]
  rw [blE_in (by rw [sq_size]; decide) (by rw [sqB]; decide), blE_out (by rw [sq_size]; decide)]
theorem pc_n1 : pce (sq [47, 42, 32, 97, 32, 42, 47]) 0 = .ok 1 7 := by
  unfold pce
  rw [if_neg (by rw [sqB]; decide), if_neg (by rw [sqB, sqB]; decide), if_pos (by rw [sqB, sqB]; decide)]
  rw [fn2_in (by rw [sq_size]; decide) (by rw [sqB, sqB]; decide), fn2_in (by rw [sq_size]; decide) (by rw [sqB, sqB]; decide), fn2_in (by rw [sq_size]; decide) (by rw [sqB, sqB]; decide), fn2_hit (by rw [sq_size]; decide) (by rw [sqB, sqB]; decide)]
theorem pc_n2 : pce (sq [47, 42, 10, 42, 47]) 0 = .ok 1 5 := by
  unfold pce
  rw [if_neg (by rw [sqB]; decide), if_neg (by rw [sqB, sqB]; decide), if_pos (by rw [sqB, sqB]; decide)]
  rw [fn2_in (by rw [sq_size]; decide) (by rw [sqB, sqB]; decide), fn2_hit (by rw [sq_size]; decide) (by rw [sqB, sqB]; decide)]
theorem pc_n3 : pce (sq [47, 47, 32, 99, 32]) 0 = .ok 1 5 := by
  unfold pce
  rw [if_neg (by rw [sqB]; decide), if_pos (by rw [sqB, sqB]; decide)]
  rw [fnd_in (by rw [sq_size]; decide) (by rw [sqB]; decide), fnd_in (by rw [sq_size]; decide) (by rw [sqB]; decide), fnd_in (by rw [sq_size]; decide) (by rw [sqB]; decide), fnd_in (by rw [sq_size]; decide) (by rw [sqB]; decide), fnd_in (by rw [sq_size]; decide) (by rw [sqB]; decide), fnd_out (by rw [sq_size]; decide)]
/-- a word does not begin with a blank -/
theorem It.ok.hd {i : It} (h : i.ok) : blk (hdC i.w) = false := by
  have h1 := h.pc
  have h2 := h.lo
  cases hw : i.w with
  | nil => exact absurd hw h.ne
  | cons c r =>
    cases hb : blk (hdC (c :: r)) with
    | false => rfl
    | true =>
      rw [hw] at h1
      unfold pce at h1
      rw [if_pos (by rw [sqB]; exact hb)] at h1
      have := (Pce.ok.inj h1).1
      omega
theorem hd_chs {l : List It} (h : ∀ i ∈ l, i.ok) : blk (hdC (byC (chs l))) = false := by
  cases l with
  | nil => rfl
  | cons i r =>
    have hi := h i (List.mem_cons_self ..)
    have := hi.hd
    show blk (hdC (i.w ++ byC (gch i.g ++ chs r))) = false
    cases hw : i.w with
    | nil => exact absurd hw hi.ne
    | cons c t => rw [hw] at this; exact this
theorem hd_gch (g : Nat) (R : List Ck) : hdC (byC (gch g ++ R)) = 32 ∨ hdC (byC (gch g ++ R)) = 9 ∨ hdC (byC (gch g ++ R)) = 10 := by
  match g with
  | 0 => exact .inl rfl
  | 1 => exact .inr (.inl rfl)
  | 2 => exact .inr (.inr rfl)
  | 3 => exact .inl rfl
  | 4 => exact .inl rfl
  | _ + 5 => exact .inl rfl
theorem ok_gch (g : Nat) (R : List Ck) (hR : okC R) (hb : blk (hdC (byC R)) = false) : okC (gch g ++ R) := by
  have N0 : ∀ b c, blk c = false → nxt 0 b c := fun b c h => ⟨fun _ => h, fun e => by omega, fun e => by omega⟩
  have N1 : ∀ (b : List UInt8) (c : Nat), bt (sq b) 1 ≠ 47 → nxt 1 b c := fun b c h => ⟨fun e => by omega, fun _ e => absurd e h, fun e => by omega⟩
  match g with
  | 0 => exact ⟨pc_b1, by simp, N0 _ _ hb, hR⟩
  | 1 => exact ⟨pc_b2, by simp, N0 _ _ hb, hR⟩
  | 2 => exact ⟨pc_b3, by simp, N0 _ _ hb, hR⟩
  | 3 => exact ⟨pc_b1, by simp, N0 _ _ (by rfl), pc_n1, by simp, N1 _ _ (by rw [sqB]; decide), pc_b1, by simp, N0 _ _ hb, hR⟩
  | 4 => exact ⟨pc_b1, by simp, N0 _ _ (by rfl), pc_n2, by simp, N1 _ _ (by rw [sqB]; decide), pc_b1, by simp, N0 _ _ hb, hR⟩
  | _ + 5 => exact ⟨pc_b1, by simp, N0 _ _ (by rfl), pc_n3, by simp, ⟨fun e => by omega, fun _ _ => rfl, fun e => by omega⟩, pc_b3, by simp, N0 _ _ hb, hR⟩
theorem ok_chs : ∀ l : List It, (∀ i ∈ l, i.ok) → okC (chs l)
  | [], _ => trivial
  | i :: r, h => by
    have hi := h i (List.mem_cons_self ..)
    have hr : ∀ j ∈ r, j.ok := fun j hj => h j (List.mem_cons_of_mem _ hj)
    exact ⟨hi.pc, hi.ne, ⟨fun e => by have := hi.lo; simp only at e; omega, fun e => by have := hi.lo; simp only at e; omega, fun _ => hd_gch i.g (chs r)⟩, ok_gch i.g (chs r) (ok_chs r hr) (hd_chs hr)⟩
theorem pcs_k : ∀ (cs : List Ck) (p : Nat), (∀ c ∈ cs, c.1 = 0 ∨ c.1 = 1) → ∀ q ∈ pcs p cs, q.k = 0 ∨ q.k = 1
  | [], _, _, q, hq => by cases hq
  | c :: r, p, h, q, hq => by
    rcases List.mem_cons.1 hq with rfl | hq
    · rcases h c (List.mem_cons_self ..) with e | e <;> simp [e]
    · exact pcs_k r _ (fun d hd => h d (List.mem_cons_of_mem _ hd)) q hq
theorem wau_blank (s : ByteArray) (X : List Tk) : ∀ G : List Tk, (∀ q ∈ G, q.k = 0 ∨ q.k = 1) → wau s (G ++ X) = G ++ wau s X
  | [], _ => rfl
  | q :: r, h => by
    have ih := wau_blank s X r (fun d hd => h d (List.mem_cons_of_mem _ hd))
    have ha : ask q.k.toNat = false := by rcases h q (List.mem_cons_self ..) with e | e <;> rw [e] <;> decide
    rw [List.cons_append, wau, ih, ha]
    rfl
theorem flt_blank (X : List Tk) : ∀ G : List Tk, (∀ q ∈ G, q.k = 0 ∨ q.k = 1) → (G ++ X).filter (fun q => decide (1 < q.k)) = X.filter (fun q => decide (1 < q.k))
  | [], _ => rfl
  | q :: r, h => by
    rw [List.cons_append, List.filter_cons_of_neg (by rcases h q (List.mem_cons_self ..) with e | e <;> simp [e])]
    exact flt_blank X r (fun d hd => h d (List.mem_cons_of_mem _ hd))
theorem aft_chunks (X : List Tk) : ∀ (cs : List Ck) (P R : List UInt8), (∀ c ∈ cs, c.1 = 0 ∨ c.1 = 1) → aft (sq (P ++ byC cs ++ R)) (pcs P.length cs ++ X) = (cs.any (fun c => nlB c.2) || aft (sq (P ++ byC cs ++ R)) X)
  | [], P, R, _ => by simp [pcs]
  | (k, b) :: r, P, R, h => by
    have e : P ++ byC ((k, b) :: r) ++ R = P ++ b ++ byC r ++ R := by simp [byC]
    have e2 : P ++ b ++ byC r ++ R = P ++ b ++ (byC r ++ R) := by simp
    have ih := aft_chunks X r (P ++ b) R (fun d hd => h d (List.mem_cons_of_mem _ hd))
    rw [List.length_append] at ih
    have hk : (k : Int) = 0 ∨ (k : Int) = 1 := by have := h (k, b) (List.mem_cons_self ..); simp only at this; omega
    rw [e]
    simp only [pcs, List.cons_append, List.any_cons]
    rw [aft, if_pos hk, e2, nlc_chunk, ← e2]
    cases hn : nlB b with
    | true => simp
    | false => simp only [Bool.false_or]; exact ih
theorem gch_k (g : Nat) : ∀ c ∈ gch g, c.1 = 0 ∨ c.1 = 1 := by
  match g with
  | 0 => decide
  | 1 => decide
  | 2 => decide
  | 3 => decide
  | 4 => decide
  | _ + 5 => simp [gch]
theorem gch_nl (g : Nat) : (gch g).any (fun c => nlB c.2) = gln g := by
  match g with
  | 0 => decide
  | 1 => decide
  | 2 => decide
  | 3 => decide
  | 4 => decide
  | n + 5 =>
    have h1 : gln (n + 5) = true := by unfold gln; simp
    rw [h1]
    show [((0, [32]) : Ck), (1, [47, 47, 32, 99, 32]), (0, [10])].any (fun c => nlB c.2) = true
    decide
theorem aft_words (s : ByteArray) (p : Nat) (l : List It) (h : ∀ i ∈ l, i.ok) : aft s (pcs p (chs l)) = l.isEmpty := by
  cases l with
  | nil => rfl
  | cons i r =>
    have hi := (h i (List.mem_cons_self ..)).lo
    simp only [chs, pcs]
    rw [aft, if_neg (by simp only; omega)]
    rfl
/-- what is put together of tokens and gaps is read as these -/
theorem made_pure : ∀ (l : List It) (P : List UInt8), (∀ i ∈ l, i.ok) → (wau (sq (P ++ byC (chs l))) (pcs P.length (chs l))).filter (fun q => decide (1 < q.k)) = wnt P.length l
  | [], P, _ => rfl
  | i :: r, P, h => by
    have hi := h i (List.mem_cons_self ..)
    have hr : ∀ j ∈ r, j.ok := fun j hj => h j (List.mem_cons_of_mem _ hj)
    have ih := made_pure r (P ++ i.w ++ byC (gch i.g)) hr
    have e : P ++ byC (chs (i :: r)) = P ++ i.w ++ byC (gch i.g) ++ byC (chs r) := by simp [chs, byC, byC_app]
    have e1 : pcs P.length (chs (i :: r)) = ⟨(i.k : Nat), (P.length : Nat), (P.length + i.w.length : Nat)⟩ :: (pcs (P.length + i.w.length) (gch i.g) ++ pcs (P.length + i.w.length + (byC (gch i.g)).length) (chs r)) := by
      simp only [chs, pcs, pcs_app]
    have hl : (P ++ i.w).length = P.length + i.w.length := List.length_append
    have ha := aft_chunks (pcs (P.length + i.w.length + (byC (gch i.g)).length) (chs r)) (gch i.g) (P ++ i.w) (byC (chs r)) (gch_k i.g)
    rw [hl, gch_nl, aft_words _ _ r hr] at ha
    have hg := pcs_k (gch i.g) (P.length + i.w.length) (gch_k i.g)
    rw [List.length_append, hl] at ih
    have hk1 : decide (1 < ((i.k : Nat) : Int)) = true := by have := hi.lo; simp; omega
    rw [e, e1, wau, ha, wau_blank _ _ _ hg]
    simp only [Int.toNat_natCast, wnt]
    rw [List.cons_append, List.filter_cons_of_pos (by simpa using hk1), List.filter_append, flt_blank _ _ hg, ih, Bool.and_comm (ask i.k)]
    congr 1
    congr 1
    split
    · rfl
    · rfl
end Go.Proofs.YtphejjghgalkpaaDoor
