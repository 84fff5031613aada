import Derived.Test.YtphejjghgalkpaaDoorMd0
import Derived.Test.YtphejjghgalkpaaDoorLmw
import Derived.Test.YtphejjghgalkpaaDoorRls
namespace Go.Proofs.YtphejjghgalkpaaDoor
set_option linter.unusedVariables false
set_option linter.unusedSimpArgs false

def wrd (n : Nat) : List UInt8 := if n < 73 then spR (n + 7) else match n % 7 with
  | 0 => [120, UInt8.ofNat (97 + n % 26)]
  | 1 => [95]
  | 2 => [48, 120, 95, 49, 70]
  | 3 => [39, 92, 39, 39]
  | 4 => [34, 97, 92, 110, 34]
  | 5 => [57, 48]
  | _ => [96, 10, 96]
def wkd (n : Nat) : Nat := if n < 73 then n + 7 else match n % 7 with
  | 0 => 2
  | 1 => 2
  | 2 => 3
  | 3 => 4
  | 4 => 5
  | 5 => 3
  | _ => 5
theorem rnE_ld (l : List UInt8) (h : ∀ c ∈ l, c.toNat < 128 ∧ isLD c.toNat = true) : ∀ m p, l.length - p ≤ m → p ≤ l.length → rnE (sq l) p = l.length
  | m, p, hm, hp => by
    by_cases hlt : p < l.length
    · have hlt' : p < (sq l).size := by rw [sq_size]; exact hlt
      have e := List.getElem?_eq_getElem hlt
      obtain ⟨h1, h2⟩ := h _ (List.getElem_mem hlt)
      have hb : bt (sq l) p = (l[p]).toNat := bt_at e
      have hr := asc_rn hlt' (by rw [hb]; exact h1)
      obtain ⟨-, -, d3, -⟩ := dec_facts (sq l) p hlt'
      have hd := d3 (by rw [← bt_in hlt', hb]; exact h1)
      rw [rnE_in hlt' (by rw [hr, hb]; exact h2), hd.1]
      match m, hm with
      | 0, hm => omega
      | m + 1, hm => exact rnE_ld l h m (p + 1) (by omega) (by omega)
    · rw [rnE_out (fun h => hlt (by have := h.1; rw [sq_size] at this; exact this))]; omega
theorem sq_ext (l : List UInt8) : ((sq l).extract 0 l.length).data.toList = l := by
  have h : (sq l).size = l.length := sq_size l
  rw [← h, ByteArray.extract_zero_size]
  show l.toArray.toList = l
  simp
theorem sq_ext' (l : List UInt8) : (sq l).extract 0 l.length = sq l := by
  have h : (sq l).size = l.length := sq_size l
  rw [← h, ByteArray.extract_zero_size]
theorem xa_kw : ∀ m, m < 26 → kwd [120, UInt8.ofNat (97 + m)] = 2 := by decide
theorem xa_ld : ∀ m, m < 26 → ∀ c ∈ [(120 : UInt8), UInt8.ofNat (97 + m)], c.toNat < 128 ∧ isLD c.toNat = true := by decide
theorem us_ld : ∀ c ∈ [(95 : UInt8)], c.toNat < 128 ∧ isLD c.toNat = true := by decide
theorem hx_ld : ∀ c ∈ [(48 : UInt8), 120, 95, 49, 70], c.toNat < 128 ∧ isLD c.toNat = true := by decide
theorem nn_ld : ∀ c ∈ [(57 : UInt8), 48], c.toNat < 128 ∧ isLD c.toNat = true := by decide
theorem l120 : isL 120 = true ∧ isL 95 = true ∧ isL 48 = false ∧ isL 57 = false ∧ isL 39 = false ∧ isL 34 = false ∧ isL 96 = false := by decide
theorem rn0 (c : UInt8) (r : List UInt8) (h : c.toNat < 128) : rn (sq (c :: r)) 0 = c.toNat := by
  have h0 : 0 < (sq (c :: r)).size := by rw [sq_size]; simp
  have hb : bt (sq (c :: r)) 0 = c.toNat := bt_at rfl
  rw [asc_rn h0 (by rw [hb]; exact h), hb]
theorem pc_head (c : UInt8) (r : List UInt8) (hc : c.toNat < 128) (h1 : blk c.toNat = false) (h2 : c.toNat ≠ 47) : pce (sq (c :: r)) 0 = if isL c.toNat then nmP (sq (c :: r)) 0 else if 48 ≤ c.toNat ∧ c.toNat ≤ 57 then ruP (sq (c :: r)) 0 else if c.toNat = 39 ∨ c.toNat = 34 ∨ c.toNat = 96 then quP (sq (c :: r)) 0 else mkP (sq (c :: r)) 0 := by
  have hb : bt (sq (c :: r)) 0 = c.toNat := bt_at rfl
  unfold pce
  rw [hb, rn0 c r hc, if_neg (by rw [h1]; simp), if_neg (fun h => h2 h.1), if_neg (fun h => h2 h.1)]
theorem pc_name (c : UInt8) (r : List UInt8) (hc : c.toNat < 128) (h1 : blk c.toNat = false) (h2 : c.toNat ≠ 47) (h3 : isL c.toNat = true) (hl : ∀ d ∈ c :: r, d.toNat < 128 ∧ isLD d.toNat = true) (hk : kwd (c :: r) = 2) (hz : (c :: r).length ≤ 200) : pce (sq (c :: r)) 0 = .ok 2 (c :: r).length := by
  rw [pc_head c r hc h1 h2, if_pos h3]
  unfold nmP
  rw [rnE_ld _ hl _ 0 (Nat.le_refl _) (Nat.zero_le _), if_neg (by omega), sq_ext, hk]
theorem pc_numb (c : UInt8) (r : List UInt8) (hc : c.toNat < 128) (h1 : blk c.toNat = false) (h2 : c.toNat ≠ 47) (h3 : isL c.toNat = false) (h4 : 48 ≤ c.toNat ∧ c.toNat ≤ 57) (hl : ∀ d ∈ c :: r, d.toNat < 128 ∧ isLD d.toNat = true) (hk : num (sq (c :: r)) = true) : pce (sq (c :: r)) 0 = .ok 3 (c :: r).length := by
  rw [pc_head c r hc h1 h2, h3, if_neg (by simp), if_pos h4]
  unfold ruP
  rw [rnE_ld _ hl _ 0 (Nat.le_refl _) (Nat.zero_le _), sq_ext', hk, if_pos rfl]
theorem pc_xa (m : Nat) (hm : m < 26) : pce (sq [120, UInt8.ofNat (97 + m)]) 0 = .ok 2 2 :=
  pc_name 120 _ (by decide) (by decide) (by decide) l120.1 (xa_ld m hm) (xa_kw m hm) (by simp)
theorem pc_us : pce (sq [95]) 0 = .ok 2 1 :=
  pc_name 95 _ (by decide) (by decide) (by decide) l120.2.1 us_ld (by decide) (by simp)
theorem nm_dig {r : ByteArray} {b off k : Nat} (h : k < r.size) (h1 : bt r k ≠ 95) (h2 : ¬ b ≤ dgv (bt r k)) : nmL r b off k = nmL r b off (k + 1) := by
  rw [nmL, dif_pos h, if_neg h1, if_neg h2]
theorem nm_und {r : ByteArray} {b off k : Nat} (h : k < r.size) (h1 : bt r k = 95) (h2 : ¬ ((k = off ∧ b = 10) ∨ r.size ≤ k + 1 ∨ bt r (k + 1) = 95)) : nmL r b off k = nmL r b off (k + 1) := by
  rw [nmL, dif_pos h, if_pos h1, if_neg h2]
theorem nm_end {r : ByteArray} {b off k : Nat} (h : ¬ k < r.size) : nmL r b off k = true := by rw [nmL, dif_neg h]
theorem num_hx : num (sq [48, 120, 95, 49, 70]) = true := by
  unfold num
  rw [if_pos (by rw [sq_size, sqB]; decide), if_neg (by rw [sq_size, sqB]; decide)]
  have hb : bsl (bt (sq [48, 120, 95, 49, 70]) 1) = 16 := by rw [sqB]; decide
  rw [hb, nm_und (by rw [sq_size]; decide) (by rw [sqB]; decide) (by rw [sq_size, sqB]; decide), nm_dig (by rw [sq_size]; decide) (by rw [sqB]; decide) (by rw [sqB]; decide), nm_dig (by rw [sq_size]; decide) (by rw [sqB]; decide) (by rw [sqB]; decide), nm_end (by rw [sq_size]; decide)]
theorem num_nn : num (sq [57, 48]) = true := by
  unfold num
  rw [if_neg (by rw [sq_size, sqB]; decide), if_neg (by rw [sq_size]; decide)]
  rw [nm_dig (by rw [sq_size]; decide) (by rw [sqB]; decide) (by rw [sqB]; decide), nm_dig (by rw [sq_size]; decide) (by rw [sqB]; decide) (by rw [sqB]; decide), nm_end (by rw [sq_size]; decide)]
theorem pc_hx : pce (sq [48, 120, 95, 49, 70]) 0 = .ok 3 5 :=
  pc_numb 48 _ (by decide) (by decide) (by decide) l120.2.2.1 (by decide) hx_ld num_hx
theorem pc_nn : pce (sq [57, 48]) 0 = .ok 3 2 :=
  pc_numb 57 _ (by decide) (by decide) (by decide) l120.2.2.2.1 (by decide) nn_ld num_nn
theorem pc_raw : pce (sq [96, 10, 96]) 0 = .ok 5 3 := by
  rw [pc_head 96 _ (by decide) (by decide) (by decide), show isL (UInt8.toNat 96) = false from l120.2.2.2.2.2.2, if_neg (by simp), if_neg (by decide), if_pos (by decide)]
  unfold quP
  rw [if_pos (by rw [sqB]; decide), fnd_in (by rw [sq_size]; decide) (by rw [sqB]; decide), fnd_out (by rw [sq_size, sqB]; decide), if_pos (by rw [sq_size]; decide)]
theorem itm_esc {s : ByteArray} {k q v : Nat} (h : bt s k = 92) (hs : ¬ s.size ≤ k + 1) (he : esc (bt s (k + 1)) q = some v) : itm s k q = some ⟨2, v, false, false⟩ := by
  unfold itm
  rw [if_neg (by simpa using h), if_neg hs, he]
theorem pc_chr : pce (sq [39, 92, 39, 39]) 0 = .ok 4 4 := by
  rw [pc_head 39 _ (by decide) (by decide) (by decide), show isL (UInt8.toNat 39) = false from l120.2.2.2.2.1, if_neg (by simp), if_neg (by decide), if_pos (by decide)]
  have hb : bt (sq [39, 92, 39, 39]) 0 = 39 := by rw [sqB]; decide
  unfold quP
  rw [hb, if_neg (by decide), quo_on (it := ⟨2, 39, false, false⟩) ⟨by rw [sq_size]; decide, by rw [sqB]; decide⟩ (by rw [sqB]; decide) (itm_esc (by rw [sqB]; decide) (by rw [sq_size]; decide) (by rw [sqB]; decide)), quo_quote (by rw [sq_size]; decide) (by rw [sqB]; decide) (by rw [sqB]; decide)]
  simp
theorem pc_txt : pce (sq [34, 97, 92, 110, 34]) 0 = .ok 5 5 := by
  rw [pc_head 34 _ (by decide) (by decide) (by decide), show isL (UInt8.toNat 34) = false from l120.2.2.2.2.2.1, if_neg (by simp), if_neg (by decide), if_pos (by decide)]
  have hb : bt (sq [34, 97, 92, 110, 34]) 0 = 34 := by rw [sqB]; decide
  have h1 : bt (sq [34, 97, 92, 110, 34]) 1 = 97 := by rw [sqB]; decide
  have hl : 1 < (sq [34, 97, 92, 110, 34]).size := by rw [sq_size]; decide
  have hr : rn (sq [34, 97, 92, 110, 34]) 1 = 97 := by rw [asc_rn hl (by rw [h1]; decide), h1]
  obtain ⟨-, -, d3, -⟩ := dec_facts (sq [34, 97, 92, 110, 34]) 1 hl
  have hd := (d3 (by rw [← bt_in hl, h1]; decide)).1
  have hi : itm (sq [34, 97, 92, 110, 34]) 1 34 = some ⟨1, 97, false, false⟩ := by
    unfold itm
    rw [if_pos (by rw [h1]; decide), hr, hd]
    rfl
  unfold quP
  rw [hb, if_neg (by decide), quo_on (it := ⟨1, 97, false, false⟩) ⟨hl, by rw [h1]; decide⟩ (by rw [h1]; decide) hi, quo_on (it := ⟨2, 10, false, false⟩) ⟨by rw [sq_size]; decide, by rw [sqB]; decide⟩ (by rw [sqB]; decide) (itm_esc (by rw [sqB]; decide) (by rw [sq_size]; decide) (by rw [sqB]; decide)), quo_quote (by rw [sq_size]; decide) (by rw [sqB]; decide) (by rw [sqB]; decide)]
  simp
theorem it_of {n g k : Nat} {l : List UInt8} (a : wrd n = l) (b : wkd n = k) (p : pce (sq l) 0 = .ok k l.length) (ne : l ≠ []) (lo : 2 ≤ k) (n6 : k ≠ 6) (hi : k < 80) : It.ok ⟨wrd n, wkd n, g⟩ := by
  rw [a, b]
  exact ⟨p, ne, lo, n6, hi⟩
theorem wrd_ok (n g : Nat) (hn : n < 90) : It.ok ⟨wrd n, wkd n, g⟩ := by
  by_cases h : n < 73
  · have e1 : wrd n = spR (n + 7) := by unfold wrd; rw [if_pos h]
    have e2 : wkd n = n + 7 := by unfold wkd; rw [if_pos h]
    by_cases h2 : n < 25
    · have e : spR (n + 7) = wds.getD n [] := by unfold spR; rw [if_neg (by omega), if_pos (by omega), Nat.add_sub_cancel]
      have hp := pce_word n h2
      rw [sq_size] at hp
      refine ⟨?_, ?_, ?_, ?_, ?_⟩ <;> simp only [e1, e2, e]
      · rw [Nat.add_comm n 7]; exact hp
      · exact List.length_pos_iff.1 (wds_pos n h2).1
      · omega
      · omega
      · omega
    · obtain ⟨m, rfl⟩ : ∃ m, n = 25 + m := ⟨n - 25, by omega⟩
      have e : spR (25 + m + 7) = mks.getD m [] := by unfold spR; rw [if_neg (by omega), if_neg (by omega), show 25 + m + 7 - 32 = m by omega]
      have hp := pce_mark m (by omega)
      rw [sq_size] at hp
      refine ⟨?_, ?_, ?_, ?_, ?_⟩ <;> simp only [e1, e2, e]
      · rw [show 25 + m + 7 = 32 + m by omega]; exact hp
      · exact mks_pos m (by omega)
      · omega
      · omega
      · omega
  · have e1 : wrd n = match n % 7 with | 0 => [120, UInt8.ofNat (97 + n % 26)] | 1 => [95] | 2 => [48, 120, 95, 49, 70] | 3 => [39, 92, 39, 39] | 4 => [34, 97, 92, 110, 34] | 5 => [57, 48] | _ => [96, 10, 96] := by unfold wrd; rw [if_neg h]
    have e2 : wkd n = match n % 7 with | 0 => 2 | 1 => 2 | 2 => 3 | 3 => 4 | 4 => 5 | 5 => 3 | _ => 5 := by unfold wkd; rw [if_neg h]
    have h7 : n % 7 = 0 ∨ n % 7 = 1 ∨ n % 7 = 2 ∨ n % 7 = 3 ∨ n % 7 = 4 ∨ n % 7 = 5 ∨ n % 7 = 6 := by omega
    have h26 : n % 26 < 26 := by omega
    rcases h7 with q | q | q | q | q | q | q
    · exact it_of (by rw [e1, q]; rfl) (by rw [e2, q]; rfl) (pc_xa _ h26) (by simp) (by decide) (by decide) (by decide)
    · exact it_of (by rw [e1, q]; rfl) (by rw [e2, q]; rfl) pc_us (by simp) (by decide) (by decide) (by decide)
    · exact it_of (by rw [e1, q]; rfl) (by rw [e2, q]; rfl) pc_hx (by simp) (by decide) (by decide) (by decide)
    · exact it_of (by rw [e1, q]; rfl) (by rw [e2, q]; rfl) pc_chr (by simp) (by decide) (by decide) (by decide)
    · exact it_of (by rw [e1, q]; rfl) (by rw [e2, q]; rfl) pc_txt (by simp) (by decide) (by decide) (by decide)
    · exact it_of (by rw [e1, q]; rfl) (by rw [e2, q]; rfl) pc_nn (by simp) (by decide) (by decide) (by decide)
    · exact it_of (by rw [e1, q]; rfl) (by rw [e2, q]; rfl) pc_raw (by simp) (by decide) (by decide) (by decide)
end Go.Proofs.YtphejjghgalkpaaDoor
