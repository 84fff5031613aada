import Derived.Test.YteolfolkolpehaaDoorCm2
namespace Go.Proofs.YteolfolkolpehaaDoor
open Go.ChangeShapes Go.WideShapes Go.ChangeAt Go.RowKit
set_option linter.unusedVariables false

def wv : List Ed → List Ed → Int → Int → List UInt8
  | put, [], a, hi => (tk put a hi).1
  | put, e :: r, a, hi => (tk put a e.f).1 ++ e.s.data.toList ++ wv (tk put a e.f).2 r e.t hi

theorem pc_len (e : Ed) (fr to : Int) : (pc e fr to).length ≤ e.s.size := by
  unfold pc
  split
  · rw [bytes_len, ByteArray.size_extract]; omega
  · simp

theorem tk_len (put : List Ed) (fr to : Int) : (tk put fr to).1.length + 0 ≤ tots put ∧ tots (tk put fr to).2 ≤ tots put ∧ (tk put fr to).2.length ≤ put.length ∧ ∀ e ∈ (tk put fr to).2, e ∈ put := by
  induction put with
  | nil => simp [tk, tots]
  | cons p r ih =>
    have hp := pc_len p fr to
    obtain ⟨i1, i2, i3, i4⟩ := ih
    by_cases h : to < p.t
    · rw [tk_break r h]
      refine ⟨?_, Nat.le_refl _, Nat.le_refl _, fun e he => he⟩
      simp only [tots]; omega
    · rw [tk_next r h]
      refine ⟨?_, ?_, ?_, fun e he => List.mem_cons_of_mem _ (i4 e he)⟩
      · simp only [List.length_append, tots]; omega
      · simp only [tots]; omega
      · simp only [List.length_cons]; omega

theorem wv_step {put0 put b0 : List Ed} {lo a hi : Int} {k : Nat} {e : Ed} {p : List UInt8} (he : b0[k]? = some e) (hp : p ++ wv put (b0.drop k) a hi = wv put0 b0 lo hi) :
    (p ++ (tk put a e.f).1 ++ e.s.data.toList) ++ wv (tk put a e.f).2 (b0.drop (k + 1)) e.t hi = wv put0 b0 lo hi := by
  rw [← hp, drop_get he, wv]
  simp [List.append_assoc]

theorem wv_end {put0 put b0 : List Ed} {lo a hi : Int} {k : Nat} {p : List UInt8} (hk : ¬ k < b0.length) (hp : p ++ wv put (b0.drop k) a hi = wv put0 b0 lo hi) :
    p ++ (tk put a hi).1 = wv put0 b0 lo hi := by
  rw [← hp, List.drop_eq_nil_of_le (by omega), wv]

/-- an edit of the second list, as weave takes it -/
def Bt (e : Ed) : Prop := 0 ≤ e.f ∧ e.f ≤ 9223372036854775807 ∧ 0 ≤ e.t ∧ e.t ≤ 9223372036854775807 ∧ e.s.size ≤ 1048576

set_option maxRecDepth 1000000 in
set_option maxHeartbeats 2000000 in
theorem weave_any (a1 a2 : Option Addr) (c1 c2 : Nat) (put b : List Ed) (lo hi : Int) (w : World) (h1 : EdsL w.heap.size w a1 put) (h2 : EdsA w a2 b) (hl1 : put.length ≤ 65536) (hc1 : put.length ≤ c1) (hl2 : b.length ≤ 65536) (hp : ∀ e ∈ put, Pt e) (hb : ∀ e ∈ b, Bt e) (hlo : 0 ≤ lo ∧ lo ≤ 9223372036854775807) (hhi : 0 ≤ hi ∧ hi ≤ 9223372036854775807) (ht : tots put ≤ 1048576) :
    Calls Tryd.prog 67 #[.slice a1 put.length c1, .slice a2 b.length c2, .int .i64 lo, .int .i64 hi] w fun e w' => e = .returned (.string ⟨(wv put b lo hi).toArray⟩) ∧ Below w.heap.size w w' := by
  obtain ⟨i0, hi0, hz0, hz1, hz2⟩ := info_parts infoU8
  have H1 : Hid (EdsL w.heap.size w a1 put) := h1
  have H2 : Hid (EdsA w a2 b) := h2
  have HP0 : Hid (∀ e ∈ put, Pt e) := hp
  have HB0 : Hid (∀ e ∈ b, Bt e) := hb
  obtain ⟨hlo0, hlo1⟩ := hlo
  obtain ⟨hhi0, hhi1⟩ := hhi
  clear h1 h2 hp hb
  go_enter Tryd.func67, Tryd.ntmps67
  go_wp2
  go_loopg [0, 9, 10, 16] b.length (fun gk sp sv sa si wr => ∃ (k : Nat) (q : List Ed) (p : List UInt8) (aq : Option Addr) (cq : Nat) (a : Int), gk = b.length - k ∧ k ≤ b.length ∧ si = .int .i64 k ∧ sa = .int .i64 a ∧ 0 ≤ a ∧ a ≤ 9223372036854775807 ∧ sp = .slice aq q.length cq ∧ q.length ≤ 65536 ∧ q.length ≤ cq ∧ tots q ≤ 1048576 ∧ EdsL w.heap.size wr aq q ∧ (∀ e ∈ q, Pt e) ∧ Below w.heap.size w wr ∧ wr.ownsRow w.heap.size 5 1 sv p.length (bc p) ∧ p.length ≤ k * 2097152 ∧ p ++ wv q (b.drop k) a hi = wv put b lo hi)
  case atStart => exact ⟨0, put, [], a1, c1, lo, by omega, Nat.zero_le _, rfl, rfl, hlo0, hlo1, rfl, hl1, hc1, ht, H1.out, HP0.out, Below.refl _ _, World.ownsRow_nil _ _ _ _, by simp, by simp⟩
  case round =>
    obtain ⟨k, q, p, aq, cq, a, rfl, hk, rfl, rfl, ha0, ha1, rfl, hq1, hq2, hq3, hE, hpq, hbel, hown, hpl, hwv⟩ := hrel
    have hsz := hbel.size
    have hlt1 : Hid (∀ k, u9.ownBlock = some k → w.heap.size ≤ k ∧ k < wr.heap.size) := hown.lt
    have HO : Hid (wr.ownsRow w.heap.size 5 1 u9 p.length (bc p)) := hown
    have HE : Hid (EdsL w.heap.size wr aq q) := hE
    have HPQ : Hid (∀ e ∈ q, Pt e) := hpq
    have HW : Hid (p ++ wv q (b.drop k) a hi = wv put b lo hi) := hwv
    have HB : Hid (Below w.heap.size w wr) := hbel
    clear hown hE hpq hwv
    by_cases hlt : k < b.length
    · obtain ⟨e, he⟩ : ∃ e, b[k]? = some e := ⟨_, List.getElem?_eq_getElem hlt⟩
      rcases H2.out with h0 | ⟨bb, bo, rfl, hE2⟩
      · rw [h0] at hlt; simp at hlt
      obtain ⟨c0, c1', c2'⟩ := hE2.cells hbel he
      have hmem : e ∈ b := List.mem_of_getElem? he
      obtain ⟨b1, b2, b3, b4, b5⟩ := HB0.out e hmem
      obtain ⟨t1, t2, t3, t4⟩ := tk_len q a e.f
      have HS : Hid ((p ++ (tk q a e.f).1 ++ e.s.data.toList) ++ wv (tk q a e.f).2 (b.drop (k + 1)) e.t hi = wv put b lo hi) := wv_step he HW.out
      have HP2 : Hid (∀ x ∈ (tk q a e.f).2, Pt x) := fun x hx => HPQ.out x (t4 x hx)
      have hbw : bb < w.heap.size := hE2.1
      clear he hmem hE2 t4
      go_wp2_with fail
      refine (takeUp_any w.heap.size u9 p aq cq q a e.f _ (by simp; omega) (HO.out.alloc _) (HE.out.below ((Below.refl _ wr).alloc hsz _)) hq1 hq2 HPQ.out ha0 ha1 b1 b2 (by omega)).mono ?_
      rintro ed w1 ⟨v1, a3, c3, rfl, g1, g2, g3, g4, g5⟩
      have hbx1 : Box w1 wr.heap.size e.f e.t e.s := g4 _ _ _ _ (Box.new wr e.f e.t e.s)
      have d2 := hbx1.c2
      have hbel1 : Below w.heap.size w w1 := (HB.out.alloc hsz _).trans g3
      have hsz1 := hbel1.size
      have hne1 : Hid (v1.ownBlock ≠ some wr.heap.size) := own_ne_box g2 hbx1 (by decide)
      have hlt3 : Hid (∀ k, v1.ownBlock = some k → w.heap.size ≤ k ∧ k < w1.heap.size) := g2.lt
      have HO1 : Hid (w1.ownsRow w.heap.size 5 1 v1 (p ++ (tk q a e.f).1).length (bc (p ++ (tk q a e.f).1))) := g2
      have HBX1 : Hid (Box w1 wr.heap.size e.f e.t e.s) := hbx1
      have HB1 : Hid (Below w.heap.size w w1) := hbel1
      have HE1 : Hid (EdsL w.heap.size w1 a3 (tk q a e.f).2) := g5
      have hlen1 : (p ++ (tk q a e.f).1).length ≤ k * 2097152 + 1048576 := by rw [List.length_append]; omega
      clear c0 c1' c2' g2 g3 g4 g5 hbx1 hbel1
      go_wp2_with (at_builtin; (refine Lib.wpList_append_own_string _ rfl (.tmp 29) (.tmp 31) 59 9 rfl w.heap.size 5 i0 Tryd.underlying59 Tryd.underlying9 hi0 hz0 hz1 hz2 _ _ _ rfl HO1.out e.s rfl ?_ ?_ ?_ ?_))
      case refine_1 => unfold maxLen; omega
      case refine_2 => omega
      case refine_3 => omega
      intro v5 w5 hown5 hgrow5 _
      rw [bc_str, ← bc_append] at hown5
      have hn5 := own_bytes hown5
      rw [hn5] at hown5
      have hbx5 : Box w5 wr.heap.size e.f e.t e.s := HBX1.out.grown hgrow5 hne1.out
      have hbel5 : Below w.heap.size w w5 := HB1.out.grown hgrow5 hsz1 (fun k h => (hlt3.out k h).1)
      have d1 := hbx5.c1
      have HO5 : Hid (w5.ownsRow w.heap.size 5 1 v5 (p ++ (tk q a e.f).1 ++ e.s.data.toList).length (bc (p ++ (tk q a e.f).1 ++ e.s.data.toList))) := hown5
      have HB5 : Hid (Below w.heap.size w w5) := hbel5
      have HE5 : Hid (EdsL w.heap.size w5 a3 (tk q a e.f).2) := HE1.out.below ((Below.refl _ w1).grown hgrow5 hsz1 (fun k h => (hlt3.out k h).1))
      have hlen5 : (p ++ (tk q a e.f).1 ++ e.s.data.toList).length ≤ (k + 1) * 2097152 := by rw [List.length_append, bytes_len]; omega
      clear hown5 hgrow5 hbx5 hbel5 hn5
      go_wp2
      go_roundg (b.length - (k + 1))
      case measure => omega
      case rel => exact ⟨k + 1, (tk q a e.f).2, _, a3, c3, e.t, rfl, by omega, by go_num, rfl, b3, b4, rfl, by omega, g1, by omega, HE5.out, HP2.out, HB5.out, HO5.out, hlen5, HS.out⟩
    · obtain ⟨t1, t2, t3, t4⟩ := tk_len q a hi
      have HS : Hid (p ++ (tk q a hi).1 = wv put b lo hi) := wv_end hlt HW.out
      clear t4
      go_wp2_with fail
      refine (takeUp_any w.heap.size u9 p aq cq q a hi _ hsz HO.out HE.out hq1 hq2 HPQ.out ha0 ha1 hhi0 hhi1 (by omega)).mono ?_
      rintro ed w1 ⟨v1, a3, c3, rfl, g1, g2, g3, g4, g5⟩
      rw [HS.out] at g2
      have hconv : (convert 59 9 v1).run Tryd.prog w1 = .ok (.string ⟨(wv put b lo hi).toArray⟩) w1 := own_string_any g2
      clear g2 g4 g5
      go_wp2
      go_ret
      exact ⟨rfl, HB.out.trans g3⟩
end Go.Proofs.YteolfolkolpehaaDoor
