import Derived.Test.YteolfolkolpehaaDoorAp
import Derived.Test.YteolfolkolpehaaDoorCm2
namespace Go.Proofs.YteolfolkolpehaaDoor
open Go.ChangeShapes Go.WideShapes Go.ChangeAt Go.RowKit
set_option linter.unusedVariables false

set_option maxHeartbeats 4000000 in
theorem trimmed_any (tx : ByteArray) (f t : Nat) (s : ByteArray) (w : World) (hft : f ≤ t) (ht : t ≤ tx.size) (hx : tx.size ≤ 140737488351232) (hs : s.size ≤ maxLen) :
    Calls Tryd.prog 49 #[.string tx, .agg #[.int .i64 f, .int .i64 t, .string s]] w fun e w' => e = .returned (.agg #[.int .i64 (trimE tx ⟨f, t, s⟩).f, .int .i64 (trimE tx ⟨f, t, s⟩).t, .string (trimE tx ⟨f, t, s⟩).s]) ∧ Below w.heap.size w w' := by
  unfold maxLen at hs
  go_enter Tryd.func49, Tryd.ntmps49
  go_wp2
  go_loopg [] (t - f) (fun gk wr => ∃ (n : Nat) (s1 : ByteArray), gk = t - n ∧ f ≤ n ∧ n ≤ t ∧ s1.size ≤ s.size ∧ Below w.heap.size w wr ∧ w.heap.size + 1 < wr.heap.size ∧ Box wr w.heap.size n t s1 ∧ Box wr (w.heap.size + 1) 0 0 ⟨#[]⟩ ∧ trimL tx.data.toList t f s.data.toList = trimL tx.data.toList t n s1.data.toList)
  case atStart => exact ⟨f, s, rfl, Nat.le_refl _, hft, Nat.le_refl _, by go_grown, by simp, (Box.new w f t s).alloc _, by simpa using Box.new (w.alloc (.cells #[.int .i64 f, .int .i64 t, .string s] 45)) 0 0 ⟨#[]⟩, rfl⟩
  case round =>
    obtain ⟨n, s1, rfl, h1, h2, h3, hbel, hsz, hbox, hres, hc⟩ := hrel
    have HB : Hid (Box wr w.heap.size n t s1) := hbox
    have HR : Hid (Box wr (w.heap.size + 1) 0 0 ⟨#[]⟩) := hres
    have HC : Hid (trimL tx.data.toList t f s.data.toList = trimL tx.data.toList t n s1.data.toList) := hc
    have c0 := hbox.c0
    have c1 := hbox.c1
    have c2 := hbox.c2
    have f0 := hbox.free 0
    have f1 := hbox.free 1
    have f2 := hbox.free 2
    clear hbox hres hc
    by_cases hgo : ∃ (h1 : n < t) (h2 : 0 < s1.size), (tx[n]'(by omega)) = s1[0]
    · obtain ⟨hlt, hs1, hq⟩ := hgo
      have HS : Hid (trimL tx.data.toList t f s.data.toList = trimL tx.data.toList t (n + 1) (s1.extract 1 s1.size).data.toList) := HC.out.trans (trimL_step hlt ht hs1 hq)
      have he' := isEmpty_no hs1
      have hlt' : (n : Int) < (t : Int) := by omega
      have hn : (n : Int) < (tx.size : Int) := by omega
      go_wp2
      go_quiet (fail)
      go_wp2
      go_roundg (t - (n + 1))
      case measure => omega
      case rel => exact ⟨n + 1, s1.extract 1 s1.size, rfl, by omega, by omega, by simp; omega, by have := below_drewN hbel nq; go_grown, by simp; omega, ((HB.out.drewN nq).set0 (n + 1)).set2 _, (heap_setCell_other _ _ _ _ (by simp)).trans ((heap_setCell_other _ _ _ _ (by simp)).trans (HR.out.drewN nq)), HS.out⟩
    · have hstop : ¬ n < t ∨ s1.size = 0 ∨ ∃ (h1 : n < t) (h2 : 0 < s1.size), (tx[n]'(by omega)) ≠ s1[0] := by
        by_cases g1 : n < t
        · by_cases g2 : s1.size = 0
          · exact .inr (.inl g2)
          · exact .inr (.inr ⟨g1, by omega, fun h => hgo ⟨g1, by omega, h⟩⟩)
        · exact .inl g1
      have HT : Hid (trimL tx.data.toList t f s.data.toList = (n, s1.data.toList)) := HC.out.trans (trimL_stop ht hstop)
      clear HC hgo
      have hcase : (decide (n < t) = false) ∨ (n < t ∧ s1.toList.isEmpty = true) ∨ (n < t ∧ s1.toList.isEmpty = false ∧ ∃ (g1 : n < tx.size) (g2 : 0 < s1.size), ((tx[n].toNat : Int) == (s1[0].toNat : Int)) = false) := by
        rcases hstop with g | g | ⟨g1, g2, g3⟩
        · exact .inl (by simpa using g)
        · by_cases g1 : n < t
          · exact .inr (.inl ⟨g1, isEmpty_yes g⟩)
          · exact .inl (by simpa using g1)
        · exact .inr (.inr ⟨g1, isEmpty_no g2, by omega, g2, byte_ne g3⟩)
      clear hstop
      rcases hcase with g1 | ⟨g1, g2⟩ | ⟨g1, g2, g3, g4, g5⟩
      all_goals
        go_wp2
        go_quiet (fail)
        go_wp2
        clear c0 c1 c2 f0 f1 f2
        go_loopg [] (t - n) (fun gk wr2 => ∃ (m : Nat) (s2 : ByteArray), gk = m - n ∧ n ≤ m ∧ m ≤ t ∧ s2.size ≤ s.size ∧ Below w.heap.size w wr2 ∧ w.heap.size + 1 < wr2.heap.size ∧ Box wr2 w.heap.size n m s2 ∧ Box wr2 (w.heap.size + 1) 0 0 ⟨#[]⟩ ∧ trimR tx.data.toList n t s1.data.toList.reverse = trimR tx.data.toList n m s2.data.toList.reverse)
        case atStart => exact ⟨t, s1, rfl, h2, Nat.le_refl _, h3, below_drewN hbel _, hsz, HB.out.drewN _, HR.out.drewN _, rfl⟩
        case round =>
          clear HB HR hbel hsz
          obtain ⟨m, s2, rfl, k1, k2, k3, hbel, hsz, hbox, hres, hc⟩ := hrel
          have HB : Hid (Box wr w.heap.size n m s2) := hbox
          have HR : Hid (Box wr (w.heap.size + 1) 0 0 ⟨#[]⟩) := hres
          have HC : Hid (trimR tx.data.toList n t s1.data.toList.reverse = trimR tx.data.toList n m s2.data.toList.reverse) := hc
          have c0 := hbox.c0
          have c1 := hbox.c1
          have c2 := hbox.c2
          have f0 := hbox.free 0
          have f1 := hbox.free 1
          have f2 := hbox.free 2
          have r0 := hres.free 0
          have r1 := hres.free 1
          have r2 := hres.free 2
          have d0 := hres.c0
          have d1 := hres.c1
          have d2 := hres.c2
          clear hbox hres hc
          by_cases hgo : ∃ (h1 : n < m) (h2 : 0 < s2.size), (tx[m - 1]'(by omega)) = s2[s2.size - 1]'(by omega)
          · obtain ⟨hlt, hs2, hq⟩ := hgo
            have HS : Hid (trimR tx.data.toList n t s1.data.toList.reverse = trimR tx.data.toList n (m - 1) (s2.extract 0 (s2.size - 1)).data.toList.reverse) := HC.out.trans (trimR_step hlt (by omega) hs2 hq)
            have he' := isEmpty_no hs2
            have hlt' : (n : Int) < (m : Int) := by omega
            have e1 : IntKind.i64.wrap ((m : Int) - 1) = ((m - 1 : Nat) : Int) := by rw [IntWalk.i64_in _ ⟨by omega, by omega⟩]; omega
            have e2 : IntKind.i64.wrap ((s2.size : Int) - 1) = ((s2.size - 1 : Nat) : Int) := by rw [IntWalk.i64_in _ ⟨by omega, by omega⟩]; omega
            have n1 : m - 1 < tx.size := by omega
            have n2 : s2.size - 1 < s2.size := by omega
            go_wp2
            go_quiet (fail)
            go_wp2
            go_roundg (m - 1 - n)
            case measure => omega
            case rel => exact ⟨m - 1, s2.extract 0 (s2.size - 1), rfl, by omega, by omega, by simp; omega, by have := below_drewN hbel nq; go_grown, by simp; omega, ((HB.out.drewN nq).set1 _).set2 _, (heap_setCell_other _ _ _ _ (by simp)).trans ((heap_setCell_other _ _ _ _ (by simp)).trans (HR.out.drewN nq)), HS.out⟩
          · have hstop : ¬ n < m ∨ s2.size = 0 ∨ ∃ (h1 : n < m) (h2 : 0 < s2.size), (tx[m - 1]'(by omega)) ≠ s2[s2.size - 1]'(by omega) := by
              by_cases j1 : n < m
              · by_cases j2 : s2.size = 0
                · exact .inr (.inl j2)
                · exact .inr (.inr ⟨j1, by omega, fun h => hgo ⟨j1, by omega, h⟩⟩)
              · exact .inl j1
            have HE : Hid (trimE tx ⟨f, t, s⟩ = ⟨n, m, s2⟩) := trimE_of HT.out (HC.out.trans (trimR_stop (by omega) hstop))
            clear HC hgo
            have hcase : (decide (n < m) = false) ∨ (n < m ∧ s2.toList.isEmpty = true) ∨ (n < m ∧ s2.toList.isEmpty = false ∧ ∃ (j1 : m - 1 < tx.size) (j2 : s2.size - 1 < s2.size), ((tx[m - 1].toNat : Int) == (s2[s2.size - 1].toNat : Int)) = false) := by
              rcases hstop with g | g | ⟨g1, g2, g3⟩
              · exact .inl (by simpa using g)
              · by_cases g1 : n < m
                · exact .inr (.inl ⟨g1, isEmpty_yes g⟩)
                · exact .inl (by simpa using g1)
              · exact .inr (.inr ⟨g1, isEmpty_no g2, by omega, by omega, byte_ne g3⟩)
            have e1 : 0 < m → IntKind.i64.wrap ((m : Int) - 1) = ((m - 1 : Nat) : Int) := fun hm => by rw [IntWalk.i64_in _ ⟨by omega, by omega⟩]; omega
            have e2 : 0 < s2.size → IntKind.i64.wrap ((s2.size : Int) - 1) = ((s2.size - 1 : Nat) : Int) := fun hm => by rw [IntWalk.i64_in _ ⟨by omega, by omega⟩]; omega
            clear hstop
            rcases hcase with j1 | ⟨j1, j2⟩ | ⟨j1, j2, j3, j4, j5⟩
            · clear e1 e2
              go_wp2
              go_quiet (fail)
              go_wp2
              refine bodyPost_ret (v := .agg #[.int .i64 n, .int .i64 m, .string s2]) (by simp [results, Tryd.results49, go_sem, d0, d1, d2]) rfl ⟨by rw [HE.out], ?_⟩
              have := below_drewN hbel nq; go_grown
            · clear e1 e2
              go_wp2
              go_quiet (fail)
              go_wp2
              refine bodyPost_ret (v := .agg #[.int .i64 n, .int .i64 m, .string s2]) (by simp [results, Tryd.results49, go_sem, d0, d1, d2]) rfl ⟨by rw [HE.out], ?_⟩
              have := below_drewN hbel nq; go_grown
            · have e3 := e1 (by omega)
              have e4 := e2 (by omega)
              clear e1 e2
              go_wp2
              go_quiet (fail)
              go_wp2
              refine bodyPost_ret (v := .agg #[.int .i64 n, .int .i64 m, .string s2]) (by simp [results, Tryd.results49, go_sem, d0, d1, d2]) rfl ⟨by rw [HE.out], ?_⟩
              have := below_drewN hbel nq; go_grown
end Go.Proofs.YteolfolkolpehaaDoor

namespace Go.Proofs.YteolfolkolpehaaDoor
open Go.ChangeShapes Go.WideShapes Go.ChangeAt Go.RowKit
set_option linter.unusedVariables false

def wv : List Ed → List Ed → Int → Int → List UInt8
  | put, [], a, hi => (tk put a hi).1
  | put, e :: r, a, hi => (tk put a e.f).1 ++ e.s.data.toList ++ wv (tk put a e.f).2 r e.t hi

theorem pc_len (e : Ed) (fr to : Int) : (pc e fr to).length ≤ e.s.size := by
  unfold pc
  split
  · rw [bytes_len, ByteArray.size_extract]; omega
  · simp

theorem tk_len (put : List Ed) (fr to : Int) : (tk put fr to).1.length + 0 ≤ tots put ∧ tots (tk put fr to).2 ≤ tots put ∧ (tk put fr to).2.length ≤ put.length ∧ ∀ e ∈ (tk put fr to).2, e ∈ put := by
  induction put with
  | nil => simp [tk, tots]
  | cons p r ih =>
    have hp := pc_len p fr to
    obtain ⟨i1, i2, i3, i4⟩ := ih
    by_cases h : to < p.t
    · rw [tk_break r h]
      refine ⟨?_, Nat.le_refl _, Nat.le_refl _, fun e he => he⟩
      simp only [tots]; omega
    · rw [tk_next r h]
      refine ⟨?_, ?_, ?_, fun e he => List.mem_cons_of_mem _ (i4 e he)⟩
      · simp only [List.length_append, tots]; omega
      · simp only [tots]; omega
      · simp only [List.length_cons]; omega

theorem wv_step {put0 put b0 : List Ed} {lo a hi : Int} {k : Nat} {e : Ed} {p : List UInt8} (he : b0[k]? = some e) (hp : p ++ wv put (b0.drop k) a hi = wv put0 b0 lo hi) :
    (p ++ (tk put a e.f).1 ++ e.s.data.toList) ++ wv (tk put a e.f).2 (b0.drop (k + 1)) e.t hi = wv put0 b0 lo hi := by
  rw [← hp, drop_get he, wv]
  simp [List.append_assoc]

theorem wv_end {put0 put b0 : List Ed} {lo a hi : Int} {k : Nat} {p : List UInt8} (hk : ¬ k < b0.length) (hp : p ++ wv put (b0.drop k) a hi = wv put0 b0 lo hi) :
    p ++ (tk put a hi).1 = wv put0 b0 lo hi := by
  rw [← hp, List.drop_eq_nil_of_le (by omega), wv]

/-- an edit of the second list, as weave takes it -/
def Bt (e : Ed) : Prop := 0 ≤ e.f ∧ e.f ≤ 9223372036854775807 ∧ 0 ≤ e.t ∧ e.t ≤ 9223372036854775807 ∧ e.s.size ≤ 1048576

set_option maxRecDepth 1000000 in
set_option maxHeartbeats 2000000 in
theorem weave_any (a1 a2 : Option Addr) (c1 c2 : Nat) (put b : List Ed) (lo hi : Int) (w : World) (h1 : EdsL w.heap.size w a1 put) (h2 : EdsA w a2 b) (hl1 : put.length ≤ 65536) (hc1 : put.length ≤ c1) (hl2 : b.length ≤ 65536) (hp : ∀ e ∈ put, Pt e) (hb : ∀ e ∈ b, Bt e) (hlo : 0 ≤ lo ∧ lo ≤ 9223372036854775807) (hhi : 0 ≤ hi ∧ hi ≤ 9223372036854775807) (ht : tots put ≤ 1048576) :
    Calls Tryd.prog 67 #[.slice a1 put.length c1, .slice a2 b.length c2, .int .i64 lo, .int .i64 hi] w fun e w' => e = .returned (.string ⟨(wv put b lo hi).toArray⟩) ∧ Below w.heap.size w w' := by
  obtain ⟨i0, hi0, hz0, hz1, hz2⟩ := info_parts infoU8
  have H1 : Hid (EdsL w.heap.size w a1 put) := h1
  have H2 : Hid (EdsA w a2 b) := h2
  have HP0 : Hid (∀ e ∈ put, Pt e) := hp
  have HB0 : Hid (∀ e ∈ b, Bt e) := hb
  obtain ⟨hlo0, hlo1⟩ := hlo
  obtain ⟨hhi0, hhi1⟩ := hhi
  clear h1 h2 hp hb
  go_enter Tryd.func67, Tryd.ntmps67
  go_wp2
  go_loopg [0, 9, 10, 16] b.length (fun gk sp sv sa si wr => ∃ (k : Nat) (q : List Ed) (p : List UInt8) (aq : Option Addr) (cq : Nat) (a : Int), gk = b.length - k ∧ k ≤ b.length ∧ si = .int .i64 k ∧ sa = .int .i64 a ∧ 0 ≤ a ∧ a ≤ 9223372036854775807 ∧ sp = .slice aq q.length cq ∧ q.length ≤ 65536 ∧ q.length ≤ cq ∧ tots q ≤ 1048576 ∧ EdsL w.heap.size wr aq q ∧ (∀ e ∈ q, Pt e) ∧ Below w.heap.size w wr ∧ wr.ownsRow w.heap.size 5 1 sv p.length (bc p) ∧ p.length ≤ k * 2097152 ∧ p ++ wv q (b.drop k) a hi = wv put b lo hi)
  case atStart => exact ⟨0, put, [], a1, c1, lo, by omega, Nat.zero_le _, rfl, rfl, hlo0, hlo1, rfl, hl1, hc1, ht, H1.out, HP0.out, Below.refl _ _, World.ownsRow_nil _ _ _ _, by simp, by simp⟩
  case round =>
    obtain ⟨k, q, p, aq, cq, a, rfl, hk, rfl, rfl, ha0, ha1, rfl, hq1, hq2, hq3, hE, hpq, hbel, hown, hpl, hwv⟩ := hrel
    have hsz := hbel.size
    have hlt1 : Hid (∀ k, u9.ownBlock = some k → w.heap.size ≤ k ∧ k < wr.heap.size) := hown.lt
    have HO : Hid (wr.ownsRow w.heap.size 5 1 u9 p.length (bc p)) := hown
    have HE : Hid (EdsL w.heap.size wr aq q) := hE
    have HPQ : Hid (∀ e ∈ q, Pt e) := hpq
    have HW : Hid (p ++ wv q (b.drop k) a hi = wv put b lo hi) := hwv
    have HB : Hid (Below w.heap.size w wr) := hbel
    clear hown hE hpq hwv
    by_cases hlt : k < b.length
    · obtain ⟨e, he⟩ : ∃ e, b[k]? = some e := ⟨_, List.getElem?_eq_getElem hlt⟩
      rcases H2.out with h0 | ⟨bb, bo, rfl, hE2⟩
      · rw [h0] at hlt; simp at hlt
      obtain ⟨c0, c1', c2'⟩ := hE2.cells hbel he
      have hmem : e ∈ b := List.mem_of_getElem? he
      obtain ⟨b1, b2, b3, b4, b5⟩ := HB0.out e hmem
      obtain ⟨t1, t2, t3, t4⟩ := tk_len q a e.f
      have HS : Hid ((p ++ (tk q a e.f).1 ++ e.s.data.toList) ++ wv (tk q a e.f).2 (b.drop (k + 1)) e.t hi = wv put b lo hi) := wv_step he HW.out
      have HP2 : Hid (∀ x ∈ (tk q a e.f).2, Pt x) := fun x hx => HPQ.out x (t4 x hx)
      have hbw : bb < w.heap.size := hE2.1
      clear he hmem hE2 t4
      go_wp2_with fail
      refine (takeUp_any w.heap.size u9 p aq cq q a e.f _ (by simp; omega) (HO.out.alloc _) (HE.out.below ((Below.refl _ wr).alloc hsz _)) hq1 hq2 HPQ.out ha0 ha1 b1 b2 (by omega)).mono ?_
      rintro ed w1 ⟨v1, a3, c3, rfl, g1, g2, g3, g4, g5⟩
      have hbx1 : Box w1 wr.heap.size e.f e.t e.s := g4 _ _ _ _ (Box.new wr e.f e.t e.s)
      have d2 := hbx1.c2
      have hbel1 : Below w.heap.size w w1 := (HB.out.alloc hsz _).trans g3
      have hsz1 := hbel1.size
      have hne1 : Hid (v1.ownBlock ≠ some wr.heap.size) := own_ne_box g2 hbx1 (by decide)
      have hlt3 : Hid (∀ k, v1.ownBlock = some k → w.heap.size ≤ k ∧ k < w1.heap.size) := g2.lt
      have HO1 : Hid (w1.ownsRow w.heap.size 5 1 v1 (p ++ (tk q a e.f).1).length (bc (p ++ (tk q a e.f).1))) := g2
      have HBX1 : Hid (Box w1 wr.heap.size e.f e.t e.s) := hbx1
      have HB1 : Hid (Below w.heap.size w w1) := hbel1
      have HE1 : Hid (EdsL w.heap.size w1 a3 (tk q a e.f).2) := g5
      have hlen1 : (p ++ (tk q a e.f).1).length ≤ k * 2097152 + 1048576 := by rw [List.length_append]; omega
      clear c0 c1' c2' g2 g3 g4 g5 hbx1 hbel1
      go_wp2_with (at_builtin; (refine Lib.wpList_append_own_string _ rfl (.tmp 29) (.tmp 31) 59 9 rfl w.heap.size 5 i0 Tryd.underlying59 Tryd.underlying9 hi0 hz0 hz1 hz2 _ _ _ rfl HO1.out e.s rfl ?_ ?_ ?_ ?_))
      case refine_1 => unfold maxLen; omega
      case refine_2 => omega
      case refine_3 => omega
      intro v5 w5 hown5 hgrow5 _
      rw [bc_str, ← bc_append] at hown5
      have hn5 := own_bytes hown5
      rw [hn5] at hown5
      have hbx5 : Box w5 wr.heap.size e.f e.t e.s := HBX1.out.grown hgrow5 hne1.out
      have hbel5 : Below w.heap.size w w5 := HB1.out.grown hgrow5 hsz1 (fun k h => (hlt3.out k h).1)
      have d1 := hbx5.c1
      have HO5 : Hid (w5.ownsRow w.heap.size 5 1 v5 (p ++ (tk q a e.f).1 ++ e.s.data.toList).length (bc (p ++ (tk q a e.f).1 ++ e.s.data.toList))) := hown5
      have HB5 : Hid (Below w.heap.size w w5) := hbel5
      have HE5 : Hid (EdsL w.heap.size w5 a3 (tk q a e.f).2) := HE1.out.below ((Below.refl _ w1).grown hgrow5 hsz1 (fun k h => (hlt3.out k h).1))
      have hlen5 : (p ++ (tk q a e.f).1 ++ e.s.data.toList).length ≤ (k + 1) * 2097152 := by rw [List.length_append, bytes_len]; omega
      clear hown5 hgrow5 hbx5 hbel5 hn5
      go_wp2
      go_roundg (b.length - (k + 1))
      case measure => omega
      case rel => exact ⟨k + 1, (tk q a e.f).2, _, a3, c3, e.t, rfl, by omega, by go_num, rfl, b3, b4, rfl, by omega, g1, by omega, HE5.out, HP2.out, HB5.out, HO5.out, hlen5, HS.out⟩
    · obtain ⟨t1, t2, t3, t4⟩ := tk_len q a hi
      have HS : Hid (p ++ (tk q a hi).1 = wv put b lo hi) := wv_end hlt HW.out
      clear t4
      go_wp2_with fail
      refine (takeUp_any w.heap.size u9 p aq cq q a hi _ hsz HO.out HE.out hq1 hq2 HPQ.out ha0 ha1 hhi0 hhi1 (by omega)).mono ?_
      rintro ed w1 ⟨v1, a3, c3, rfl, g1, g2, g3, g4, g5⟩
      rw [HS.out] at g2
      have hconv : (convert 59 9 v1).run Tryd.prog w1 = .ok (.string ⟨(wv put b lo hi).toArray⟩) w1 := own_string_any g2
      clear g2 g4 g5
      go_wp2
      go_ret
      exact ⟨rfl, HB.out.trans g3⟩
end Go.Proofs.YteolfolkolpehaaDoor
