import Derived.Test.YtcanabbjliloeaaDoorInfT
import Derived.Test.YtcanabbjliloeaaDoorSmT
import Derived.Test.YtcanabbjliloeaaDoorSmN
namespace Go.Proofs.YtcanabbjliloeaaDoor
open Go.ChangeShapes Go.WideShapes Go.ChangeAt Go.RowKit
set_option linter.unusedVariables false


def tmarks : List Tk := [⟨0, -5, -6⟩, ⟨77, 0, 0⟩]
def nmarks : List Nd := [⟨99, -3, 0, -4⟩, ⟨0, 0, 12345, 0⟩]

/-- a forest -/
def frst (s : ByteArray) (a1 : Option Addr) (n1 c1 : Nat) (a2 : Option Addr) (n2 c2 : Nat) : Value := .agg #[.string s, .slice a1 n1 c1, .slice a2 n2 c2]

set_option maxRecDepth 1000000 in
set_option maxHeartbeats 1000000 in
theorem lent_any (s : ByteArray) (a1 a2 : Option Addr) (c1 c2 : Nat) (ts : List Tk) (ns : List Nd) (w : World) (h1 : LiesA w a1 ts) (h2 : LiesA w a2 ns) (hn1 : a1 = none → ts.length = 0 ∧ c1 = 0) (hn2 : a2 = none → ns.length = 0 ∧ c2 = 0)
    (hl1 : ts.length * 24 ≤ 140737488351232) (hl2 : ns.length * 32 ≤ 140737488351232) :
    Calls Tryd.prog 4 #[.agg #[.string s, .slice a1 ts.length c1, .slice a2 ns.length c2]] w fun e w' => ∃ g1 g2, e = .returned (.agg #[.string s, .slice (some ⟨g1, 0, none⟩) ts.length (ts.length + 2), .slice (some ⟨g2, 0, none⟩) ns.length (ns.length + 2)]) ∧ Below w.heap.size w w' ∧
      w.heap.size ≤ g1 ∧ w.heap.size ≤ g2 ∧ g1 ≠ g2 ∧
      w'.ownsRow w.heap.size 34 3 (.slice (some ⟨g1, 0, none⟩) (ts.length + 2) (ts.length + 2)) (ts.length + 2) (flat (ts ++ tmarks)) ∧
      w'.ownsRow w.heap.size 37 4 (.slice (some ⟨g2, 0, none⟩) (ns.length + 2) (ns.length + 2)) (ns.length + 2) (flat (ns ++ nmarks)) := by
  obtain ⟨i0, hi, hz0, hz1, hz2⟩ := info_parts infoTk
  obtain ⟨i1, hj, hy0, hy1, hy2⟩ := info_parts infoNd
  have H1 : Hid (LiesA w a1 ts) := h1
  have H2 : Hid (LiesA w a2 ns) := h2
  have HN1 : Hid (a1 = none → ts.length = 0 ∧ c1 = 0) := hn1
  have HN2 : Hid (a2 = none → ns.length = 0 ∧ c2 = 0) := hn2
  clear h1 h2 hn1 hn2
  go_enter Tryd.func4, Tryd.ntmps4
  go_wp2_with (at_make; refine wpList_make_own _ rfl _ _ 22 rfl (w.heap.size + 2) 34 i0 (.agg #[.int .u8 0, .int .i64 0, .int .i64 0]) 3 Tryd.underlying22 hi hz0 hz1 _ _ _ (ts.length + 2) rfl rfl (by omega) ?b2 ?b3 ?b4 ?_)
  case b2 => rw [hz2]; omega
  case b3 => unfold maxLen; omega
  case b4 => simp
  intro w0 hown0 hgrow0
  have hw : Below w.heap.size w ((w.alloc (.cells #[.string s, .slice a1 ts.length c1, .slice a2 ns.length c2] 27)).alloc (.cells #[.string ⟨#[]⟩, .slice none 0 0, .slice none 0 0] 27)) := by go_grown
  have hs2 : ((w.alloc (.cells #[.string s, .slice a1 ts.length c1, .slice a2 ns.length c2] 27)).alloc (.cells #[.string ⟨#[]⟩, .slice none 0 0, .slice none 0 0] 27)).heap.size = w.heap.size + 2 := by simp
  have B0 : Bx ((w.alloc (.cells #[.string s, .slice a1 ts.length c1, .slice a2 ns.length c2] 27)).alloc (.cells #[.string ⟨#[]⟩, .slice none 0 0, .slice none 0 0] 27)) w.heap.size #[.string s, .slice a1 ts.length c1, .slice a2 ns.length c2] 27 := (Bx.new w _ _).alloc _
  have C0 : Bx ((w.alloc (.cells #[.string s, .slice a1 ts.length c1, .slice a2 ns.length c2] 27)).alloc (.cells #[.string ⟨#[]⟩, .slice none 0 0, .slice none 0 0] 27)) (w.heap.size + 1) #[.string ⟨#[]⟩, .slice none 0 0, .slice none 0 0] 27 := by
    have := Bx.new (w.alloc (.cells #[.string s, .slice a1 ts.length c1, .slice a2 ns.length c2] 27)) #[.string ⟨#[]⟩, .slice none 0 0, .slice none 0 0] 27
    simpa using this
  generalize ((w.alloc (.cells #[.string s, .slice a1 ts.length c1, .slice a2 ns.length c2] 27)).alloc (.cells #[.string ⟨#[]⟩, .slice none 0 0, .slice none 0 0] 27)) = w2 at *
  have b0 : Below (w.heap.size + 2) w2 w0 := (Below.refl _ _).grown hgrow0 (by omega) (fun k h => by cases h)
  have HB0 : Hid (Below (w.heap.size + 2) w2 w0) := b0
  have B1 := B0.below b0 (by omega)
  have C1 := C0.below b0 (by omega)
  have HBX : Hid (Bx w2 w.heap.size #[.string s, .slice a1 ts.length c1, .slice a2 ns.length c2] 27) := B0
  have HCX : Hid (Bx w2 (w.heap.size + 1) #[.string ⟨#[]⟩, .slice none 0 0, .slice none 0 0] 27) := C0
  have HW : Hid (Below w.heap.size w w2) := hw
  have HS2 : Hid (w2.heap.size = w.heap.size + 2) := hs2
  have x1 := B1.t1
  clear hgrow0 B0 C0 B1 C1 hw hs2 b0
  go_wp2_with (at_builtin; (refine wpList_append_fits_any _ rfl (.tmp 10) (.tmp 12) 22 rfl (w.heap.size + 2) 34 i0 3 Tryd.underlying22 hi hz1 (w.heap.size + 1 + 1) 0 (ts.length + 2) _ rfl hown0 _ ts.length _ (flat ts) rfl (flat_length ts) HN1.out ?c1 (flat_oneCell ts) (by omega) ?_))
  case c1 =>
    intro ad had
    rcases H1.out with h | ⟨b, o, hab, h⟩
    · intro j u hj; rw [h] at hj; simp [flat] at hj
    · rw [hab] at had; cases had
      have hb := (HW.out.trans (HB0.out.mono (by omega)))
      exact (h.below hb h.1).flat
  intro w1 hown1 hgrow1
  have b1 : Below (w.heap.size + 2) w2 w1 := HB0.out.grown hgrow1 (by have := HB0.out.size; have := HS2.out; omega) (fun k h => by cases h; omega)
  have HB1 : Hid (Below (w.heap.size + 2) w2 w1) := b1
  clear hown0 hgrow1 HB0 x1
  have hs1 : w.heap.size + 2 ≤ w1.heap.size := by have := b1.size; have := HS2.out; omega
  go_wp2_with (at_builtin; refine wpList_append_fits_any _ rfl (.tmp 14) (.tmp 17) 22 rfl (w.heap.size + 2) 34 i0 3 Tryd.underlying22 hi hz1 (w.heap.size + 1 + 1) ts.length (ts.length + 2) _ rfl (hown1.alloc _) _ 2 _ (flat tmarks) rfl rfl ?d0 ?d1 (flat_oneCell tmarks) (by omega) ?_)
  case d0 => intro h; cases h
  case d1 => intro ad had; cases had; exact cells_new w1 (flat tmarks) 34
  intro w3 hown3 hgrow3
  have b3 : Below (w.heap.size + 2) w2 w3 := (HB1.out.alloc (by omega) _).grown hgrow3 (by simp; omega) (fun k h => by cases h; omega)
  have HB3 : Hid (Below (w.heap.size + 2) w2 w3) := b3
  rw [← flat_append] at hown3
  clear hown1 hgrow3 HB1
  have x2 := (HBX.out.below b3 (by omega)).t2
  have hs3 : w.heap.size + 2 ≤ w3.heap.size := by have := b3.size; have := HS2.out; omega
  have HO : Hid (w3.ownsRow (w.heap.size + 2) 34 3 (.slice (some ⟨w.heap.size + 1 + 1, 0, none⟩) (ts.length + 2) (ts.length + 2)) (ts.length + 2) (flat (ts ++ tmarks))) := hown3
  have hg1 : w.heap.size + 1 + 1 < w3.heap.size := (hown3.lt _ rfl).2
  clear b1 hs1 b3 hown3
  go_wp2_with (at_make; refine wpList_make_own _ rfl _ _ 23 rfl (w.heap.size + 2) 37 i1 (.agg #[.int .u8 0, .int .i64 0, .int .i64 0, .int .i64 0]) 4 Tryd.underlying23 hj hy0 hy1 _ _ _ (ns.length + 2) rfl rfl (by omega) ?b2 ?b3 ?b4 ?_)
  case b2 => rw [hy2]; omega
  case b3 => unfold maxLen; omega
  case b4 => omega
  intro w4 hown4 hgrow4
  have d4 : Below w3.heap.size w3 w4 := (Below.refl _ _).grown hgrow4 (Nat.le_refl _) (fun k h => by cases h)
  have HD4 : Hid (Below w3.heap.size w3 w4) := d4
  have x2' := (HBX.out.below (HB3.out.trans (d4.mono hs3)) (by omega)).t2
  clear hgrow4 d4 x2
  go_wp2_with (at_builtin; (refine wpList_append_fits_any _ rfl (.tmp 25) (.tmp 28) 23 rfl (w.heap.size + 2) 37 i1 4 Tryd.underlying23 hj hy1 w3.heap.size 0 (ns.length + 2) _ rfl hown4 _ ns.length _ (flat ns) rfl (flat_length ns) HN2.out ?c1 (flat_oneCell ns) (by omega) ?_))
  case c1 =>
    intro ad had
    rcases H2.out with h | ⟨b, o, hab, h⟩
    · intro j u hj; rw [h] at hj; simp [flat] at hj
    · rw [hab] at had; cases had
      have hb := (HW.out.trans (HB3.out.mono (by omega))).trans (HD4.out.mono (by omega))
      exact (h.below hb h.1).flat
  intro w5 hown5 hgrow5
  have d5 : Below w3.heap.size w3 w5 := HD4.out.grown hgrow5 HD4.out.size (fun k h => by cases h; omega)
  have HD5 : Hid (Below w3.heap.size w3 w5) := d5
  have hs5 : w3.heap.size ≤ w5.heap.size := d5.size
  clear hown4 hgrow5 HD4 x2' d5
  go_wp2_with (at_builtin; refine wpList_append_fits_any _ rfl (.tmp 30) (.tmp 33) 23 rfl (w.heap.size + 2) 37 i1 4 Tryd.underlying23 hj hy1 w3.heap.size ns.length (ns.length + 2) _ rfl (hown5.alloc _) _ 2 _ (flat nmarks) rfl rfl ?d0 ?d1 (flat_oneCell nmarks) (by omega) ?_)
  case d0 => intro h; cases h
  case d1 => intro ad had; cases had; exact cells_new w5 (flat nmarks) 37
  intro w6 hown6 hgrow6
  have d6 : Below w3.heap.size w3 w6 := (HD5.out.alloc hs5 _).grown hgrow6 (by simp; omega) (fun k h => by cases h; omega)
  rw [← flat_append] at hown6
  have HO1 : Hid (w6.ownsRow (w.heap.size + 2) 34 3 (.slice (some ⟨w.heap.size + 1 + 1, 0, none⟩) (ts.length + 2) (ts.length + 2)) (ts.length + 2) (flat (ts ++ tmarks))) := ownsRow_below HO.out d6 (Nat.le_refl _)
  have HO2 : Hid (w6.ownsRow (w.heap.size + 2) 37 4 (.slice (some ⟨w3.heap.size, 0, none⟩) (ns.length + 2) (ns.length + 2)) (ns.length + 2) (flat (ns ++ nmarks))) := hown6
  have hb6 : Below (w.heap.size + 2) w2 w6 := HB3.out.trans (d6.mono hs3)
  have HB6 : Hid (Below (w.heap.size + 2) w2 w6) := hb6
  have hs6 : w3.heap.size ≤ w6.heap.size := d6.size
  have x0 := (HBX.out.below hb6 (by omega)).t0
  have x1 := (HBX.out.below hb6 (by omega)).t1
  have x2 := (HBX.out.below hb6 (by omega)).t2
  have y0 := (HCX.out.below hb6 (by omega)).t0
  have y1 := (HCX.out.below hb6 (by omega)).t1
  have y2 := (HCX.out.below hb6 (by omega)).t2
  have z0 := (HCX.out.below hb6 (by omega)).free 0
  have z1 := (HCX.out.below hb6 (by omega)).free 1
  have z2 := (HCX.out.below hb6 (by omega)).free 2
  clear hown5 hgrow6 HD5 hown6 d6 hb6 HO hs5 HBX
  go_wp2
  go_region
  go_wp2
  refine bodyPost_ret (v := .agg #[.string s, .slice (some ⟨w.heap.size + 1 + 1, 0, none⟩) ts.length (ts.length + 2), .slice (some ⟨w3.heap.size, 0, none⟩) ns.length (ns.length + 2)]) (by simp [results, Tryd.results4, go_sem, y0, y1, y2]) rfl ⟨_, _, rfl, ?_, by omega, by omega, by omega, ?_, ?_⟩
  · have h0 := HW.out.trans (HB6.out.mono (by omega))
    go_grown
  · exact own_base (own_set3 HO1.out (fun h => by simp [Value.ownBlock] at h; try omega) _ _ _) (by omega)
  · exact own_base (own_set3 HO2.out (fun h => by simp [Value.ownBlock] at h; omega) _ _ _) (by omega)
end Go.Proofs.YtcanabbjliloeaaDoor
