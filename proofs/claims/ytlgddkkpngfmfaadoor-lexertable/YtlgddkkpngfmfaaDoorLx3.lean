import Derived.Test.YtlgddkkpngfmfaaDoorLx1
import Derived.Test.YtlgddkkpngfmfaaDoorLx2
namespace Go.Proofs.YtlgddkkpngfmfaaDoor
open Go.ChangeShapes Go.WideShapes Go.ChangeAt Go.RowKit
set_option linter.unusedVariables false
set_option linter.unusedSimpArgs false

theorem nil_string (w : World) : (convert 34 9 (.slice none 0 0)).run Tryd.prog w = .ok (.string ⟨#[]⟩) w := by kernel_rfl
theorem own_string {w : World} {base n cap g : Nat} {l : List UInt8} (h : w.ownsRow base 5 1 (.slice (some ⟨g, 0, none⟩) n cap) n (bc l)) :
    (convert 34 9 (.slice (some ⟨g, 0, none⟩) n cap)).run Tryd.prog w = .ok (.string ⟨l.toArray⟩) w := by
  have hn : n = l.length := by have := h.1; rw [bc_length] at this; omega
  subst hn
  exact run_convert_bytes_back (P := Tryd.prog) w 34 9 5 ⟨g, 0, none⟩ cap l Tryd.underlying34 Tryd.underlying5 Tryd.underlying9 (fun j hj => h.cells rfl j _ (by simp [bc, hj]))
theorem own_string_any {w : World} {base n : Nat} {v : Value} {l : List UInt8} (h : w.ownsRow base 5 1 v n (bc l)) : (convert 34 9 v).run Tryd.prog w = .ok (.string ⟨l.toArray⟩) w := by
  rcases h.2 with ⟨rfl, h2⟩ | ⟨g, cp, cur, rfl, _⟩
  · have hl : l = [] := List.eq_nil_of_length_eq_zero (by have := h.1; rw [bc_length] at this; omega)
    subst hl
    exact nil_string w
  · exact own_string h
theorem tabs_below {a b B : Nat} {w w' : World} (h : Lib.Utf8Tabs a b w) (hb : Below B w w') (ha : a < B) (hc : b < B) : Lib.Utf8Tabs a b w' :=
  ⟨fun c hc' => (World.cell?_of_block (a := ⟨a, c, none⟩) (hb.block a ha)).trans (h.1 c hc'), fun i hi => ⟨(World.cell?_of_block (a := ⟨b, 2 * i, none⟩) (hb.block b hc)).trans (h.2 i hi).1, (World.cell?_of_block (a := ⟨b, 2 * i + 1, none⟩) (hb.block b hc)).trans (h.2 i hi).2⟩⟩

set_option maxRecDepth 1000000 in
set_option maxHeartbeats 2000000 in
theorem quote_any (s : ByteArray) (w : World) (hs : s.size ≤ 8796093022208) (ha : 1 < w.heap.size) (hb : 2 < w.heap.size) (hT : Lib.Utf8Tabs 1 2 w) :
    Calls Tryd.prog 5 #[.string s] w fun e w' => e = .returned (.string ⟨(qt s).toArray⟩) ∧ Below w.heap.size w w' := by
  obtain ⟨i0, hi, hz0, hz1, hz2⟩ := info_parts infoU8b
  obtain ⟨Q, hQ⟩ : ∃ Q, 34 :: qs s s.size 0 = Q := ⟨_, rfl⟩
  have HQ : Hid (34 :: qs s s.size 0 = Q) := hQ
  clear hQ
  have HT : Hid (∀ w', Below w.heap.size w w' → Lib.Utf8Tabs 1 2 w') := fun w' h => tabs_below hT h ha hb
  clear hT
  go_enter Tryd.func5, Tryd.ntmps5
  go_wp2
  go_loopg [3, 4] s.size (fun gk so si wr => ∃ (k n : Nat) (l : List UInt8), gk = s.size - k ∧ k ≤ s.size ∧ s.size - k ≤ n ∧ si = .int .i64 (k : Int) ∧ l ++ qs s n k = Q ∧ l.length ≤ 1 + 4 * k ∧ wr.ownsRow w.heap.size 5 1 so l.length (bc l) ∧ Below w.heap.size w wr)
  case atStart => exact ⟨0, s.size, [34], by omega, Nat.zero_le _, by omega, rfl, HQ.out, by simp, World.ownsRow_lit w (bc [34]).toArray 1 (Nat.le_refl _) (by unfold maxLen; omega) rfl, by go_grown⟩
  case round =>
    obtain ⟨k, n, l, rfl, hk, hkn, rfl, hlq, hll, hown, hbel⟩ := hrel
    have HB : Hid (Below w.heap.size w wr) := hbel
    have HO : Hid (wr.ownsRow w.heap.size 5 1 u3 l.length (bc l)) := hown
    have HLQ : Hid (l ++ qs s n k = Q) := hlq
    clear hbel hown hlq
    by_cases hlt : k < s.size
    · have hlt' : (k : Int) < (s.size : Int) := by omega
      obtain ⟨f1, f2, -, -⟩ := dec_facts s k hlt
      obtain ⟨m, hm, hqm⟩ := qs_step s n k hkn hlt
      have hln := q1_len s k hlt
      have HN : Hid (l ++ q1 s k hlt ++ qs s m (k + wd s k) = Q) := by unfold Hid; rw [← HLQ.out, hqm, List.append_assoc]
      clear hqm
      have HD : Hid (Calls Tryd.prog 12 #[.string (s.extract k s.size)] wr fun e w' => e = .returned (.tuple #[.int .i32 (rn s k : Nat), .int .i64 (wd s k : Nat)]) ∧ Below wr.heap.size wr w') := Tryd.utf8_DecodeRuneInString (s.extract k s.size) wr (HT.out wr HB.out)
      obtain ⟨c, hc⟩ : ∃ c, s[k]'hlt = c := ⟨_, rfl⟩
      by_cases h1 : 1 < wd s k
      · have HX : Hid (q1 s k hlt = (s.extract k (k + wd s k)).data.toList) := by unfold Hid q1; rw [if_pos h1]
        obtain ⟨W, hW⟩ : ∃ W, wd s k = W := ⟨_, rfl⟩
        obtain ⟨R, hR⟩ : ∃ R, rn s k = R := ⟨_, rfl⟩
        rw [hW] at f1 f2 hm hln HN HD h1 HX
        rw [hR] at HD
        have h1' : (1 : Int) < (W : Int) := by omega
        have hsz : (s.extract k (k + W)).size = W := by rw [ByteArray.size_extract]; omega
        obtain ⟨T, hTd⟩ : ∃ T, s.extract k (k + W) = T := ⟨_, rfl⟩
        rw [hTd] at HX hsz
        have HXs : Hid (q1 s k hlt = T.data.toList) := HX
        obtain ⟨q, hq⟩ : ∃ q, q1 s k hlt = q := ⟨_, rfl⟩
        rw [hq] at HXs HN hln
        clear HX hW hR hq hc
        go_wp2_with (first
          | (go_at_call 12; (with_reducible refine HD.out.mono ?_); rintro e w1 ⟨rfl, hb1⟩; have HB1 : Hid (Below w.heap.size w w1) := HB.out.trans (hb1.mono HB.out.size); have HO1 : Hid (w1.ownsRow w.heap.size 5 1 u3 l.length (bc l)) := ownsRow_below HO.out hb1 (Nat.le_refl _); clear hb1)
          | (at_builtin; (refine Lib.wpList_append_own_string _ rfl _ _ 34 9 rfl w.heap.size 5 i0 Tryd.underlying34 Tryd.underlying9 hi hz0 hz1 hz2 u3 l.length (bc l) rfl HO1.out T (by rw [← hTd]; rfl) (by unfold maxLen; omega) (by omega) HB1.out.size ?_); intro v9 w9 hown9 hgrow9 _; have HB9 : Hid (Below w.heap.size w w9) := HB1.out.grown hgrow9 HB1.out.size (fun g h => (HO1.out.lt g h).1); have HO9 : Hid (w9.ownsRow w.heap.size 5 1 v9 (l ++ q).length (bc (l ++ q))) := (by unfold Hid; rw [HXs.out, bc_append, List.length_append, Array.length_toList]; exact hown9); clear hown9 hgrow9))
        go_roundg (s.size - (k + W))
        case measure => omega
        case rel => exact ⟨k + W, m, l ++ q, rfl, by omega, hm, by go_num, HN.out, by rw [List.length_append]; omega, HO9.out, HB9.out⟩
      · have HX : Hid (q1 s k hlt = qe c) := by unfold Hid q1; rw [if_neg h1, hc]
        have hW : wd s k = 1 := by omega
        obtain ⟨R, hR⟩ : ∃ R, rn s k = R := ⟨_, rfl⟩
        rw [hW] at f1 f2 hm hln HN HD
        rw [hR] at HD
        have HXs : Hid (q1 s k hlt = qe c) := HX
        obtain ⟨q, hq⟩ : ∃ q, q1 s k hlt = q := ⟨_, rfl⟩
        rw [hq] at HXs HN hln
        clear HX hW hR hq h1
        go_wp2_with (first
          | (go_at_call 12; (with_reducible refine HD.out.mono ?_); rintro e w1 ⟨rfl, hb1⟩; have HB1 : Hid (Below w.heap.size w w1) := HB.out.trans (hb1.mono HB.out.size); have HO1 : Hid (w1.ownsRow w.heap.size 5 1 u3 l.length (bc l)) := ownsRow_below HO.out hb1 (Nat.le_refl _); clear hb1)
          | (go_at_call 13; (with_reducible refine (appendByte_any w.heap.size u3 l c _ (by omega) HB1.out.size HO1.out).mono ?_); rintro e w9 ⟨v9, rfl, ho9, hb9⟩; have HB9 : Hid (Below w.heap.size w w9) := HB1.out.trans hb9; have HO9 : Hid (w9.ownsRow w.heap.size 5 1 v9 (l ++ q).length (bc (l ++ q))) := (by unfold Hid; rw [HXs.out]; exact ho9); clear ho9 hb9))
        go_roundg (s.size - (k + 1))
        case measure => omega
        case rel => exact ⟨k + 1, m, l ++ q, rfl, by omega, hm, by go_num, HN.out, by rw [List.length_append]; omega, HO9.out, HB9.out⟩
    · have hge : ¬ (k : Int) < (s.size : Int) := by omega
      have HZ : Hid (l = Q) := by
        unfold Hid; rw [← HLQ.out, qs_end s n k hlt]; simp
      go_wp2_with (at_builtin; (refine wpList_append_own_any _ rfl _ _ 34 rfl w.heap.size 5 i0 (.int .u8 0) 1 1 Tryd.underlying34 hi hz0 hz1 hz2 rfl (by decide) _ _ _ rfl (HO.out.alloc _) (some ⟨wr.heap.size, 0, none⟩) 1 1 (bc [34]) rfl (by rfl) (fun h => by cases h) (fun ad had => by cases had; exact cells_new wr (bc [34]) 5) (bc_one _) (by unfold maxLen; omega) (by omega) (by have := HB.out.size; simp; omega) ?_); intro v9 w9 hown9 hgrow9; have HBw9 : Hid (Below w.heap.size w w9) := (HB.out.alloc HB.out.size _).grown hgrow9 (by have := HB.out.size; simp; omega) (fun g h => (HO.out.lt g h).1); have HOw9 : Hid (w9.ownsRow w.heap.size 5 1 v9 (l ++ [34]).length (bc (l ++ [34]))) := (by unfold Hid; rw [bc_append, List.length_append]; exact hown9); clear hown9 hgrow9; have hcv := own_string_any HOw9.out)
      go_ret
      refine ⟨?_, HBw9.out⟩
      rw [HZ.out, ← HQ.out]; rfl
end Go.Proofs.YtlgddkkpngfmfaaDoor
