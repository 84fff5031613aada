import Derived.Test.YteolfolkolpehaaDoorIv
import Derived.Test.YteolfolkolpehaaDoorRn4
import Derived.Deep.RegionHeld3
import Derived.Deep.AppendLies
import Derived.Deep.DrawnRows
import Derived.Deep.DeepCutAuto
namespace Go.Proofs.YteolfolkolpehaaDoor
open Go.ChangeShapes Go.WideShapes Go.ChangeAt Go.RowKit
set_option linter.unusedVariables false

theorem Eds.take {w : World} {b o : Nat} {xs : List Ed} (h : Eds w b o xs) (k : Nat) : Eds w b o (xs.take k) := by
  refine ⟨h.1, fun i e he => h.2 i e ?_⟩
  rw [List.getElem?_take] at he
  by_cases hi : i < k
  · rw [if_pos hi] at he; exact he
  · rw [if_neg hi] at he; cases he

theorem rdone_pre (n b o cap k : Nat) (xs : List Ed) (a0 : Option Addr) (c0 : Nat) (w : World) (hn : n ≤ 140737488351232) (hw : RnA w a0 (wh n)) (h : Eds w b o xs) (hk : k ≤ xs.length) (hl : xs.length ≤ 65536) (hck : chk n 0 (xs.take k) = 0) :
    Calls Tryd.prog 37 #[.slice a0 (wh n).length c0, .slice (some ⟨b, o, none⟩) k cap] w fun e w' => ∃ a1 c1, e = .returned (.slice a1 (dn n 0 (xs.take k)).length c1) ∧ RnA w' a1 (dn n 0 (xs.take k)) ∧ Below w.heap.size w w' := by
  have h1 := rdone_any n b o cap (xs.take k) a0 c0 w hn hw (h.take k) (by rw [List.length_take]; omega) hck
  rw [List.length_take, Nat.min_eq_left hk] at h1
  refine h1.mono ?_
  rintro e w' ⟨v, rfl, hown, hb⟩
  obtain ⟨a1, c1, rfl, hR, _, _⟩ := own_formR hown
  exact ⟨a1, c1, rfl, hR, hb⟩

theorem said_len (tx pre : ByteArray) (f k : Nat) (xs : List Ed) (e : Ed) (a : Option Addr) (cap : Nat) (w : World) (hx : tx.size ≤ 140737488351232) (hpre : tx.extract 0 f = pre) (he : xs[k]? = some e) (hef : e.f = f) (hck : chk tx.size 0 xs = 0) (hl : xs.length ≤ 65536) (hB : tx.size + tots xs ≤ 1048576)
    (h : RnA w a (dn f 0 (xs.take k))) :
    Calls Tryd.prog 36 #[.string pre, .slice a (dn f 0 (xs.take k)).length cap] w fun r w' => ∃ R : ByteArray, r = .returned (.string R) ∧ (R.size : Int) = f + grw (xs.take k) ∧ Below w.heap.size w w' := by
  obtain ⟨q1, q2, q3⟩ := grw_bound hck he
  have hK := chk_ok hck e (List.mem_of_getElem? he)
  have hfs : f ≤ tx.size := by omega
  have hps : pre.size = f := by rw [← hpre]; simp; omega
  have hfn : e.f.toNat = f := by omega
  rw [hfn, hpre, hef] at q3
  rw [hef] at q1
  have hsd := sd_dn (tx := pre.data.toList) f 0 (xs.take k) (by rw [bytes_len, hps]; exact Nat.le_refl _)
  have hd := dn_len f 0 (xs.take k)
  have htk : (xs.take k).length ≤ 65536 := by rw [List.length_take]; omega
  have hchk := chk_take hck he
  rw [hef] at hchk
  refine (said_all pre a cap (dn f 0 (xs.take k)) w (by omega) h (by omega) ?_ (by rw [hsd]; omega)).mono ?_
  · rw [hps]
    exact dn_in (fun x hx => by have := chk_ok hchk x hx; omega)
  · rintro r w' ⟨rfl, hb⟩
    refine ⟨_, rfl, ?_, hb⟩
    rw [← bytes_len]
    show ((sd pre.data.toList (dn f 0 (xs.take k))).length : Int) = _
    rw [hsd]
    exact q3
end Go.Proofs.YteolfolkolpehaaDoor
