import Derived.Test.YthmcdoakfmlecaaGreatDoorBs
import Derived.Lib.LaidU8
namespace Go.Proofs.YthmcdoakfmlecaaGreatDoor
open Go.ChangeShapes Go.WideShapes Go.ChangeAt Go.RowKit Go.Deep
set_option linter.unusedVariables false

/-- a variable that is a slice of strings -/
theorem strSlice_of_reads {P : Program} {w : World} {name : String} {g : Nat} {t e : TypeId} {l : List (List UInt8)} (hn : P.globalNamed name = some g) (hy : (P.globals[g]?).map (·.type) = some t)
    (ht : P.underlying t = some (.slice e)) (he : P.underlying e = some .string) (hc : P.cellsOf e = 1) (h : Lib.VarReads P w name (.slice (l.map fun x => .lit (.string x)) [])) :
    ∃ (a : Addr) (cap : Nat), w.cell? ⟨g, 0, none⟩ = some (.slice (some a) l.length cap) ∧ ∀ i, i < l.length → w.cell? (a.add i) = some (.string ⟨(l.getD i []).toArray⟩) := by
  obtain ⟨g', t', cs, fuel, p, hg, hty, hvar, hd⟩ := h
  obtain rfl := Option.some.inj (hn.symm.trans hg)
  obtain rfl := Option.some.inj (hy.symm.trans hty)
  rcases DataW.trod_slice ht hd with ⟨_, hx⟩ | ⟨a, len, cap, el, rs, m, rfl, hcs, hx, _, hlc, _, hel, helem, hsp, _⟩
  · cases hx
  have e0 := congrArg Prod.fst hx
  simp only [DataW.slice.injEq] at e0
  obtain ⟨eE, eR⟩ := e0
  have hlen : len = l.length := by
    have := congrArg List.length eE
    simp at this
    omega
  refine ⟨a, cap, ?_, fun i hi => ?_⟩
  · have h1 := World.var?_cell hg hvar 0
    rw [h1]
    have h2 := congrArg (·[0]?) hcs
    simp only [List.getElem?_cons_zero] at h2
    rw [← hlen, ← h2]
    simp
  · have h1 := helem i (by omega)
    rw [hc] at h1
    obtain ⟨b, hb⟩ : ∃ b, el[i]? = some b := ⟨el[i]'(by omega), List.getElem?_eq_getElem (by omega)⟩
    rw [hb] at h1
    obtain ⟨ce, hce, hte⟩ := Option.bind_eq_some_iff.1 h1
    obtain ⟨z, hz, hbz, _⟩ := DataW.trod_string he hte
    have hb1 : b.1 = .lit (.string (l.getD i [])) := by
      have := congrArg (·[i]?) eE
      simp [hb, hi] at this
      have e2 : l.getD i [] = l[i] := by simp [List.getD, List.getElem?_eq_getElem hi]
      rw [e2]
      exact this.symm
    rw [hbz] at hb1
    simp only [DataW.lit.injEq, Lit.string.injEq] at hb1
    obtain ⟨_, _, hcc⟩ := World.cells?_some hce
    have := hcc 0 (by omega)
    rw [hz] at this
    simp only [Nat.mul_one] at this
    have e1 : (a.add i).add 0 = a.add i := by simp [Addr.add]
    rw [e1] at this
    rw [this, ← hb1]
    rfl

/-- a variable that is an array of strings -/
theorem strTab_of_reads {P : Program} {w : World} {name : String} {g : Nat} {t e : TypeId} {n : Nat} {l : List (List UInt8)} (hn : P.globalNamed name = some g) (hy : (P.globals[g]?).map (·.type) = some t)
    (ht : P.underlying t = some (.array n e)) (he : P.underlying e = some .string) (hc : P.cellsOf e = 1) (h : Lib.VarReads P w name (.agg (l.map fun x => .lit (.string x)))) :
    ∀ i, i < l.length → w.cell? ⟨g, i, none⟩ = some (.string ⟨(l.getD i []).toArray⟩) := by
  obtain ⟨g', t', cs, fuel, p, hg, hty, hvar, hd⟩ := h
  obtain rfl := Option.some.inj (hn.symm.trans hg)
  obtain rfl := Option.some.inj (hy.symm.trans hty)
  obtain ⟨xs, m, rfl, hx, hcl, hxl, hel⟩ := DataW.trod_array ht hd
  have e0 := congrArg Prod.fst hx
  simp only [DataW.agg.injEq] at e0
  have hlen : n = l.length := by
    have := congrArg List.length e0
    simp at this
    omega
  intro i hi
  have h1 := hel i (by omega)
  rw [hc] at h1
  obtain ⟨b, hb⟩ : ∃ b, xs[i]? = some b := ⟨xs[i]'(by omega), List.getElem?_eq_getElem (by omega)⟩
  rw [hb] at h1
  obtain ⟨z, hz, hbz, _⟩ := DataW.trod_string he h1
  have hb1 : b.1 = .lit (.string (l.getD i [])) := by
    have := congrArg (·[i]?) e0
    simp [hb, hi] at this
    have e2 : l.getD i [] = l[i] := by simp [List.getD, List.getElem?_eq_getElem hi]
    rw [e2]
    exact this.symm
  rw [hbz] at hb1
  simp only [DataW.lit.injEq, Lit.string.injEq] at hb1
  rw [World.var?_cell hg hvar i]
  have h2 := congrArg (·[0]?) hz
  simp only [Nat.mul_one, List.getElem?_take, List.getElem?_drop, List.getElem?_cons_zero] at h2
  rw [if_pos (by omega), Nat.add_zero] at h2
  rw [← Array.getElem?_toList, h2, ← hb1]

def uni : List (List UInt8) := [[98, 111, 111, 108], [105, 110, 116], [115, 116, 114, 105, 110, 103], [116, 114, 117, 101], [102, 97, 108, 115, 101], [105, 111, 116, 97], [110, 105, 108], [97, 112, 112, 101, 110, 100], [99, 111, 112, 121], [100, 101, 108, 101, 116, 101], [108, 101, 110], [109, 97, 107, 101], [110, 101, 119], [112, 97, 110, 105, 99], [112, 114, 105, 110, 116]]
/-- the first place of a name -/
def ixF (x : List UInt8) : Nat → List (List UInt8) → Int
  | _, [] => -1
  | k, y :: r => if x = y then (k : Int) else ixF x (k + 1) r

theorem ustr_ne {a : ByteArray} {l : List UInt8} (h : ¬ a.data.toList = l) : (a.toList == l) = false := by
  rw [beq_eq_false_iff_ne, ByteArray.toList_eq]
  exact h
theorem ustr_eq {a : ByteArray} {l : List UInt8} (h : a.data.toList = l) : (a.toList == l) = true := by
  rw [beq_iff_eq, ByteArray.toList_eq]
  exact h
theorem ucell_lt {w : World} {p : Addr} {v : Value} (h : w.cell? p = some v) : p.block < w.heap.size := by
  by_cases hb : p.block < w.heap.size
  · exact hb
  · have : w.heap[p.block]? = none := by simp; omega
    simp [World.cell?, this] at h
theorem ix_at {x y : List UInt8} {k : Nat} (h : uni[k]? = some y) : ixF x k (uni.drop k) = if x = y then (k : Int) else ixF x (k + 1) (uni.drop (k + 1)) := by
  obtain ⟨h1, h2⟩ := List.getElem?_eq_some_iff.1 h
  rw [List.drop_eq_getElem_cons h1, h2, ixF]

set_option maxRecDepth 1000000 in
set_option maxHeartbeats 2000000 in
theorem index_any (x : ByteArray) (a : Addr) (cap : Nat) (v : World) (h : ∀ i, i < 15 → v.cell? (a.add i) = some (.string ⟨(uni.getD i []).toArray⟩)) (R : Int) (hR : ixF x.data.toList 0 uni = R) :
    Calls Tryz.prog 11 #[.slice (some a) 15 cap, .string x] v fun e w' => e = .returned (.int .i64 R) ∧ Below v.heap.size v w' := by
  have HR : Hid (ixF x.data.toList 0 uni = R) := hR
  have HC : Hid (∀ i, i < 15 → v.cell? (a.add i) = some (.string ⟨(uni.getD i []).toArray⟩)) := h
  clear hR h
  go_enter Tryz.func11, Tryz.ntmps11
  go_wp2
  go_loopg [8] 15 (fun gk sk wr => ∃ (k : Nat), gk = 15 - k ∧ k ≤ 15 ∧ sk = .int .i64 (k : Int) ∧ ixF x.data.toList k (uni.drop k) = R ∧ Below v.heap.size v wr)
  case atStart => exact ⟨0, rfl, Nat.zero_le _, rfl, HR.out, Below.refl _ _⟩
  case round =>
    obtain ⟨k, rfl, hk, rfl, hix, hbel⟩ := hrel
    have HB : Hid (Below v.heap.size v wr) := hbel
    have HI : Hid (ixF x.data.toList k (uni.drop k) = R) := hix
    clear hbel hix HR
    by_cases hlt : k < 15
    · have hlt' : (k : Int) < 15 := by omega
      obtain ⟨y, hy⟩ : ∃ y, uni[k]? = some y := ⟨uni[k]'(by have : uni.length = 15 := rfl; omega), List.getElem?_eq_getElem _⟩
      have hyd : uni.getD k [] = y := by rw [List.getD, hy]; rfl
      have hc : wr.cell? (a.add k) = some (.string ⟨y.toArray⟩) := by
        rw [HB.out.cell (ucell_lt (HC.out k hlt)), ← hyd]
        exact HC.out k hlt
      by_cases he : x.data.toList = y
      · have t1 := ustr_eq he
        have HZ : Hid (R = (k : Int)) := by unfold Hid; rw [← HI.out, ix_at hy, if_pos he]
        clear HI he hy hyd
        go_wp2
        go_ret
        exact ⟨by rw [HZ.out]; rfl, HB.out⟩
      · have t1 := ustr_ne he
        have HZ : Hid (ixF x.data.toList (k + 1) (uni.drop (k + 1)) = R) := by unfold Hid; rw [← HI.out, ix_at hy, if_neg he]
        clear HI he hy hyd
        go_wp2
        go_roundg (15 - (k + 1))
        case measure => omega
        case rel => exact ⟨k + 1, rfl, by omega, by go_num, HZ.out, HB.out⟩
    · have hlt' : ¬ (k : Int) < 15 := by omega
      have HZ : Hid (R = -1) := by
        unfold Hid
        rw [← HI.out, List.drop_eq_nil_of_le (by have : uni.length = 15 := rfl; omega), ixF]
      clear HI
      go_wp2
      go_ret
      exact ⟨by rw [HZ.out]; rfl, HB.out⟩
end Go.Proofs.YthmcdoakfmlecaaGreatDoor
