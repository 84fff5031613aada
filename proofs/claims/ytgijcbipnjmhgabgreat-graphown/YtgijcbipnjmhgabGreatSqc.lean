import Derived.Test.YtgijcbipnjmhgabGreatSq3
import Derived.Test.YtgijcbipnjmhgabGreatSq8
import Derived.Test.YtgijcbipnjmhgabGreatSqa
import Derived.Test.YtgijcbipnjmhgabGreatSqb
import Derived.Test.YtgijcbipnjmhgabGreatSr7
import Derived.Sort.LotD3
namespace Go.Proofs.YtgijcbipnjmhgabGreat
open Go.ChangeShapes Go.WideShapes Go.ChangeAt Go.RowKit
set_option linter.unusedVariables false
set_option linter.unusedSimpArgs false

def IsC (v : Value) : Prop := ∃ t : Bool, v = .bool t
def IsQ (v : Value) (P : Prop) : Prop := ∃ t : Bool, v = .bool t ∧ (t = true → P)
theorem swoI : Go.Sort.SWO ltI := Go.Sort.swo_ltInt
/-- in the midst of pdqsort: what sorts the stretch from a2 to b2 sorts the whole -/
structure Lp (B g n c a b : Nat) (w : World) (xs : List Hn) (z : World) (zs : List Hn) (a2 b2 : Nat) : Prop extends Si B g n c a b w xs z zs where
  bel : Go.Sort.Below ltI a2 b2 (arr zs)
  aim : ∀ d', Go.Sort.PermIn a2 b2 (arr zs) d' → Go.Sort.SortedIn ltI a2 b2 d' → Go.Sort.SortedIn ltI a b d'
theorem Lp.start {B g n c a b : Nat} {w : World} {xs : List Hn} (h : Row B 21 g n c w xs) (hb : Go.Sort.Below ltI a b (arr xs)) : Lp B g n c a b w xs w xs a b := ⟨Si.first h, hb, fun _ _ h => h⟩
theorem Lp.below {B g n c a b a2 b2 : Nat} {w z z' : World} {xs zs : List Hn} (h : Lp B g n c a b w xs z zs a2 b2) (hb : Below z.heap.size z z') : Lp B g n c a b w xs z' zs a2 b2 := ⟨h.toSi.below hb, h.bel, h.aim⟩
theorem Lp.at {B g n c a b a2 b2 : Nat} {w z : World} {xs zs : List Hn} (h : Lp B g n c a b w xs z zs a2 b2) {i : Nat} (hi : i < n) : ∃ x, zs[i]? = some x := h.toSi.at hi
theorem Si.more {B g n c a b a2 b2 : Nat} {w z z' : World} {xs zs ys : List Hn} (h : Si B g n c a b w xs z zs) (hp : Go.Sort.PermIn a2 b2 (arr zs) (arr ys)) (hr : Row B 21 g n c z' ys) (ho : One g z z') (h1 : a ≤ a2) (h2 : b2 ≤ b) (hb : b ≤ n) : Si B g n c a b w xs z' ys :=
  ⟨Go.Sort.permIn_trans _ _ _ _ _ h.perm (Go.Sort.permIn_mono _ _ _ _ _ _ h1 h2 (by rw [arr_size, h.row.len]; exact hb) hp), hr, h.one.trans ho⟩
theorem Lp.perm2 {B g n c a b a2 b2 : Nat} {w z z' : World} {xs zs ys : List Hn} (h : Lp B g n c a b w xs z zs a2 b2) (hp : Go.Sort.PermIn a2 b2 (arr zs) (arr ys)) (hr : Row B 21 g n c z' ys) (ho : One g z z') (h1 : a ≤ a2) (h2 : b2 ≤ b) (hb : b ≤ n) : Lp B g n c a b w xs z' ys a2 b2 :=
  ⟨h.toSi.more hp hr ho h1 h2 hb, h.bel.perm (by rw [arr_size, h.row.len]; omega) hp, fun d' p s => h.aim d' (Go.Sort.permIn_trans _ _ _ _ _ hp p) s⟩
theorem Lp.done {B g n c a b a2 b2 : Nat} {w z z' : World} {xs zs ys : List Hn} (h : Lp B g n c a b w xs z zs a2 b2) (hp : Go.Sort.PermIn a2 b2 (arr zs) (arr ys)) (hs : Go.Sort.SortedIn ltI a2 b2 (arr ys)) (hr : Row B 21 g n c z' ys) (ho : One g z z') (h1 : a ≤ a2) (h2 : b2 ≤ b) (hb : b ≤ n) : Si B g n c a b w xs z' ys ∧ Go.Sort.SortedIn ltI a b (arr ys) :=
  ⟨h.toSi.more hp hr ho h1 h2 hb, h.aim _ hp hs⟩
theorem Lp.ins {B g n c a b a2 b2 : Nat} {w z z' : World} {xs zs ys : List Hn} (h : Lp B g n c a b w xs z zs a2 b2) (e : arr ys = Go.Sort.insertionSort ltI (arr zs) a2 b2) (hr : Row B 21 g n c z' ys) (ho : One g z z') (h1 : a ≤ a2) (h3 : a2 ≤ b2) (h2 : b2 ≤ b) (hb : b ≤ n) : Si B g n c a b w xs z' ys ∧ Go.Sort.SortedIn ltI a b (arr ys) := by
  obtain ⟨p, s⟩ := Go.Sort.insertionSort_holds swoI (arr zs) a2 b2 h3 (by rw [arr_size, h.row.len]; omega)
  rw [← e] at p s
  exact h.done p s hr ho h1 h2 hb
theorem Lp.heap {B g n c a b a2 b2 : Nat} {w z z' : World} {xs zs ys : List Hn} (h : Lp B g n c a b w xs z zs a2 b2) (e : arr ys = Go.Sort.heapSort ltI (arr zs) a2 b2) (hr : Row B 21 g n c z' ys) (ho : One g z z') (h1 : a ≤ a2) (h3 : a2 ≤ b2) (h2 : b2 ≤ b) (hb : b ≤ n) : Si B g n c a b w xs z' ys ∧ Go.Sort.SortedIn ltI a b (arr ys) := by
  obtain ⟨p, s⟩ := Go.Sort.heapSort_holds swoI (arr zs) a2 b2 h3 (by rw [arr_size, h.row.len]; omega)
  rw [← e] at p s
  exact h.done p s hr ho h1 h2 hb
theorem Lp.pins {B g n c a b a2 b2 : Nat} {w z z' : World} {xs zs ys : List Hn} {t : Bool} (h : Lp B g n c a b w xs z zs a2 b2) (e : (arr ys, t) = Go.Sort.partialInsertionSort ltI (arr zs) a2 b2) (hs : Sw B g n c z z' ys) (h1 : a ≤ a2) (h3 : a2 < b2) (h2 : b2 ≤ b) (hb : b ≤ n) : Lp B g n c a b w xs z' ys a2 b2 ∧ (t = true → Si B g n c a b w xs z' ys ∧ Go.Sort.SortedIn ltI a b (arr ys)) := by
  obtain ⟨p, s⟩ := Go.Sort.partialInsertionSort_holds swoI (arr zs) a2 b2 h3 (by rw [arr_size, h.row.len]; omega) h.bel
  rw [← e] at p s
  exact ⟨h.perm2 p hs.row hs.one h1 h2 hb, fun ht => h.done p (s ht) hs.row hs.one h1 h2 hb⟩
theorem permIn_out {a b i : Nat} {d d' : Array Int} (h : Go.Sort.PermIn a b d d') (hi : i < a ∨ b ≤ i) : d'[i]! = d[i]! := h.2.1 i hi
theorem Lp.equal {B g n c a b a2 b2 p mid : Nat} {w z z' : World} {xs zs ys : List Hn} (h : Lp B g n c a b w xs z zs a2 b2) (k : Pg B g n c a2 b2 p z zs z' ys mid) (hm : a2 + 1 ≤ mid ∧ mid ≤ b2) (hq : 0 < a2 ∧ ltI (arr zs)[a2 - 1]! (arr zs)[p]! = false) (h1 : a ≤ a2) (h2 : b2 ≤ b) (hb : b ≤ n) : Lp B g n c a b w xs z' ys mid b2 := by
  have hsz : b2 ≤ (arr zs).size := by rw [arr_size, h.row.len]; omega
  have hsy : b2 ≤ (arr ys).size := by rw [arr_size, k.row.len]; omega
  have hall : ∀ i, a2 ≤ i → i < b2 → ltI (arr zs)[i]! (arr zs)[p]! = false := by
    intro i hi hi2
    rcases h.bel with h0 | h0
    · omega
    · exact swoI.ntrans _ _ _ (h0 i hi hi2) hq.2
  have hally : ∀ i, a2 ≤ i → i < b2 → ltI (arr ys)[i]! (arr zs)[p]! = false := Go.Sort.permIn_all (arr zs) (arr ys) a2 b2 (fun x => ltI x (arr zs)[p]! = false) hsz k.perm hall
  refine ⟨h.toSi.more k.perm k.row k.one h1 h2 hb, .inr fun i hi hi2 => ?_, fun d' hp hs => h.aim d' (Go.Sort.permIn_trans _ _ _ _ _ k.perm (Go.Sort.permIn_mono _ _ _ _ _ _ (by omega) (Nat.le_refl _) hsy hp)) ?_⟩
  · have e1 := k.lo (mid - 1) (by omega) (by omega)
    have e2 := k.hi i hi hi2
    cases hc : ltI (arr ys)[i]! (arr ys)[mid - 1]! with
    | false => rfl
    | true => have := swoI.trans _ _ _ e2 hc; rw [e1] at this; cases this
  · refine Go.Sort.sorted_glue_eq swoI (arr zs)[p]! hs (fun i hi hi2 => ?_) (fun i hi hi2 => ?_) ?_
    · rw [permIn_out hp (.inl hi2)]; exact k.lo i hi hi2
    · rw [permIn_out hp (.inl hi2)]; exact hally i hi (by omega)
    · exact Go.Sort.permIn_all (arr ys) d' mid b2 (fun x => ltI (arr zs)[p]! x = true) hsy hp k.hi
theorem bel_part {B g n c a2 b2 mid : Nat} {z z' : World} {zs ys : List Hn} (hbel : Go.Sort.Below ltI a2 b2 (arr zs)) (k : Pe B g n c a2 b2 z zs z' ys mid) (hm : a2 ≤ mid ∧ mid < b2) (hsz : b2 ≤ (arr zs).size) : Go.Sort.Below ltI a2 mid (arr ys) ∧ Go.Sort.Below ltI (mid + 1) b2 (arr ys) :=
  ⟨(hbel.perm hsz k.perm).mono (by omega), .inr fun i hi hi2 => by rw [Nat.add_sub_cancel]; exact k.hi i (by omega) hi2⟩
theorem Lp.left {B g n c a b a2 b2 mid : Nat} {w z z' z2 : World} {xs zs ys ys2 : List Hn} (h : Lp B g n c a b w xs z zs a2 b2) (k : Pe B g n c a2 b2 z zs z' ys mid) (s2 : Si B g n c a2 mid z' ys z2 ys2) (so : Go.Sort.SortedIn ltI a2 mid (arr ys2)) (hm : a2 ≤ mid ∧ mid < b2) (h1 : a ≤ a2) (h2 : b2 ≤ b) (hb : b ≤ n) : Lp B g n c a b w xs z2 ys2 (mid + 1) b2 := by
  have hsz : b2 ≤ (arr zs).size := by rw [arr_size, h.row.len]; omega
  have hsy : b2 ≤ (arr ys).size := by rw [arr_size, k.row.len]; omega
  have hs2 : b2 ≤ (arr ys2).size := by rw [arr_size, s2.row.len]; omega
  have em : (arr ys2)[mid]! = (arr ys)[mid]! := permIn_out s2.perm (.inr (Nat.le_refl _))
  have hpz : Go.Sort.PermIn a2 b2 (arr zs) (arr ys2) := Go.Sort.permIn_trans _ _ _ _ _ k.perm (Go.Sort.permIn_mono _ _ _ _ _ _ (Nat.le_refl _) (by omega) hsy s2.perm)
  refine ⟨h.toSi.more hpz s2.row (k.one.trans s2.one) h1 h2 hb, .inr fun i hi hi2 => ?_, fun d' hp hs => h.aim d' (Go.Sort.permIn_trans _ _ _ _ _ hpz (Go.Sort.permIn_mono _ _ _ _ _ _ (by omega) (Nat.le_refl _) hs2 hp)) ?_⟩
  · rw [Nat.add_sub_cancel, em, permIn_out s2.perm (.inr (by omega))]
    exact k.hi i (by omega) hi2
  · have ed : d'[mid]! = (arr ys)[mid]! := (permIn_out hp (.inl (by omega))).trans em
    refine Go.Sort.sorted_glue swoI (mid := mid) (Go.Sort.SortedIn.congr so fun i hi hi2 => permIn_out hp (.inl (by omega))) hs (fun i hi hi2 => ?_) (fun i hi hi2 => ?_)
    · rw [ed, permIn_out hp (.inl (by omega))]
      exact Go.Sort.permIn_all (arr ys) (arr ys2) a2 mid (fun x => ltI x (arr ys)[mid]! = true) (by omega) s2.perm k.lo i hi hi2
    · rw [ed]
      refine Go.Sort.permIn_all (arr ys2) d' (mid + 1) b2 (fun x => ltI x (arr ys)[mid]! = false) hs2 hp (fun i hi hi2 => ?_) i (by omega) hi2
      rw [permIn_out s2.perm (.inr (by omega))]
      exact k.hi i (by omega) hi2
theorem Lp.right {B g n c a b a2 b2 mid : Nat} {w z z' z2 : World} {xs zs ys ys2 : List Hn} (h : Lp B g n c a b w xs z zs a2 b2) (k : Pe B g n c a2 b2 z zs z' ys mid) (s2 : Si B g n c (mid + 1) b2 z' ys z2 ys2) (so : Go.Sort.SortedIn ltI (mid + 1) b2 (arr ys2)) (hm : a2 ≤ mid ∧ mid < b2) (h1 : a ≤ a2) (h2 : b2 ≤ b) (hb : b ≤ n) : Lp B g n c a b w xs z2 ys2 a2 mid := by
  have hsz : b2 ≤ (arr zs).size := by rw [arr_size, h.row.len]; omega
  have hsy : b2 ≤ (arr ys).size := by rw [arr_size, k.row.len]; omega
  have hs2 : b2 ≤ (arr ys2).size := by rw [arr_size, s2.row.len]; omega
  have em : (arr ys2)[mid]! = (arr ys)[mid]! := permIn_out s2.perm (.inl (by omega))
  have hpz : Go.Sort.PermIn a2 b2 (arr zs) (arr ys2) := Go.Sort.permIn_trans _ _ _ _ _ k.perm (Go.Sort.permIn_mono _ _ _ _ _ _ (by omega) (Nat.le_refl _) hsy s2.perm)
  refine ⟨h.toSi.more hpz s2.row (k.one.trans s2.one) h1 h2 hb, (h.bel.perm hsz hpz).mono (by omega), fun d' hp hs => h.aim d' (Go.Sort.permIn_trans _ _ _ _ _ hpz (Go.Sort.permIn_mono _ _ _ _ _ _ (Nat.le_refl _) (by omega) hs2 hp)) ?_⟩
  have ed : d'[mid]! = (arr ys)[mid]! := (permIn_out hp (.inr (Nat.le_refl _))).trans em
  refine Go.Sort.sorted_glue swoI (mid := mid) hs (Go.Sort.SortedIn.congr so fun i hi hi2 => permIn_out hp (.inr (by omega))) (fun i hi hi2 => ?_) (fun i hi hi2 => ?_)
  · rw [ed]
    refine Go.Sort.permIn_all (arr ys2) d' a2 mid (fun x => ltI x (arr ys)[mid]! = true) (by omega) hp (fun i hi hi2 => ?_) i hi hi2
    rw [permIn_out s2.perm (.inl (by omega))]
    exact k.lo i hi hi2
  · rw [ed, permIn_out hp (.inr (by omega))]
    exact Go.Sort.permIn_all (arr ys) (arr ys2) (mid + 1) b2 (fun x => ltI x (arr ys)[mid]! = false) hsy s2.perm (fun i hi hi2 => k.hi i (by omega) hi2) i (by omega) hi2
set_option maxRecDepth 1000000 in
set_option maxHeartbeats 8000000 in
theorem pdqS_any (m : Nat) : ∀ (B g n c a b L : Nat) (xs : List Hn) (w : World), Row B 21 g n c w xs → Go.Sort.Below ltI a b (arr xs) → b - a ≤ m → a ≤ b → b ≤ n → L ≤ 1000 → n ≤ 70368744177664 →
    Calls Tryz.prog 78 #[.slice (some ⟨g, 0, none⟩) n c, .int .i64 (a : Int), .int .i64 (b : Int), .int .i64 (L : Int)] w fun e w' => (∃ x, e = .returned x) ∧ ∃ ys, Si B g n c a b w xs w' ys ∧ Go.Sort.SortedIn ltI a b (arr ys) := by
  induction m using Nat.strongRecOn with
  | ind m ih =>
  intro B g n c a b L xs w h hbel hm hab hb hL hn
  have IH : Hid (∀ (B g n c a2 b2 L : Nat) (xs : List Hn) (w : World), Row B 21 g n c w xs → Go.Sort.Below ltI a2 b2 (arr xs) → b2 - a2 < b - a → a2 ≤ b2 → b2 ≤ n → L ≤ 1000 → n ≤ 70368744177664 → Calls Tryz.prog 78 #[.slice (some ⟨g, 0, none⟩) n c, .int .i64 (a2 : Int), .int .i64 (b2 : Int), .int .i64 (L : Int)] w fun e w' => (∃ x, e = .returned x) ∧ ∃ ys, Si B g n c a2 b2 w xs w' ys ∧ Go.Sort.SortedIn ltI a2 b2 (arr ys)) := fun B g n c a2 b2 L xs w h1 hbl h2 h3 h4 h5 h6 => ih (b2 - a2) (by omega) B g n c a2 b2 L xs w h1 hbl (Nat.le_refl _) h3 h4 h5 h6
  have HS : Hid (Lp B g n c a b w xs w xs a b) := Lp.start h hbel
  clear h ih hbel
  go_enter Tryz.func78, Tryz.ntmps78
  go_wp2
  go_loopg [1, 2, 3, 8, 9] (b - a) (fun gk sa sb sl s8 s9 wr => ∃ a2 b2 L2 : Nat, gk = b2 - a2 ∧ sa = .int .i64 (a2 : Int) ∧ sb = .int .i64 (b2 : Int) ∧ sl = .int .i64 (L2 : Int) ∧ IsC s8 ∧ IsC s9 ∧ (a ≤ a2 ∧ a2 ≤ b2) ∧ b2 ≤ b ∧ L2 ≤ 1000 ∧ b2 ≤ n ∧ ∃ zs, Lp B g n c a b w xs wr zs a2 b2)
  case atStart => exact ⟨a, b, L, rfl, rfl, rfl, rfl, ⟨_, rfl⟩, ⟨_, rfl⟩, by omega, by omega, by omega, by omega, _, HS.out⟩
  case round =>
    obtain ⟨a2, b2, L2, hgk, rfl, rfl, rfl, ⟨t8, rfl⟩, ⟨t9, rfl⟩, hab2, hbb, hL2, hbn, zs0, hS⟩ := hrel
    clear HS
    have HS : Hid (Lp B g n c a b w xs wr zs0 a2 b2) := hS
    clear hS
    obtain ⟨l, hl⟩ : ∃ l : Nat, b2 - a2 = l := ⟨_, rfl⟩
    have kl : IntKind.i64.wrap ((b2 : Int) - (a2 : Int)) = (l : Int) := by rw [IntWalk.i64_in _ ⟨by omega, by omega⟩]; omega
    by_cases h12 : l ≤ 12
    · have h12' : (l : Int) ≤ 12 := by omega
      go_wp2_with (go_at_call 91; (with_reducible refine (insertS_any B g n c a2 b2 zs0 wr HS.out.row (by omega) (by omega) hn).mono ?_); rintro e v1 ⟨⟨x, rfl⟩, ys, hp1, hr1, ho1⟩; have S1 := hidI' (HS.out.ins hp1 hr1 ho1 (by omega) (by omega) (by omega) (by omega)); clear hp1 hr1 ho1)
      refine bodyPost_ret (results_none rfl _ _ _) rfl ?_
      exact ⟨⟨_, rfl⟩, _, S1.out⟩
    · have h12' : ¬ (l : Int) ≤ 12 := by omega
      by_cases hL0 : L2 = 0
      · subst hL0
        go_wp2_with (go_at_call 92; (with_reducible refine (heapS_any B g n c a2 b2 zs0 wr HS.out.row (by omega) (by omega) hn).mono ?_); rintro e v1 ⟨⟨x, rfl⟩, ys, hp1, hr1, ho1⟩; have S1 := hidI' (HS.out.heap hp1 hr1 ho1 (by omega) (by omega) (by omega) (by omega)); clear hp1 hr1 ho1)
        refine bodyPost_ret (results_none rfl _ _ _) rfl ?_
        exact ⟨⟨_, rfl⟩, _, S1.out⟩
      · have hL0' : ¬ (L2 : Int) = 0 := by omega
        have hL0b : ((L2 : Int) == 0) = false := by simp; omega
        go_upto_if 35 with fail
        go_cut [3] (fun s wc => ∃ L3 : Nat, s = .int .i64 (L3 : Int) ∧ L3 ≤ 1000 ∧ ∃ zs, Lp B g n c a b w xs wc zs a2 b2)
        case first =>
          cases t8 with
          | true =>
            go_wp2_with fail
            go_meet
            exact ⟨L2, rfl, by omega, _, HS.out⟩
          | false =>
            have rl : IntKind.i64.wrap ((L2 : Int) - 1) = ((L2 - 1 : Nat) : Int) := by rw [IntWalk.i64_in _ ⟨by omega, by omega⟩]; omega
            go_wp2_with (go_at_call 93; (with_reducible refine (brkS_any B g n c a2 b2 zs0 wr HS.out.row (by omega) (by omega) hn).mono ?_); rintro e v1 ⟨⟨x, rfl⟩, ys, hs1⟩; have S1 := hidI' (HS.out.perm2 hs1.perm hs1.row hs1.one (by omega) (by omega) (by omega)); clear hs1)
            go_meet
            exact ⟨L2 - 1, rfl, by omega, _, S1.out⟩
        case rest =>
          obtain ⟨L3, rfl, hL3, zs, hS⟩ := hcut
          clear HS
          have HS : Hid (Lp B g n c a b w xs wc zs a2 b2) := hS
          clear hS hL0 hL0b
          go_upto_if 50 with (go_at_call 94; (with_reducible refine (pivot_any B g n c a2 b2 zs wc HS.out.row (by omega) (by omega) hn).mono ?_); rintro e v1 ⟨p0, t0, rfl, hp0, ht0, hr1, hb1⟩; have S1 : Hid (Lp B g n c a b w xs v1 zs a2 b2) := HS.out.below hb1; clear hr1 hb1)
          clear HS
          have HS : Hid (Lp B g n c a b w xs v1 zs a2 b2) := S1.out
          clear S1
          go_cut [11, 12] (fun s1 s2 wc => ∃ p t : Nat, s1 = .int .i64 (p : Int) ∧ s2 = .int .i64 (t : Int) ∧ (a2 ≤ p ∧ p < b2) ∧ t ≤ 2 ∧ ∃ zs, Lp B g n c a b w xs wc zs a2 b2)
          case first =>
            by_cases ht2 : t0 = 2
            · subst ht2
              obtain ⟨y1, hy1⟩ : ∃ x : Nat, b2 - 1 = x := ⟨_, rfl⟩
              obtain ⟨y2, hy2⟩ : ∃ x : Nat, p0 - a2 = x := ⟨_, rfl⟩
              obtain ⟨y3, hy3⟩ : ∃ x : Nat, y1 - y2 = x := ⟨_, rfl⟩
              have r1 : IntKind.i64.wrap ((b2 : Int) - 1) = (y1 : Int) := by rw [IntWalk.i64_in _ ⟨by omega, by omega⟩]; omega
              have r2 : IntKind.i64.wrap ((p0 : Int) - (a2 : Int)) = (y2 : Int) := by rw [IntWalk.i64_in _ ⟨by omega, by omega⟩]; omega
              have r3 : IntKind.i64.wrap ((y1 : Int) - (y2 : Int)) = (y3 : Int) := by rw [IntWalk.i64_in _ ⟨by omega, by omega⟩]; omega
              have HY : Hid (a2 ≤ y3 ∧ y3 < b2) := by unfold Hid; omega
              clear hy1 hy2 hy3
              go_wp2_with (go_at_call 95; (with_reducible refine (revS_any B g n c a2 b2 zs v1 HS.out.row (by omega) (by omega) hn).mono ?_); rintro e v3 ⟨⟨x, rfl⟩, ys, hp1, hr1, ho1⟩; have S1 := hidI' (HS.out.perm2 hp1 hr1 ho1 (by omega) (by omega) (by omega)); clear hp1 hr1 ho1)
              go_meet
              exact ⟨y3, 1, rfl, rfl, HY.out, by omega, _, S1.out⟩
            · have ht2' : ¬ (t0 : Int) = 2 := by omega
              have ht2b : ((t0 : Int) == 2) = false := by simp; omega
              go_wp2_with fail
              go_meet
              exact ⟨p0, t0, rfl, rfl, hp0, ht0, _, HS.out⟩
          case rest =>
            obtain ⟨p, t, rfl, rfl, hp, ht, zs, hS⟩ := hcut
            clear HS
            have HS : Hid (Lp B g n c a b w xs wc zs a2 b2) := hS
            clear hS
            go_upto_region 15 with fail
            go_cut [68] (fun s wc => IsC s ∧ ∃ zs, Lp B g n c a b w xs wc zs a2 b2)
            case first =>
              by_cases ht1 : t = 1
              · subst ht1
                cases t8 <;> cases t9 <;> (go_wp2_with fail; go_meet; exact ⟨⟨_, rfl⟩, _, HS.out⟩)
              · have ht1' : ¬ (t : Int) = 1 := by omega
                have ht1b : ((t : Int) == 1) = false := by simp; omega
                cases t8 <;> cases t9 <;> (go_wp2_with fail; go_meet; exact ⟨⟨_, rfl⟩, _, HS.out⟩)
            case rest =>
              obtain ⟨⟨t68, rfl⟩, zs, hS⟩ := hcut
              clear HS
              have HS : Hid (Lp B g n c a b w xs wc zs a2 b2) := hS
              clear hS
              go_upto_if 68 with fail
              go_cut [] (fun wc => ∃ zs, Lp B g n c a b w xs wc zs a2 b2)
              case first =>
                cases t68 with
                | false =>
                  go_wp2_with fail
                  go_meet
                  exact ⟨_, HS.out⟩
                | true =>
                  go_upto_if 72 with (go_at_call 96; (with_reducible refine (pinsS_any B g n c a2 b2 zs wc HS.out.row (by omega) (by omega) hn).mono ?_); rintro e v1 ⟨t72, rfl, ys, he1, hs1⟩; have S1 := hidI' (HS.out.pins he1 hs1 (by omega) (by omega) (by omega) (by omega)); clear hs1 he1)
                  cases t72 with
                  | false =>
                    go_wp2_with fail
                    go_meet
                    exact ⟨_, S1.out.1⟩
                  | true =>
                    go_wp2
                    refine bodyPost_ret (results_none rfl _ _ _) rfl ?_
                    exact ⟨⟨_, rfl⟩, _, S1.out.2 (by first | rfl | trivial)⟩
              case rest =>
                obtain ⟨zs, hS⟩ := hcut
                clear HS
                have HS : Hid (Lp B g n c a b w xs wc zs a2 b2) := hS
                clear hS
                have m1 : IntKind.i64.wrap ((a2 : Int) - 1) = ((a2 : Int) - 1) := IntWalk.i64_in _ ⟨by omega, by omega⟩
                go_upto_region 17 with fail
                go_cut [87] (fun s wc => IsQ s (0 < a2 ∧ ltI (arr zs)[a2 - 1]! (arr zs)[p]! = false) ∧ Lp B g n c a b w xs wc zs a2 b2)
                case first =>
                  obtain ⟨am, ham⟩ : ∃ x : Nat, a2 - 1 = x := ⟨_, rfl⟩
                  obtain ⟨X, F, hX, hF, onto⟩ := class_of (fun v => Below wc.heap.size wc v) (Below.refl _ wc)
                  have HF : Hid (∀ y, Below wc.heap.size wc (F y)) := hF
                  have HO : Hid (∀ v, Below wc.heap.size wc v → ∃ x, v = F x) := fun v h => by obtain ⟨x, hx⟩ := onto v h; exact ⟨x, hx.symm⟩
                  by_cases hgd : 0 < a2
                  · have hgd' : (0 : Int) < (a2 : Int) := by omega
                    obtain ⟨xp, hxp⟩ := HS.out.at (i := am) (by omega)
                    obtain ⟨xq, hxq⟩ := HS.out.at (i := p) (by omega)
                    have cp : ∀ q, (F q).cell? ⟨g, am, none⟩ = some (.int .i32 xp.v) := fun q => (HS.out.below (hF q)).row.get hxp
                    have cq : ∀ q, (F q).cell? ⟨g, p, none⟩ = some (.int .i32 xq.v) := fun q => (HS.out.below (hF q)).row.get hxq
                    have tp : ((am : Nat) : Int) < (n : Int) := by omega
                    have tq : ((p : Nat) : Int) < (n : Int) := by omega
                    have kam : IntKind.i64.wrap ((a2 : Int) - 1) = (am : Int) := by rw [m1]; omega
                    clear m1
                    have HXP : Hid (zs[am]? = some xp ∧ zs[p]? = some xq ∧ a2 - 1 = am) := ⟨hxp, hxq, ham⟩
                    clear hxp hxq
                    go_upto_region 17 with fail
                    refine region_class F (by kernel_rfl) (by kernel_rfl) (by obtain ⟨x, hx⟩ := HO.out _ (Below.refl _ _).drew; exact ⟨x, hx.symm⟩) ?_
                    repeat (go_big_quiet_step (first | (go_at_call 97; with_reducible refine (less_any xp.v xq.v _).mono ?_; rintro e z5 ⟨rfl, rfl⟩; exact ⟨rfl, HO.out _ (HF.out _)⟩)))
                    clear cp cq
                    refine wpQuiet_nil ?_
                    rintro _ ⟨nq, rfl⟩
                    obtain ⟨z0, hz0⟩ : ∃ z, F nq = z := ⟨_, rfl⟩
                    have SZ : Hid (Lp B g n c a b w xs z0 zs a2 b2) := HS.out.below (hz0 ▸ HF.out nq)
                    rw [hz0]
                    clear hz0 HF HO HS hF onto
                    by_cases hlt : xp.v < xq.v
                    · rw [show decide (xp.v < xq.v) = true from decide_eq_true hlt]
                      go_wp2_with fail
                      go_meet
                      exact ⟨⟨_, rfl, fun h => by cases h⟩, SZ.out⟩
                    · rw [show decide (xp.v < xq.v) = false from decide_eq_false hlt]
                      go_wp2_with fail
                      go_meet
                      exact ⟨⟨_, rfl, fun _ => ⟨by omega, by rw [HXP.out.2.2, arr_get HXP.out.1, arr_get HXP.out.2.1]; exact ltI_not (by omega)⟩⟩, SZ.out⟩
                  · have hgd' : ¬ (0 : Int) < (a2 : Int) := by omega
                    go_upto_region 17 with fail
                    refine region_class F (by kernel_rfl) (by kernel_rfl) (by obtain ⟨x, hx⟩ := HO.out _ (Below.refl _ _).drew; exact ⟨x, hx.symm⟩) ?_
                    repeat (go_big_quiet_step (fail))
                    refine wpQuiet_nil ?_
                    rintro _ ⟨nq, rfl⟩
                    obtain ⟨z0, hz0⟩ : ∃ z, F nq = z := ⟨_, rfl⟩
                    have SZ : Hid (Lp B g n c a b w xs z0 zs a2 b2) := HS.out.below (hz0 ▸ HF.out nq)
                    rw [hz0]
                    clear hz0 HF HO HS hF onto
                    go_wp2_with fail
                    go_meet
                    exact ⟨⟨_, rfl, fun h => by cases h⟩, SZ.out⟩
                case rest =>
                  obtain ⟨⟨t87, rfl, ht87⟩, hS⟩ := hcut
                  have H87 : Hid (t87 = true → 0 < a2 ∧ ltI (arr zs)[a2 - 1]! (arr zs)[p]! = false) := ht87
                  clear ht87
                  clear HS m1
                  have HS : Hid (Lp B g n c a b w xs wc zs a2 b2) := hS
                  clear hS
                  cases t87 with
                  | true =>
                    go_wp2_with (go_at_call 98; (with_reducible refine (peqS_any B g n c a2 b2 p zs wc HS.out.row (by omega) (by omega) (by omega) hn).mono ?_); rintro e v1 ⟨mid, rfl, hmid, ys, hs1⟩; have S1 := hidI' (HS.out.equal hs1 hmid (H87.out rfl) (by omega) (by omega) (by omega)); clear hs1)
                    go_roundg (b2 - mid)
                    case measure => omega
                    case rel => exact ⟨mid, b2, L3, rfl, rfl, rfl, rfl, ⟨t8, rfl⟩, ⟨t9, rfl⟩, by omega, by omega, by omega, by omega, _, S1.out⟩
                  | false =>
                    obtain ⟨e8, he8⟩ : ∃ e : Nat, l / 8 = e := ⟨_, rfl⟩
                    have q1 : IntKind.i64.wrap ((l : Int).tdiv 8) = (e8 : Int) := by rw [Int.tdiv_eq_ediv_of_nonneg (by omega), IntWalk.i64_in _ ⟨by omega, by omega⟩]; omega
                    have q2 : IntKind.i64.wrap ((l : Int) / 8) = (e8 : Int) := by rw [IntWalk.i64_in _ ⟨by omega, by omega⟩]; omega
                    have PT : Hid (Calls Tryz.prog 99 #[.slice (some ⟨g, 0, none⟩) n c, .int .i64 (a2 : Int), .int .i64 (b2 : Int), .int .i64 (p : Int)] wc fun e w' => ∃ (j : Nat) (v : Value), e = .returned (.tuple #[.int .i64 (j : Int), v]) ∧ IsC v ∧ (a2 ≤ j ∧ j < b2) ∧ ∃ ys, Pe B g n c a2 b2 wc zs w' ys j) := (partS_any B g n c a2 b2 p zs wc HS.out.row (by omega) (by omega) (by omega) hn).mono (fun e w' ⟨j, t, h1, h2, h3⟩ => ⟨j, .bool t, h1, ⟨t, rfl⟩, h2, h3⟩)
                    go_upto_region 21 with (go_at_call 99; (with_reducible refine PT.out.mono ?_); rintro e v1 ⟨mid, bv, rfl, hbv, hmid, ys, hs1⟩; have S1 := hidI' hs1; have BP := hidI' (bel_part HS.out.bel hs1 hmid (by rw [arr_size, HS.out.row.len]; omega)); clear hs1)
                    clear PT
                    obtain ⟨x1, hx1⟩ : ∃ x : Nat, mid - a2 = x := ⟨_, rfl⟩
                    obtain ⟨x2, hx2⟩ : ∃ x : Nat, b2 - mid = x := ⟨_, rfl⟩
                    obtain ⟨m1, hm1⟩ : ∃ x : Nat, mid + 1 = x := ⟨_, rfl⟩
                    have r1 : IntKind.i64.wrap ((mid : Int) - (a2 : Int)) = (x1 : Int) := by rw [IntWalk.i64_in _ ⟨by omega, by omega⟩]; omega
                    have r2 : IntKind.i64.wrap ((b2 : Int) - (mid : Int)) = (x2 : Int) := by rw [IntWalk.i64_in _ ⟨by omega, by omega⟩]; omega
                    have r3 : IntKind.i64.wrap ((mid : Int) + 1) = (m1 : Int) := by rw [IntWalk.i64_in _ ⟨by omega, by omega⟩]; omega
                    have IL : Hid (Calls Tryz.prog 78 #[.slice (some ⟨g, 0, none⟩) n c, .int .i64 (a2 : Int), .int .i64 (mid : Int), .int .i64 (L3 : Int)] v1 fun e w' => (∃ x, e = .returned x) ∧ ∃ ys2, Si B g n c a2 mid v1 ys w' ys2 ∧ Go.Sort.SortedIn ltI a2 mid (arr ys2)) := IH.out B g n c a2 mid L3 ys v1 S1.out.row BP.out.1 (by omega) (by omega) (by omega) (by omega) hn
                    have IR : Hid (Calls Tryz.prog 78 #[.slice (some ⟨g, 0, none⟩) n c, .int .i64 (m1 : Int), .int .i64 (b2 : Int), .int .i64 (L3 : Int)] v1 fun e w' => (∃ x, e = .returned x) ∧ ∃ ys2, Si B g n c m1 b2 v1 ys w' ys2 ∧ Go.Sort.SortedIn ltI m1 b2 (arr ys2)) := IH.out B g n c m1 b2 L3 ys v1 S1.out.row (hm1 ▸ BP.out.2) (by omega) (by omega) (by omega) (by omega) hn
                    have HQ : Hid (mid - a2 = x1 ∧ b2 - mid = x2 ∧ mid + 1 = m1) := ⟨hx1, hx2, hm1⟩
                    clear hx1 hx2 hm1
                    by_cases hlr : x1 < x2
                    · have hlr' : (x1 : Int) < (x2 : Int) := by omega
                      go_wp2_with (go_at_call 78; (with_reducible refine (IL.out).mono ?_); rintro e v2 ⟨⟨x, rfl⟩, ys2, hs2, ho2⟩; have S2 : Hid (Lp B g n c a b w xs v2 ys2 m1 b2) := HQ.out.2.2 ▸ HS.out.left S1.out hs2 ho2 hmid (by omega) (by omega) (by omega); clear hs2 ho2)
                      go_roundg (b2 - m1)
                      case measure => have := HQ.out; omega
                      case rel => exact ⟨m1, b2, L3, rfl, rfl, rfl, rfl, ⟨_, rfl⟩, hbv, by have := HQ.out; omega, by have := HQ.out; omega, by omega, by omega, _, S2.out⟩
                    · have hlr' : ¬ (x1 : Int) < (x2 : Int) := by omega
                      go_wp2_with (go_at_call 78; (with_reducible refine (IR.out).mono ?_); rintro e v2 ⟨⟨x, rfl⟩, ys2, hs2, ho2⟩; have S2 : Hid (Lp B g n c a b w xs v2 ys2 a2 mid) := HS.out.right S1.out (HQ.out.2.2.symm ▸ hs2) (HQ.out.2.2.symm ▸ ho2) hmid (by omega) (by omega) (by omega); clear hs2 ho2)
                      go_roundg (mid - a2)
                      case measure => omega
                      case rel => exact ⟨a2, mid, L3, rfl, rfl, rfl, rfl, ⟨_, rfl⟩, hbv, by omega, by omega, by omega, by omega, _, S2.out⟩
end Go.Proofs.YtgijcbipnjmhgabGreat
