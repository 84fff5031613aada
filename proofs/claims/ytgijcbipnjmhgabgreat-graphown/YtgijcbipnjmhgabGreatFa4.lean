import Derived.Test.YtgijcbipnjmhgabGreatCy1
import Derived.Test.YtgijcbipnjmhgabGreatFa2
namespace Go.Proofs.YtgijcbipnjmhgabGreat
set_option linter.unusedVariables false
set_option linter.unusedSimpArgs false

/-- one of S that may stand behind these -/
def Rdn (S : Int → Prop) (R : Int → Int → Prop) (ps : List Int) (x : Int) : Prop := S x ∧ x ∉ ps ∧ ∀ z, R x z → z ∈ ps
/-- always the lowest, until none may come -/
structure Gn (S : Int → Prop) (R : Int → Int → Prop) (os : List Int) : Prop where
  gd : ∀ ps x qs, os = ps ++ x :: qs → Rdn S R ps x ∧ ∀ y, Rdn S R ps y → x ≤ y
  no : ∀ x, ¬ Rdn S R os x
theorem Gn.same {S : Int → Prop} {R : Int → Int → Prop} {os os' : List Int} (h : Gn S R os) (k : Gn S R os') : ∀ a ps b : List Int, os = ps ++ a → os' = ps ++ b → a = b
  | [], ps, [], _, _ => rfl
  | [], ps, y :: b, e1, e2 => by
    have h1 := (k.gd ps y b e2).1
    rw [List.append_nil] at e1
    rw [← e1] at h1
    exact absurd h1 (h.no y)
  | x :: a, ps, [], e1, e2 => by
    have h1 := (h.gd ps x a e1).1
    rw [List.append_nil] at e2
    rw [← e2] at h1
    exact absurd h1 (k.no x)
  | x :: a, ps, y :: b, e1, e2 => by
    have h1 := h.gd ps x a e1
    have h2 := k.gd ps y b e2
    have h3 := h1.2 y h2.1
    have h4 := h2.2 x h1.1
    have e : x = y := by omega
    subst e
    rw [Gn.same h k a (ps ++ [x]) b (by rw [e1]; simp) (by rw [e2]; simp)]
theorem Gn.uniq {S : Int → Prop} {R : Int → Int → Prop} {os os' : List Int} (h : Gn S R os) (k : Gn S R os') : os = os' := Gn.same h k os [] os' rfl rfl
theorem Gn.congr {S S' : Int → Prop} {R R' : Int → Int → Prop} {os : List Int} (h : Gn S R os) (hS : ∀ x, S x ↔ S' x) (hR : ∀ x, S x → ∀ z, R x z ↔ R' x z) : Gn S' R' os := by
  have key : ∀ ps x, Rdn S R ps x ↔ Rdn S' R' ps x := fun ps x => by
    unfold Rdn
    constructor
    · rintro ⟨a, b, c⟩; exact ⟨(hS x).1 a, b, fun z hz => c z ((hR x a z).2 hz)⟩
    · rintro ⟨a, b, c⟩; exact ⟨(hS x).2 a, b, fun z hz => c z ((hR x ((hS x).2 a) z).1 hz)⟩
  exact ⟨fun ps x qs e => ⟨(key ps x).1 (h.gd ps x qs e).1, fun y hy => (h.gd ps x qs e).2 y ((key ps y).2 hy)⟩, fun x hx => h.no x ((key os x).2 hx)⟩
/-- a part of them that needs nothing else -/
theorem Gn.filter {S : Int → Prop} {R : Int → Int → Prop} {os : List Int} (h : Gn S R os) (P : Int → Bool) (hP : ∀ x, S x → P x = true → ∀ z, R x z → P z = true) : Gn (fun x => S x ∧ P x = true) R (os.filter P) := by
  have key : ∀ ps x, Rdn (fun x => S x ∧ P x = true) R (ps.filter P) x ↔ Rdn S R ps x ∧ P x = true := fun ps x => by
    unfold Rdn
    constructor
    · rintro ⟨⟨a, p⟩, b, c⟩
      exact ⟨⟨a, fun hm => b (List.mem_filter.2 ⟨hm, p⟩), fun z hz => (List.mem_filter.1 (c z hz)).1⟩, p⟩
    · rintro ⟨⟨a, b, c⟩, p⟩
      exact ⟨⟨a, p⟩, fun hm => b (List.mem_filter.1 hm).1, fun z hz => List.mem_filter.2 ⟨c z hz, hP x a p z hz⟩⟩
  refine ⟨fun ps x qs e => ?_, fun x hx => h.no x ((key os x).1 hx).1⟩
  obtain ⟨l1, l2, e1, e2, e3⟩ := List.filter_eq_append_iff.1 e
  obtain ⟨m1, m2, e4, e5, hpx, e6⟩ := List.filter_eq_cons_iff.1 e3
  have hm1 : m1.filter P = [] := List.filter_eq_nil_iff.2 (fun a ha => e5 a ha)
  have hsp : os = (l1 ++ m1) ++ x :: m2 := by rw [e1, e4, List.append_assoc]
  have hf : (l1 ++ m1).filter P = ps := by rw [List.filter_append, e2, hm1, List.append_nil]
  have h1 := h.gd _ _ _ hsp
  rw [← hf]
  exact ⟨(key _ x).2 ⟨h1.1, hpx⟩, fun y hy => h1.2 y ((key _ y).1 hy).1⟩
/-- lineUp's answer -/
theorem Ln.gn {ps : List Pr} {n : Nat} {N : Nat → List Int} {os : List Int} (hN : LstR n ps N) (hl : Ln N n os) : Gn (fun x => 0 ≤ x ∧ x < (n : Int)) (fun x z => (⟨x, z⟩ : Pr) ∈ ps) os := by
  have key : ∀ qs x, Rdy N n qs x ↔ Rdn (fun x => 0 ≤ x ∧ x < (n : Int)) (fun x z => (⟨x, z⟩ : Pr) ∈ ps) qs x := fun qs x => by
    unfold Rdy Rdn
    constructor
    · rintro ⟨a, b, c, d⟩
      refine ⟨⟨a, b⟩, c, fun z hz => d z (((hN x.toNat (by omega)).2 z).2 ?_)⟩
      rw [show ((x.toNat : Nat) : Int) = x by omega]; exact hz
    · rintro ⟨⟨a, b⟩, c, d⟩
      refine ⟨a, b, c, fun z hz => d z ?_⟩
      have := ((hN x.toNat (by omega)).2 z).1 hz
      rwa [show ((x.toNat : Nat) : Int) = x by omega] at this
  exact ⟨fun qs x rs e => ⟨(key qs x).1 (hl.gd qs x rs e).1, fun y hy => (hl.gd qs x rs e).2 y ((key qs y).2 hy)⟩, fun x hx => hl.no x ((key os x).2 hx)⟩
end Go.Proofs.YtgijcbipnjmhgabGreat

namespace Go.Proofs.YtgijcbipnjmhgabGreat
open Go.ChangeShapes Go.WideShapes Go.ChangeAt Go.RowKit
set_option linter.unusedVariables false
set_option linter.unusedSimpArgs false

/-- where the way goes on: the next one, and what the list will be -/
def Nx (ps : List Pr) (f : Nat) (cs : List Int) (x : Nat) : Prop := (x = f → Cyc ps f f cs) ∧ (x ≠ f → ∀ l, Cyc ps f x l → Cyc ps f f (cs ++ (x : Int) :: l))
theorem Nx.start {ps : List Pr} {f x : Nat} (h : Nst ps f f x) : Nx ps f [] x :=
  ⟨fun e => by subst e; exact .fin h, fun e l hl => .more h e hl⟩
theorem Nx.step {ps : List Pr} {f x y : Nat} {cs : List Int} (h : Nx ps f cs x) (hx : x ≠ f) (hy : Nst ps f x y) : Nx ps f (cs ++ [(x : Int)]) y :=
  ⟨fun e => by subst e; exact h.2 hx [] (.fin hy), fun e l hl => by rw [List.append_assoc]; exact h.2 hx _ (.more hy e hl)⟩
theorem Fr.go {ps : List Pr} {n f x m : Nat} {F : Nat → Nat} {l : List Int} (hF : Fr ps n f F) (hl : ∀ z, z ∈ l ↔ (⟨(x : Int), z⟩ : Pr) ∈ ps) (hr : ∀ y ∈ l, 0 ≤ y ∧ y < (n : Int)) (hM : Mf F l l.length m) (hw : ∃ z k, Eg ps x z ∧ Wy ps f k z) : m < n ∧ F m < n ∧ Nst ps f x m ∧ Ds ps f m (F m) := by
  have hm : (m : Int) ∈ l := List.mem_of_mem_take hM.mem
  have hmn := hr _ hm
  have h1 := hF.nst hl hm (by omega) (fun z hz => hM.min z (by rw [List.take_length]; exact hz)) hw
  exact ⟨by omega, (hF.wy m _ h1.2.1).2, h1⟩
theorem Fr.some {ps : List Pr} {n f x : Nat} {F : Nat → Nat} (hx : Ds ps f x (F x)) (hne : x ≠ f) : ∃ z k, Eg ps x z ∧ Wy ps f k z := by
  cases hd : F x with
  | zero => rw [hd] at hx; exact absurd hx.zero hne
  | succ d =>
    rw [hd] at hx
    obtain ⟨z, he, hz⟩ := hx.next
    exact ⟨z, d, he, hz.1⟩
theorem Fr.dec {ps : List Pr} {n f x m : Nat} {F : Nat → Nat} {l : List Int} (hF : Fr ps n f F) (hl : ∀ z, z ∈ l ↔ (⟨(x : Int), z⟩ : Pr) ∈ ps) (hM : Mf F l l.length m) (hx : Ds ps f x (F x)) (hne : x ≠ f) (hm : Ds ps f m (F m)) : F m + 1 = F x := by
  have he : Eg ps x m := (hl _).1 (List.mem_of_mem_take hM.mem)
  have h1 := hx.2 _ (.cons he hm.1)
  cases hd : F x with
  | zero => rw [hd] at hx; exact absurd hx.zero hne
  | succ d =>
    rw [hd] at hx
    obtain ⟨z, hez, hz⟩ := hx.next
    have h2 := hF.wy z d hz.1
    have h3 := (hF.ds z h2.1 (by omega)).uniq hz
    have h4 := (hM.min z (by rw [List.take_length]; exact (hl _).2 hez)).1
    omega
set_option maxRecDepth 1000000 in
set_option maxHeartbeats 4000000 in
theorem cycle_any (gV gD n : Nat) (N D : Nat → List Int) (ps qs : List Pr) (w : World) (hN : Rl w.heap.size w gV n N) (hD : Rl w.heap.size w gD n D) (hA : LstR n ps N) (hA2 : LstR n qs D) (hq : Trn ps qs) (hps : ∀ p ∈ ps, (0 ≤ p.a ∧ p.a < (n : Int)) ∧ (0 ≤ p.b ∧ p.b < (n : Int))) (hqs : ∀ p ∈ qs, (0 ≤ p.a ∧ p.a < (n : Int)) ∧ (0 ≤ p.b ∧ p.b < (n : Int))) (hn : n ≤ 131072) (hex : ∃ x, OnC ps x) :
    Calls Tryz.prog 21 #[.slice (some ⟨gV, 0, none⟩) n n, .slice (some ⟨gD, 0, none⟩) n n] w fun e w' => ∃ v, e = .returned v ∧ Below w.heap.size w w' ∧ ∃ (f : Nat) (l : List Int), w'.ownsRow w.heap.size 3 1 v ((f : Int) :: l).length (flat ((f : Int) :: l)) ∧ Fst ps f ∧ Cyc ps f f l := by
  have hmf : ∀ (fn : Fn) (first cap : Array Value) (w : World), (Instr.makeFunc fn first cap).run Tryz.prog w = .ok (.func fn first cap) w := fun _ _ _ _ => rfl
  obtain ⟨i0, hi0, hz0, hz1, hz2⟩ := info_parts infoIntH
  have hn0 : 0 < n := by
    obtain ⟨x, z, he, -⟩ := hex
    have := hps _ he
    simp only at this
    omega
  have HN := hidH hN
  have HD := hidH hD
  have HA := hidH hA
  have HA2 := hidH hA2
  have HQ := hidH hq
  have HPS := hidH hps
  have HQS := hidH hqs
  have HEX := hidH hex
  clear hN hD hA hA2 hq hps hqs hex
  go_enter Tryz.func21, Tryz.ntmps21
  go_upto_region 1 with fail
  obtain ⟨w1, e1, hb1, hs1, X1⟩ := bx1 w #[.slice (some ⟨gV, 0, none⟩) n n] 55
  obtain ⟨B, hB⟩ : ∃ B, w.heap.size = B := ⟨_, rfl⟩
  rw [e1]
  rw [hB] at HN HD X1 hb1 hs1 ⊢
  have c1 := X1.one
  have HC1 := hidH c1
  have HB1 := hidH hb1
  have HS1 := hidH hs1
  have hlt1 : B < w1.heap.size := by omega
  have hdr : Below w1.heap.size w1 w1.drew := ⟨rfl, rfl, rfl, Nat.le_refl _, fun _ _ => rfl⟩
  have hbd : Below B w w1.drew := hb1.trans (hdr.mono (by omega))
  have HDR := hidH hdr
  have LO := hidH (lowests_any gV gD n N D ps qs w1.drew ((HN.out.below hbd).up (Nat.le_of_lt hlt1)) ((HD.out.below hbd).up (Nat.le_of_lt hlt1)) (HA.out.lst hn (fun p hp => (HPS.out p hp).2)) (HA2.out.lst hn (fun p hp => (HQS.out p hp).2)) HQ.out (fun p hp => (HPS.out p hp).2) (fun p hp => (HQS.out p hp).2) hn)
  have OC : Hid (∀ (L : Value) (ls : List Int) (w2 : World), w2.ownsRow w1.drew.heap.size 3 1 L n (flat ls) → Below w1.drew.heap.size w1.drew w2 → (∀ y : Nat, y < n → ∃ z : Nat, ls[y]? = some (z : Int) ∧ Low ps y z) → Calls Tryz.prog 48 #[.slice (some ⟨gV, 0, none⟩) n n, L] w2 fun e w' => Below w2.heap.size w2 w' ∧ ∃ f : Nat, e = .returned (.int .i64 (f : Int)) ∧ f < n ∧ Fst ps f) := fun L ls w2 ho hb hlow => by
    obtain ⟨lw, hlw, hlv⟩ := lws_of HPS.out hlow
    obtain ⟨aL, cL, rfl, haL, -⟩ := own_slice ho
    obtain ⟨gL, rfl⟩ := haL hn0
    have hb2 : Below B w w2 := hbd.trans (hb.mono (Nat.le_of_lt hlt1))
    exact onCycle_any gV gL n cL N lw ps w2 ((HN.out.below hb2).up (Nat.le_trans (Nat.le_of_lt hlt1) hb.size)) HA.out ⟨(ho.lt gL rfl).2, fun y hy => (row_cell ho (hlv y hy)).1⟩ hlw HEX.out hn
  clear e1 hb1 hs1 X1 hdr hbd
  go_cut [5] (fun sl wc => ∃ f : Nat, sl = .int .i64 (f : Int) ∧ f < n ∧ Fst ps f ∧ Below w1.heap.size w1 wc)
  case first =>
    go_region_with (first
      | (go_at_call 22; (with_reducible refine LO.out.mono ?_); clear LO; rintro e w2 ⟨L, ls, rfl, hoL, hb2, hlow⟩; have c2 := (hb2.cell (p := ⟨B, 0, none⟩) hlt1).trans c1; have OC2 := hidH (OC.out L ls w2 hoL hb2 hlow); have HB2 := hidH (HDR.out.trans hb2); clear hoL hb2 hlow OC)
      | (go_at_call 48; (with_reducible refine OC2.out.mono ?_); clear OC2; rintro e w3 ⟨hb3, f, rfl, hfn, hF⟩; have HB3 := hidH (HB2.out.trans (hb3.mono HB2.out.size)); have HF := hidH hF; have HFN := hidH hfn; clear hb3 hF hfn))
    all_goals
      go_wp2_with fail
      go_meet
      exact ⟨_, rfl, HFN.out, HF.out, HB3.out⟩
  case rest =>
    obtain ⟨f, rfl, hfn, hF, hbw⟩ := hcut
    have HF := hidH hF
    have HBW := hidH hbw
    obtain ⟨w4, hw4⟩ : ∃ w4, w4 = wc := ⟨wc, rfl⟩
    subst hw4
    have hb4 : Below B w w4 := HB1.out.trans (hbw.mono (Nat.le_of_lt hlt1))
    have hlt4 : B < w4.heap.size := Nat.lt_of_lt_of_le hlt1 hbw.size
    have hDm : ∀ x, x < n → (D x).length ≤ n ∧ ∀ y, y ∈ D x ↔ (⟨y, (x : Int)⟩ : Pr) ∈ ps := fun x hx =>
      ⟨nodup_le (pw_nodup (HA2.out x hx).1) (fun y hy => (HQS.out _ (((HA2.out x hx).2 y).1 hy)).2), fun y => ((HA2.out x hx).2 y).trans (HQ.out _ _)⟩
    have FF := hidH (farFrom_any gD n f D ps w4 ((HD.out.below hb4).up (Nat.le_of_lt hlt4)) hDm HPS.out hfn hn)
    have HB4 := hidH hb4
    clear LO OC hF hbw hb4 hDm c1
    go_upto_region 3 with (first
      | (go_at_call 49; (with_reducible refine FF.out.mono ?_); clear FF; rintro e w5 ⟨rfl, hb5, F, ho5, hFr⟩; have HB5 := hidH hb5; have OF := hidH ho5; have FR := hidH hFr; clear hb5 ho5 hFr))
    obtain ⟨gF, hgF⟩ : ∃ gF, w4.heap.size = gF := ⟨_, rfl⟩
    obtain ⟨bF, hbF⟩ : ∃ bF, w5.heap.size = bF := ⟨_, rfl⟩
    obtain ⟨w6, e6, hb6, hs6, X6⟩ := bx1 w5 #[.slice (some ⟨gF, 0, none⟩) n n] 32
    rw [hgF] at OF ⊢
    rw [e6, hbF]
    have hgb := (OF.out.lt gF rfl).2
    have h45 := HB5.out.size
    have CF : Hid (Cf2 w6.heap.size bF gF n F w6) := ⟨by omega, by omega, by rw [← hbF]; exact X6.one, fun y hy => (hb6.cell (p := ⟨gF, y, none⟩) hgb).trans (row_cell OF.out (fL_get F hy)).1⟩
    have HB6 : Hid (Below B w w6) := HB4.out.trans ((HB5.out.trans (hb6.mono h45)).mono (Nat.le_of_lt hlt4))
    have CN : Hid (Cn2 w6.heap.size B gV n N w6) := by
      refine ⟨by omega, ?_, (HN.out.below HB6.out).up (by omega)⟩
      have h1 : Below w1.heap.size w1 w6 := HBW.out.trans ((HB5.out.trans (hb6.mono h45)).mono HBW.out.size)
      exact (h1.cell (p := ⟨B, 0, none⟩) hlt1).trans HC1.out
    obtain ⟨C, hC⟩ : ∃ C, w6.heap.size = C := ⟨_, rfl⟩
    have HCE := hidH hC
    have hBC : B ≤ C := by omega
    rw [hC] at CF CN
    have NS : Hid (∀ (x : Nat) (wq : World), x < n → (∃ z k, Eg ps x z ∧ Wy ps f k z) → Below C w6 wq → Calls Tryz.prog 50 #[.int .i64 (x : Int), .pointer (some ⟨B, 0, none⟩), .pointer (some ⟨bF, 0, none⟩)] wq fun e w' => Below wq.heap.size wq w' ∧ ∃ m : Nat, e = .returned (.int .i64 (m : Int)) ∧ Mf F (N x) (N x).length m) := fun x wq hx hw hq => by
      refine nearest_any C B gV bF gF n x F N wq (by have := hq.size; have := HCE.out; omega) (CN.out.below hq) (CF.out.below hq) hx (HA.out x hx).1 (fun y hy => (HPS.out _ (((HA.out x hx).2 y).1 hy)).2) ?_ hn
      intro e
      obtain ⟨z, k, he, -⟩ := hw
      have := ((HA.out x hx).2 _).2 he
      rw [e] at this
      cases this
    have GO : Hid (∀ x m : Nat, x < n → Mf F (N x) (N x).length m → (∃ z k, Eg ps x z ∧ Wy ps f k z) → m < n ∧ F m < n ∧ Nst ps f x m ∧ Ds ps f m (F m)) := fun x m hx hM hw => FR.out.go (HA.out x hx).2 (fun y hy => (HPS.out _ (((HA.out x hx).2 y).1 hy)).2) hM hw
    have HWF : Hid (∃ z k, Eg ps f z ∧ Wy ps f k z) := by
      obtain ⟨z, he, hr⟩ := HF.out.1
      obtain ⟨k, hk⟩ := hr.wy
      exact ⟨z, k, he, hk⟩
    have h6r := hidH (Below.refl C w6)
    clear e6 hb6 hs6 X6 CF CN OF
    go_upto_region 5 with fail
    obtain ⟨w7, e7, hb7, hs7, X7⟩ := bx1 w6 #[.int .i64 (f : Int)] 3
    have OO : Hid (w7.ownsRow C 3 1 (.slice (some ⟨C, 0, none⟩) 1 1) ([(f : Int)]).length (flat [(f : Int)])) := by
      have h1 := own_one C w6 (.int .i64 (f : Int)) 3 (by omega)
      rw [e7, hC] at h1
      exact h1
    have E7 : Hid (Below C w6 w7) := by rw [hC] at hb7; exact hb7
    have N7 := hidH (NS.out f w7 hfn HWF.out E7.out)
    rw [e7]
    clear hb7 hs7 X7 e7 h6r
    go_upto_region 6 with (first
      | (go_at_call 50; (with_reducible refine N7.out.mono ?_); clear N7; rintro e w8 ⟨hb8, m, rfl, hM⟩; have G8 := hidH (GO.out f m hfn hM HWF.out); have O8 := hidH (own_belowR OO.out hb8 (Nat.le_refl _)); have E8 := hidH (E7.out.trans (hb8.mono (by have := E7.out.size; have := HCE.out; omega))); clear hb8 hM))
    go_wp2
    go_loopg [8, 9] (F m) (fun gk s8 s9 wr => ∃ (x : Nat) (cs : List Int) (V : Value), gk = F x ∧ s8 = V ∧ s9 = .int .i64 (x : Int) ∧ x < n ∧ F x + cs.length + 1 ≤ n ∧ wr.ownsRow C 3 1 V ((f : Int) :: cs).length (flat ((f : Int) :: cs)) ∧ Nx ps f cs x ∧ Ds ps f x (F x) ∧ Below C w6 wr)
    case atStart => exact ⟨m, [], _, rfl, rfl, rfl, G8.out.1, by have := G8.out.2.1; simp; omega, O8.out, Nx.start G8.out.2.2.1, G8.out.2.2.2, E8.out⟩
    case round =>
      clear O8 E8 G8 OO E7
      obtain ⟨x, cs, V, hgk, rfl, rfl, hxn, hlen, hO, hNx, hDs, hE⟩ := hrel
      have OO := hidH hO
      have NX := hidH hNx
      have DS := hidH hDs
      have EE := hidH hE
      have HGK := hidH hgk
      clear hO hNx hDs hE hgk
      by_cases hxf : x = f
      · subst hxf
        go_wp2
        go_ret
        exact ⟨_, rfl, by rw [hB]; exact HB6.out.trans (EE.out.mono hBC), x, cs, by rw [hB]; exact own_lower OO.out hBC, HF.out, NX.out.1 rfl⟩
      · have hxf1 : ((x : Int) == (f : Int)) = false := by rw [beq_eq_false_iff_ne]; omega
        have hxf2 : ¬ (x : Int) = (f : Int) := by omega
        obtain ⟨aV, cV, hV, -, -⟩ := own_slice OO.out
        subst hV
        obtain ⟨q, hq⟩ : ∃ q, ((f : Int) :: cs).length = q := ⟨_, rfl⟩
        have hqn : q + F x ≤ n := by rw [← hq, List.length_cons]; omega
        have HQL := hidH hq
        obtain ⟨zA, eA, hbA, hsA, BA⟩ := bx1 wr #[.int .i64 (x : Int)] 3
        have OA : Hid (zA.ownsRow C 3 1 (.slice aV q cV) q (flat ((f : Int) :: cs))) := by have h9 := own_belowR OO.out hbA (Nat.le_refl _); rw [hq] at h9; exact h9
        have hCw : C ≤ wr.heap.size := by have := EE.out.size; have := HCE.out; omega
        have EA := hidH (EE.out.trans (hbA.mono hCw))
        have NA : Hid (∀ j u, [Value.int .i64 (x : Int)][j]? = some u → zA.cell? ((⟨wr.heap.size, 0, none⟩ : Addr).add j) = some u) := by unfold Hid; rw [← eA]; exact cells_newH wr [Value.int .i64 (x : Int)] 3
        have HEA := hidH eA
        have HSA := hidH hsA
        have hBA : C ≤ zA.heap.size := by omega
        have hxs := hidH (Fr.some (n := n) DS.out hxf)
        rw [hq]
        clear eA hbA hsA BA hq OO
        go_wp2_with (first
          | (at_builtin; rw [HEA.out]; refine wpList_append_lies _ rfl _ _ 32 rfl C 3 i0 (.int .i64 0) 1 8 Tryz.underlying32 hi0 hz0 hz1 hz2 rfl (by decide) (.slice aV q cV) q (flat ((f : Int) :: cs)) rfl OA.out ⟨wr.heap.size, 0, none⟩ 1 1 [Value.int .i64 (x : Int)] rfl rfl NA.out (by intro u hu; simp at hu; subst hu; rfl) (by decide) (by unfold maxLen; omega) (by omega) hBA (wr.heap.size + 1) HSA.out ?_; intro gg cp w9 hown9 hgrow9 hat9 hlt9; have O9 : Hid (w9.ownsRow C 3 1 (.slice (some ⟨gg, 0, none⟩) (q + 1) cp) ((f : Int) :: (cs ++ [(x : Int)])).length (flat ((f : Int) :: (cs ++ [(x : Int)])))) := (by unfold Hid; rw [← List.cons_append, flat_append, List.length_append, List.length_singleton, HQL.out]; exact hown9); have E9 : Hid (Below C w6 w9) := (EA.out.grown hgrow9 (by have := EA.out.size; have := HCE.out; omega) (fun g e => (OA.out.lt g e).1)); have N9 := hidH (NS.out x w9 hxn hxs.out E9.out); clear hown9 hgrow9 hat9 hlt9)
          | (go_at_call 50; (with_reducible refine N9.out.mono ?_); clear N9; rintro e wN ⟨hbN, m2, rfl, hM⟩; have G9 := hidH (GO.out x m2 hxn hM hxs.out); have D9 := hidH (FR.out.dec (HA.out x hxn).2 hM DS.out hxf G9.out.2.2.2); have OB := hidH (own_belowR O9.out hbN (Nat.le_refl _)); have EB := hidH (E9.out.trans (hbN.mono (by have := E9.out.size; have := HCE.out; omega))); clear hbN hM))
        go_roundg (F m2)
        case measure => have := D9.out; have := HGK.out; omega
        case rel => exact ⟨m2, cs ++ [(x : Int)], _, rfl, rfl, rfl, G9.out.1, by have := D9.out; rw [List.length_append, List.length_singleton]; omega, OB.out, NX.out.step hxf G9.out.2.2.1, G9.out.2.2.2, EB.out⟩
end Go.Proofs.YtgijcbipnjmhgabGreat

namespace Go.Proofs.YtgijcbipnjmhgabGreat
open Go.ChangeShapes Go.WideShapes Go.ChangeAt Go.RowKit
set_option linter.unusedVariables false
set_option linter.unusedSimpArgs false

set_option maxRecDepth 1000000 in
set_option maxHeartbeats 2000000 in
theorem order_bad (n : Int) (a : Option Addr) (cap : Nat) (ps : List Pr) (w : World) (hL : LiesA w a ps) (hm : ps.length ≤ 8796093022208) (h : things n ps = false) :
    Calls Tryz.prog 5 #[.int .i64 n, .slice a ps.length cap] w fun e w' => e = .returned (.tuple #[.slice none 0 0, .slice none 0 0, .int .i64 1]) ∧ Below w.heap.size w w' := by
  have AT : Hid (Calls Tryz.prog 17 #[.int .i64 n, .slice a ps.length cap] w fun e w' => e = .returned (.bool (things n ps)) ∧ Below w.heap.size w w') := areThings_any n a cap ps w hL (by omega)
  rw [h] at AT
  go_enter Tryz.func5, Tryz.ntmps5
  go_wp2_with (go_at_call 17; (with_reducible refine AT.out.mono ?_); rintro e v1 ⟨rfl, hb1⟩; have HB1 : Hid (Below w.heap.size w v1) := hb1; clear hb1)
  go_ret3
  exact ⟨rfl, HB1.out⟩
set_option maxRecDepth 1000000 in
set_option maxHeartbeats 4000000 in
theorem order_yes (n cap : Nat) (a : Option Addr) (ps : List Pr) (w : World) (hL : LiesA w a ps) (hm : ps.length ≤ 8796093022208) (ht : things (n : Int) ps = true) (hno : ∀ x, ¬ OnC ps x) :
    Calls Tryz.prog 5 #[.int .i64 (n : Int), .slice a ps.length cap] w fun e w' => ∃ v, e = .returned (.tuple #[v, .slice none 0 0, .int .i64 0]) ∧ Below w.heap.size w w' ∧ ∃ N os, LstR n ps N ∧ Ln N n os ∧ os.length = n ∧ w'.ownsRow w.heap.size 3 1 v os.length (flat os) := by
  obtain ⟨hn, hps⟩ := things_spec ht
  have HL := hidH hL
  have HPS := hidH hps
  have HNO := hidH hno
  have AT : Hid (Calls Tryz.prog 17 #[.int .i64 (n : Int), .slice a ps.length cap] w fun e w' => e = .returned (.bool true) ∧ Below w.heap.size w w') := by unfold Hid; rw [← ht]; exact areThings_any (n : Int) a cap ps w hL (by omega)
  clear hL hps ht hno
  go_enter Tryz.func5, Tryz.ntmps5
  go_upto_region 5 with (first
    | (go_at_call 17; (with_reducible refine AT.out.mono ?_); rintro e v1 ⟨rfl, hb1⟩; have HB1 := hidH hb1; have LS1 := hidH (listsR_any n cap a ps v1 (HL.out.below hb1) hn (by omega) HPS.out); clear hb1)
    | (go_at_call 18; (with_reducible refine LS1.out.mono ?_); clear LS1; rintro e w1 ⟨rfl, hb2, N, hrN, hlN⟩; have HB2 := hidH (HB1.out.trans (hb2.mono HB1.out.size)); have RN := hidH hrN; have LN := hidH hlN; have TU := hidH (turned_any a cap ps w1 (HL.out.below HB2.out) hm); clear hb2 hrN hlN HB1)
    | (go_at_call 19; (with_reducible refine TU.out.mono ?_); clear TU; rintro e w2 ⟨rfl, hb3, hli⟩; have HB3 := hidH (HB2.out.trans (hb3.mono HB2.out.size)); have RN2 := hidH (RN.out.below hb3); have LS2 := hidH (listsR_any n ps.length (some ⟨w1.heap.size, 0, none⟩) (ps.map swapP) w2 (.inr ⟨_, _, rfl, hli⟩) hn (by rw [List.length_map]; omega) (swap_rng HPS.out)); rw [List.length_map] at LS2; have HZ2 := hidH hb3.size; clear hb3 hli HB2 RN)
    | (go_at_call 18; (with_reducible refine LS2.out.mono ?_); clear LS2; rintro e w3 ⟨rfl, hb4, D, hrD, hlD⟩; have HB4 := hidH (HB3.out.trans (hb4.mono HB3.out.size)); have LU := hidH (lineUp_any _ _ n N D w3 ((RN2.out.below (hb4.mono HZ2.out)).up (Nat.le_trans HZ2.out hb4.size)) hrD (LN.out.bth hlD (trn_swap ps) HPS.out) hn); clear hb4 hrD hlD HB3 RN2 HZ2)
    | (go_at_call 20; (with_reducible refine LU.out.mono ?_); clear LU; rintro e w4 ⟨O, os, rfl, hoO, hb5, hln⟩; have HB5 := hidH (HB4.out.trans (hb5.mono HB4.out.size)); have OO := hidH (own_lower hoO HB4.out.size); have LNN := hidH hln; clear hoO hb5 hln HB4))
  have hfull : os.length = n := (full_iff LNN.out.nod LNN.out.rng).2 fun x hx => all_in HPS.out LN.out LNN.out HNO.out _ x hx (Nat.le_refl _)
  obtain ⟨aO, cO, hO, -, -⟩ := own_slice OO.out
  subst hO
  have HFU := hidH hfull
  rw [hfull]
  clear hfull
  go_wp2
  go_ret3
  exact ⟨_, rfl, HB5.out, N, os, LN.out, LNN.out, HFU.out, by have h9 := OO.out; rw [HFU.out] at h9 ⊢; exact h9⟩
set_option maxRecDepth 1000000 in
set_option maxHeartbeats 4000000 in
theorem order_cyc (n cap : Nat) (a : Option Addr) (ps : List Pr) (w : World) (hL : LiesA w a ps) (hm : ps.length ≤ 8796093022208) (ht : things (n : Int) ps = true) (hex : ∃ x, OnC ps x) :
    Calls Tryz.prog 5 #[.int .i64 (n : Int), .slice a ps.length cap] w fun e w' => ∃ v, e = .returned (.tuple #[.slice none 0 0, v, .int .i64 73]) ∧ Below w.heap.size w w' ∧ ∃ (f : Nat) (l : List Int), w'.ownsRow w.heap.size 3 1 v ((f : Int) :: l).length (flat ((f : Int) :: l)) ∧ Fst ps f ∧ Cyc ps f f l := by
  obtain ⟨hn, hps⟩ := things_spec ht
  have HL := hidH hL
  have HPS := hidH hps
  have HEX := hidH hex
  have AT : Hid (Calls Tryz.prog 17 #[.int .i64 (n : Int), .slice a ps.length cap] w fun e w' => e = .returned (.bool true) ∧ Below w.heap.size w w') := by unfold Hid; rw [← ht]; exact areThings_any (n : Int) a cap ps w hL (by omega)
  clear hL hps ht hex
  go_enter Tryz.func5, Tryz.ntmps5
  go_upto_region 5 with (first
    | (go_at_call 17; (with_reducible refine AT.out.mono ?_); rintro e v1 ⟨rfl, hb1⟩; have HB1 := hidH hb1; have LS1 := hidH (listsR_any n cap a ps v1 (HL.out.below hb1) hn (by omega) HPS.out); clear hb1)
    | (go_at_call 18; (with_reducible refine LS1.out.mono ?_); clear LS1; rintro e w1 ⟨rfl, hb2, N, hrN, hlN⟩; have HB2 := hidH (HB1.out.trans (hb2.mono HB1.out.size)); have RN := hidH hrN; have LN := hidH hlN; have TU := hidH (turned_any a cap ps w1 (HL.out.below HB2.out) hm); clear hb2 hrN hlN HB1)
    | (go_at_call 19; (with_reducible refine TU.out.mono ?_); clear TU; rintro e w2 ⟨rfl, hb3, hli⟩; have HB3 := hidH (HB2.out.trans (hb3.mono HB2.out.size)); have RN2 := hidH (RN.out.below hb3); have LS2 := hidH (listsR_any n ps.length (some ⟨w1.heap.size, 0, none⟩) (ps.map swapP) w2 (.inr ⟨_, _, rfl, hli⟩) hn (by rw [List.length_map]; omega) (swap_rng HPS.out)); rw [List.length_map] at LS2; have HZ2 := hidH hb3.size; clear hb3 hli HB2 RN)
    | (go_at_call 18; (with_reducible refine LS2.out.mono ?_); clear LS2; rintro e w3 ⟨rfl, hb4, D, hrD, hlD⟩; have HB4 := hidH (HB3.out.trans (hb4.mono HB3.out.size)); have RN3 := hidH ((RN2.out.below (hb4.mono HZ2.out)).up (Nat.le_trans HZ2.out hb4.size)); have RD3 := hidH hrD; have LD := hidH hlD; have LU := hidH (lineUp_any _ _ n N D w3 RN3.out hrD (LN.out.bth hlD (trn_swap ps) HPS.out) hn); clear hb4 hrD hlD HB3 RN2 HZ2)
    | (go_at_call 20; (with_reducible refine LU.out.mono ?_); clear LU; rintro e w4 ⟨O, os, rfl, hoO, hb5, hln⟩; have HB5 := hidH (HB4.out.trans (hb5.mono HB4.out.size)); have OO := hidH (own_lower hoO HB4.out.size); have LNN := hidH hln; have CY := hidH (cycle_any _ _ n N D ps (ps.map swapP) w4 ((RN3.out.below hb5).up hb5.size) ((RD3.out.below hb5).up hb5.size) LN.out LD.out (trn_swap ps) HPS.out (swap_rng HPS.out) hn HEX.out); clear hoO hb5 hln HB4))
  have hnf : os.length ≠ n := fun e => by
    obtain ⟨x, hx⟩ := HEX.out
    exact LNN.out.noc HPS.out LN.out e x hx
  have hos := nodup_le LNN.out.nod LNN.out.rng
  obtain ⟨aO, cO, hO, -, -⟩ := own_slice OO.out
  subst hO
  obtain ⟨q, hq⟩ : ∃ q, os.length = q := ⟨_, rfl⟩
  rw [hq] at hnf hos ⊢
  have hq1 : ((q : Int) == (n : Int)) = false := by rw [beq_eq_false_iff_ne]; omega
  have hq2 : ¬ (q : Int) = (n : Int) := by omega
  clear hq
  go_wp2_with (go_at_call 21; (with_reducible refine CY.out.mono ?_); clear CY; rintro e w5 ⟨v, rfl, hb6, f, l, ho6, hF, hC⟩; have HB6 := hidH (HB5.out.trans (hb6.mono HB5.out.size)); have O6 := hidH (own_lower ho6 HB5.out.size); have HF := hidH hF; have HC := hidH hC; clear hb6 ho6 hF hC)
  go_ret3
  exact ⟨_, rfl, HB6.out, f, l, O6.out, HF.out, HC.out⟩
end Go.Proofs.YtgijcbipnjmhgabGreat
