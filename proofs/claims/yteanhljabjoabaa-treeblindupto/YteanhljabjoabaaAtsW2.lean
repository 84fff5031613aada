import Derived.Test.YteanhljabjoabaaAtsW
namespace Go.Proofs.Yteanhljabjoabaa
open Go.ChangeShapes Go.WideShapes Go.ChangeAt Go.RowKit
set_option linter.unusedVariables false

theorem bx3 (w : World) (v1 v2 v3 : Array Value) (t1 t2 t3 : TypeId) : ∃ w3, ((w.alloc (.cells v1 t1)).alloc (.cells v2 t2)).alloc (.cells v3 t3) = w3 ∧ Below w.heap.size w w3 ∧ w3.heap.size = w.heap.size + 3 ∧ Bx w3 w.heap.size v1 t1 ∧ Bx w3 (w.heap.size + 1) v2 t2 ∧ Bx w3 (w.heap.size + 2) v3 t3 := by
  obtain ⟨w2, e2, b2, s2, x1, x2⟩ := bx2 w v1 v2 t1 t2
  obtain ⟨w3, e3, b3, s3, x3⟩ := bx1 w2 v3 t3
  exact ⟨w3, by rw [e2, e3], b2.trans (b3.mono b2.size), by omega, x1.below b3 (by omega), x2.below b3 (by omega), by rw [s2] at x3; exact x3⟩

set_option maxRecDepth 1000000 in
set_option maxHeartbeats 1000000 in
theorem at_any (a1 a2 : Option Addr) (c1 c2 : Nat) (ts : List Tk) (ns : List Nd) (off : Int) (w : World) (h1 : LiesA w a1 ts) (h2 : LiesA w a2 ns) (hl1 : ts.length * 24 ≤ 140737488351232) (hl2 : ns.length * 32 ≤ 140737488351232) :
    Calls Try.prog 10 #[.slice a1 ts.length c1, .agg #[.slice a2 ns.length c2], .int .i64 off] w fun e w' => e = .returned (.int .i64 (atF ts ns off ns.length)) ∧ Below w.heap.size w w' := by
  have H1 : Hid (LiesA w a1 ts) := h1
  have H2 : Hid (LiesA w a2 ns) := h2
  obtain ⟨w3, e3, b3, s3, x1, x2, x3⟩ := bx3 w #[.slice a1 ts.length c1] #[.slice a2 ns.length c2] #[.int .i64 off] 22 25 3
  obtain ⟨w4, e4, b4, s4, y1⟩ := bx1 w3 #[.int .i64 (ns.length : Int)] 3
  obtain ⟨w5, e5, b5, s5, z1, z2⟩ := bx2 w4 #[.func (.func 47) #[] #[.pointer (some ⟨w3.heap.size, 0, none⟩)]] #[.func (.func 26) #[] #[.pointer (some ⟨w.heap.size + 1, 0, none⟩), .pointer (some ⟨w.heap.size, 0, none⟩), .pointer (some ⟨w.heap.size + 2, 0, none⟩)]] 46 49
  have B5 : Below w.heap.size w w5 := (b3.trans (b4.mono b3.size)).trans (b5.mono (by omega))
  have F := first_down ns.length 26 w5.heap.size w3.heap.size w4.heap.size (w4.heap.size + 1) _ (atQ ts ns off) w5 (by omega) (enters_of Try.func26 (by kernel_rfl) rfl) (Nat.le_refl _) (by omega) (by omega) (by omega)
    (y1.below b5 (by omega)).one z1.one z2.one (fun i hi W hW hs => by
      obtain ⟨x, hx⟩ : ∃ e, ns[i]? = some e := ⟨_, List.getElem?_eq_getElem hi⟩
      have hB : Below w.heap.size w W := B5.trans (hW.mono B5.size)
      have hB3 : Below w3.heap.size w3 W := (b4.trans (b5.mono b4.size)).trans (hW.mono (by omega))
      have hsz := hB3.size
      have := at1_any a1 a2 c1 c2 ts ns off i x (w.heap.size + 1) w.heap.size (w.heap.size + 2) W hx (H1.out.below hB) (H2.out.below hB) hl1 hl2 (x2.below hB3 (by omega)).one (x1.below hB3 (by omega)).one (x3.below hB3 (by omega)).one (by omega) (by omega) (by omega)
      have e : atQ ts ns off (i : Int) = atB ts off x := by simp [atQ, hx]
      rw [e]
      exact this)
  rw [atQ_head] at F
  have HF : Hid (Calls Try.prog 23 #[.func (.func 46) #[] #[.pointer (some ⟨w4.heap.size, 0, none⟩), .pointer (some ⟨w4.heap.size + 1, 0, none⟩)]] w5 fun e W' => e = .returned (.int .i64 (atF ts ns off ns.length)) ∧ Below w5.heap.size w5 W') := F
  have HB5 : Hid (Below w.heap.size w w5) := B5
  have HE3 : Hid (((w.alloc (.cells #[.slice a1 ts.length c1] 22)).alloc (.cells #[.slice a2 ns.length c2] 25)).alloc (.cells #[.int .i64 off] 3) = w3) := e3
  have HE4 : Hid (w3.alloc (.cells #[.int .i64 (ns.length : Int)] 3) = w4) := e4
  have HE5 : Hid ((w4.alloc (.cells #[.func (.func 47) #[] #[.pointer (some ⟨w3.heap.size, 0, none⟩)]] 46)).alloc (.cells #[.func (.func 26) #[] #[.pointer (some ⟨w.heap.size + 1, 0, none⟩), .pointer (some ⟨w.heap.size, 0, none⟩), .pointer (some ⟨w.heap.size + 2, 0, none⟩)]] 49) = w5) := e5
  have q1 := x2.one
  clear h1 h2 e3 b3 s3 x1 x2 x3 e4 b4 s4 y1 e5 b5 s5 z1 z2 B5 F
  go_enter Try.func10, Try.ntmps10
  go_upto_region 1 with fail
  rw [HE3.out]
  go_wp2_with (first
    | (go_at_call 25; refine (down_any _ _).mono ?_; rintro e wd ⟨rfl, hwd⟩; rw [HE4.out] at hwd; subst hwd)
    | (go_at_call 24; refine (asked_any _ _ _ _ _ _ rfl rfl _).mono ?_; rintro e we ⟨rfl, hwe⟩; rw [HE5.out] at hwe; subst hwe)
    | (go_at_call 23; refine HF.out.mono ?_; rintro e w' ⟨rfl, hb⟩))
  go_ret
  exact ⟨rfl, HB5.out.trans (hb.mono HB5.out.size)⟩
end Go.Proofs.Yteanhljabjoabaa
