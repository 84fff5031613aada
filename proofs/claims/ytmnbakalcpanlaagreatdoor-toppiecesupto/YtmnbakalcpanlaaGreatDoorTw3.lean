import Derived.Test.YtmnbakalcpanlaaGreatDoorTw2
import Derived.Test.YtmnbakalcpanlaaGreatDoorRs7
namespace Go.Proofs.YtmnbakalcpanlaaGreatDoor
open Go.ChangeShapes Go.WideShapes Go.ChangeAt Go.RowKit Go.Maps Go.WideMaps
set_option linter.unusedVariables false
set_option linter.unusedSimpArgs false

theorem sound_own {s : ByteArray} (h : (cut s 0).2 = none) : sdB s (wau s (cut s 0).1) = true := by
  unfold sdB; rw [h]; exact (lsE_eq _ _).2 rfl
/-- the pieces of a text -/
def wl (s : ByteArray) : List Tk := wau s (cut s 0).1
theorem wl_len (s : ByteArray) : (wl s).length ≤ 2 * s.size := by
  have h1 := wau_len s (cut s 0).1
  have h2 := (cut_all s s.size 0 (by omega)).2
  unfold wl
  omega
theorem scan_wl {s : ByteArray} (hs : s.size ≤ 4294967280) (hc : (cut s 0).2 = none) (w : World) (hS : Spl w) (hT : Lt w) (hM : MaxL w) :
    Calls Tryz.prog 4 #[.string s] w fun e w' => ∃ a c, e = .returned (.tuple #[.slice a (wl s).length c, .agg #[.int .i64 0, .int .i64 0, .int .i64 0]]) ∧ LiesA w' a (wl s) ∧ Below w.heap.size w w' := by
  refine (scan_ok hs hc w hS hT hM).mono ?_
  rintro e w' ⟨a, c, rfl, h1, -, -, h2⟩
  exact ⟨a, c, rfl, h1, h2⟩
theorem chn_wl {s : ByteArray} (hc : (cut s 0).2 = none) : Chn s 0 false (wl s) := chn_cut s s.size 0 false (by omega) (by omega) hc (by simp)
theorem nms_tots (n : ByteArray) : ∀ l : List Tk, Q.tots (nms n l) ≤ l.length * n.size
  | [] => by simp [nms, Q.tots]
  | q :: r => by
    have := nms_tots n r
    rw [nms, List.length_cons, Nat.succ_mul]
    by_cases h : q.k = 2
    · rw [if_pos h, Q.tots]; simp only; omega
    · rw [if_neg h]; omega
theorem apply_ok (s : ByteArray) (a : Option Addr) (c : Nat) (xs : List Q.Ed) (w : World) (hx : s.size ≤ 140737488351232) (h : Q.EdsA w a xs) (hF : ∀ e ∈ xs, Q.EdFit e) (hB : s.size + Q.tots xs ≤ 70368744177664) (hck : Q.chk s.size 0 xs = 0) (hlen : xs.length ≤ 65536) :
    Calls Tryz.prog 7 #[.string s, .slice a xs.length c] w fun e w' => e = .returned (.tuple #[.string (apB s xs), .int .i64 0]) ∧ Below w.heap.size w w' := by
  have hv : Q.vld s.size xs = 0 := by unfold Q.vld; rw [if_neg (by omega)]; exact hck
  have := Q.apply_all s a c xs w hx h (by unfold maxLen; omega) hF hB
  have e : Q.appB s xs = apB s xs := by unfold Q.appB; rw [if_pos hv]; rfl
  rw [hv, e] at this
  exact this

theorem respelt_any (s n : ByteArray) (hs : s.size ≤ 1048576) (hn : n.size ≤ 1048576) (hcut : (cut s 0).2 = none) (a : Option Addr) (c : Nat) (w : World) (hl : LiesA w a (wl s)) (hS : Spl w) (hT : Lt w) (hM : MaxL w) :
    Calls Tryz.prog 11 #[.string s, .slice a (wl s).length c, .string n] w fun e w' => e = .returned (.bool true) ∧ Below w.heap.size w w' := by
  have HI : ∀ v, Below w.heap.size w v → Calls Tryz.prog 26 #[.string n] v fun e w' => e = .returned (.bool (kIs n 2)) ∧ Below v.heap.size v w' := fun v hv => Identifier_any n (by omega) v (hS.below hv) (hT.below hv) (hM.below hv)
  by_cases hz : kIs n 2 = false ∨ 200 < n.size
  · exact respelt_not s n a c (wl s) (kIs n 2) hz w HI
  · have hk : kIs n 2 = true := by
      cases h : kIs n 2 with
      | true => rfl
      | false => exact absurd (.inl h) hz
    have hn2 : n.size ≤ 200 := by
      apply Classical.byContradiction
      intro h
      exact hz (.inr (by omega))
    rw [hk] at HI
    obtain ⟨hn0, hpc, -, -, -, -⟩ := kOf_some (of_decide_eq_true hk)
    have hll := wl_len s
    obtain ⟨M, R⟩ := respell hn0 hpc hcut (L := wl s) rfl (wl s).length 0 (by omega)
    rw [List.drop_zero] at R
    have hck : Q.chk s.size 0 (nms n (wl s)) = 0 := chk_names s n s.size 0 0 (by omega) (by omega) hcut (.inl (by omega))
    have htt := nms_tots n (wl s)
    have hmul : (wl s).length * n.size ≤ 2097152 * 200 := Nat.mul_le_mul (by omega) hn2
    have hz1 := apB_size hck 0
    rw [List.drop_zero] at hz1
    have hch := chn_wl hcut
    have hchM : Chn (apB s (nms n (wl s))) 0 false M := by
      have := chn_cut _ (apB s (nms n (wl s))).size 0 false (by omega) (by omega) R.cut (by simp)
      rwa [R.lst] at this
    have hF : ∀ e ∈ nms n (wl s), Q.EdFit e := by
      intro e he
      have h1 := Q.chk_ok hck e he
      obtain ⟨q, -, -, rfl⟩ := nms_mem n _ e he
      unfold Q.EdFit
      simp only at h1 ⊢
      omega
    have hlM := R.len
    refine respelt_yes s n (apB s (nms n (wl s))) a c (wl s) M (by omega) hn2 w hl R.len (by omega) (by omega) ?_ HI ?_ ?_ ?_
    · intro j x hx
      have hj := (List.getElem?_eq_some_iff.1 hx).1
      obtain ⟨k, f, t, rfl, -, e1, e2, -⟩ := chn_all _ 0 false hch j x hx
      obtain ⟨y, hy⟩ : ∃ y, M[j]? = some y := ⟨_, List.getElem?_eq_getElem (by omega)⟩
      obtain ⟨k', f', t', rfl, -, e3, e4, -⟩ := chn_all _ 0 false hchM j y hy
      have hkk := R.kin j _ _ hx hy
      have htx := R.txt j _ _ (Nat.zero_le _) hx hy
      simp only [Int.toNat_natCast] at hkk htx
      have hkk' : k' = k := by omega
      subst hkk'
      refine ⟨k', f, t, rfl, e1, e2, f', t', hy, e3, e4, ?_⟩
      rw [htx]
      by_cases h2 : k' = 2
      · rw [if_pos h2, if_pos (by omega)]
      · rw [if_neg h2, if_neg (by omega)]
    · intro hm v a' c' hv hE
      exact apply_ok s a' c' _ v (by omega) hE hF (by omega) hck (by omega)
    · intro hm v hv
      refine (scan_wl (s := apB s (nms n (wl s))) (by omega) R.cut v (hS.below hv) (hT.below hv) (hM.below hv)).mono ?_
      rintro e w' ⟨a', c', rfl, h1, h2⟩
      have e : wl (apB s (nms n (wl s))) = M := R.lst
      rw [e] at h1 ⊢
      exact ⟨a', c', by rw [hlM], h1, h2⟩
    · intro hm v a' c' hv hL
      rw [← hlM]
      exact whole_any _ (by omega) a' c' M (by omega) hchM v hL
theorem rcut_ok {t : ByteArray} (h : (cut t 0).2 = none) : rcut t = ⟨t, wl t, 0, 0⟩ := by unfold rcut; rw [h]; rfl
theorem rcut_no {t : ByteArray} {y z : Nat} (h : (cut t 0).2 = some (y, z)) : rcut t = ⟨t, [], y, z⟩ := by unfold rcut; rw [h]
theorem rescan_one (t : ByteArray) (ht : t.size ≤ 2147483640) (hc : (cut t 0).2 = none) (a : Option Addr) (c : Nat) (e : Q.Ed) (u : ByteArray) (h1 : 0 ≤ e.f) (h2 : e.f ≤ e.t) (h3 : e.t ≤ (t.size : Int)) (h4 : edE t e.s e.f.toNat e.t.toNat = u) (hs : e.s.size ≤ 2147483640) (w : World) (hl : LiesA w a (wl t)) (hS : Spl w) (hT : Lt w) (hM : MaxL w) :
    Calls Tryz.prog 9 #[.string t, .slice a (wl t).length c, .agg #[.int .i64 e.f, .int .i64 e.t, .string e.s]] w fun r w' => ∃ (a1 : Option Addr) (l1 c1 : Nat) (y z : Int), r = .returned (.tuple #[.string u, .slice a1 l1 c1, .agg #[.int .i64 y, .int .i64 0, .int .i64 z]]) ∧ ((y = 0 ∧ (cut u 0).2 = none ∧ l1 = (wl u).length ∧ LiesA w' a1 (wl u)) ∨ y ≠ 0) ∧ Below w.heap.size w w' := by
  have hll := wl_len t
  have := rescan_all t a c (wl t) e.f e.t e.s ht hs (by omega) w hl hS hT hM
  have er : rsc t (wl t) e.f e.t e.s = rcut u := by
    unfold rsc
    rw [if_neg (by rw [show sdB t (wl t) = true from sound_own hc]; simp), if_neg (by omega), h4]
  rw [er] at this
  refine this.mono ?_
  rintro r w' ⟨a', c', rfl, ho, hb⟩
  cases hu : (cut u 0).2 with
  | none =>
    rw [rcut_ok hu] at ho ⊢
    obtain ⟨a2, c2, e2, hL, -, -⟩ := own_form ho
    have e3 : a2 = a' := by injection e2 with e3 _ _; exact e3.symm
    subst e3
    exact ⟨a2, _, c', 0, 0, rfl, .inl ⟨rfl, rfl, rfl, hL⟩, hb⟩
  | some yz =>
    obtain ⟨y, z⟩ := yz
    obtain ⟨-, -, hy1, hy2, -⟩ := cut_first u u.size 0 y z (by omega) hu
    rw [rcut_no hu]
    exact ⟨a', _, c', y, z, rfl, .inr (by omega), hb⟩

theorem topPieces_walk (s : ByteArray) (a : Option Addr) (c : Nat) (xs : List Q.Ed) (n : ByteArray) (hB : s.size + Q.tots xs + n.size ≤ 1048576) (hlen : xs.length ≤ 1048576) (w : World) (hl : Q.EdsA w a xs) (hF : ∀ e ∈ xs, Q.EdFit e) (hS : Spl w) (hT : Lt w) (hM : MaxL w) :
    Calls Tryz.prog 3 #[.string s, .slice a xs.length c, .string n] w fun e w' => e = .returned (.bool true) ∧ Below w.heap.size w w' := by
  have HV : ∀ v, Below w.heap.size w v → Calls Tryz.prog 6 #[.int .i64 (s.size : Int), .slice a xs.length c] v fun e w' => e = .returned (.int .i64 (Q.vld s.size xs)) ∧ Below v.heap.size v w' := by
    intro v hv
    have := Q.valid_all s.size a c xs v (by omega) (by omega) (hl.below hv) (by unfold maxLen; omega)
    have e : Q.val62 s.size xs = Q.vld s.size xs := by unfold Q.val62; rw [if_pos (by omega)]
    rw [e] at this
    exact this
  have hnoS : ∀ y z : Nat, (cut s 0).2 = some (y, z) → (y : Int) ≠ 0 ∧ ∀ v, Below w.heap.size w v → Calls Tryz.prog 4 #[.string s] v fun e w' => e = .returned (.tuple #[.slice none 0 0, .agg #[.int .i64 (y : Int), .int .i64 0, .int .i64 (z : Int)]]) ∧ Below v.heap.size v w' := by
    intro y z h
    obtain ⟨-, -, hy1, hy2, -⟩ := cut_first s s.size 0 y z (by omega) h
    exact ⟨by omega, fun v hv => scan_no (by omega) h v (hS.below hv) (hT.below hv) (hM.below hv)⟩
  have hokS : (cut s 0).2 = none → ∀ v, Below w.heap.size w v → Calls Tryz.prog 4 #[.string s] v fun e w' => ∃ a c, e = .returned (.tuple #[.slice a (wl s).length c, .agg #[.int .i64 0, .int .i64 0, .int .i64 0]]) ∧ LiesA w' a (wl s) ∧ Below v.heap.size v w' := fun h v hv => scan_wl (by omega) h v (hS.below hv) (hT.below hv) (hM.below hv)
  have hll := wl_len s
  have hWh : (cut s 0).2 = none → ∀ v a' c', Below w.heap.size w v → LiesA v a' (wl s) → Tru 5 #[.string s, .slice a' (wl s).length c'] v := fun h v a' c' hv hL => whole_any s (by omega) a' c' (wl s) (by omega) (chn_wl h) v hL
  have hRp : (cut s 0).2 = none → ∀ v a' c', Below w.heap.size w v → LiesA v a' (wl s) → Tru 11 #[.string s, .slice a' (wl s).length c', .string n] v := fun h v a' c' hv hL => respelt_any s n (by omega) (by omega) h a' c' v hL (hS.below hv) (hT.below hv) (hM.below hv)
  by_cases hv : Q.vld s.size xs = 0
  · rw [hv] at HV
    obtain ⟨hck, hl6⟩ := Q.vld_chk hv
    have hK := Q.chk_ok hck
    have hg := Q.grw_le xs fun e he => (hK e he).2.1
    have hge := Q.grw_ge (a := 0) hck (Int.le_refl _) (by omega)
    have hsz : ((apB s xs).size : Int) = s.size + Q.grw xs := by
      have := (Q.app_bound hck).1
      rw [← apB_list, Q.bytes_len] at this
      exact this
    have hbk : Q.chk ((apB s xs).size) 0 (Q.invF s 0 xs) = 0 := by
      have := Q.back_chk (tx := s) (m := 0) (L' := 0) hck (Int.le_refl 0) (by omega) (by omega) (by omega)
      rw [hsz, show (s.size : Int) + Q.grw xs = s.size + 0 + Q.grw xs by omega]
      exact this
    have hit := Q.back_tots (tx := s) 0 hK
    have hil : ∀ (ys : List Q.Ed) (m : Int), (Q.invF s m ys).length = ys.length := by
      intro ys
      induction ys with
      | nil => intro m; rfl
      | cons e r ih => intro m; simp only [Q.invF, List.length_cons, ih]
    have hiF : ∀ e ∈ Q.invF s 0 xs, Q.EdFit e := by
      intro e he
      have h1 := Q.chk_ok hbk e he
      have h2 := Q.mem_tots he
      unfold Q.EdFit
      omega
    have HA4 : ∀ v, Below w.heap.size w v → Calls Tryz.prog 7 #[.string s, .slice a xs.length c] v fun e w' => e = .returned (.tuple #[.string (apB s xs), .int .i64 0]) ∧ Below v.heap.size v w' := fun v hv => apply_ok s a c xs v (by omega) (hl.below hv) hF (by omega) hck hl6
    have HA5 : ∀ v, Below w.heap.size w v → Calls Tryz.prog 8 #[.string s, .slice a xs.length c] v fun e w' => ∃ a' c', e = .returned (.tuple #[.slice a' (Q.invF s 0 xs).length c', .int .i64 0]) ∧ Q.EdsA w' a' (Q.invF s 0 xs) ∧ Below v.heap.size v w' := by
      intro v hvb
      have := Q.invert_all s a c xs v (by omega) (hl.below hvb) (by omega) hF (by omega)
      have e : Q.invA s xs = Q.invF s 0 xs := by unfold Q.invA; rw [if_pos hv]
      rw [e, hv] at this
      refine this.mono ?_
      rintro e w' ⟨a', c', rfl, h1, -, h2⟩
      exact ⟨a', c', rfl, h1, h2⟩
    have HA6 : ∀ v a' c', Below w.heap.size w v → Q.EdsA v a' (Q.invF s 0 xs) → Calls Tryz.prog 7 #[.string (apB s xs), .slice a' (Q.invF s 0 xs).length c'] v fun e w' => e = .returned (.tuple #[.string s, .int .i64 0]) ∧ Below v.heap.size v w' := by
      intro v a' c' hvb hE
      have := apply_ok (apB s xs) a' c' (Q.invF s 0 xs) v (by omega) hE hiF (by omega) hbk (by rw [hil]; omega)
      rw [app_back hck] at this
      exact this
    cases hC : (cut s 0).2 with
    | some yz =>
      obtain ⟨y, z⟩ := yz
      obtain ⟨hy, HS⟩ := hnoS y z hC
      exact top_no_valid s n (apB s xs) a c xs (Q.invF s 0 xs) (by omega) y z hy w HS HV HA4 HA5 HA6
    | none =>
      have hTs : ∀ k, (apB s (xs.drop k)).size ≤ 1048576 := fun k => by have := apB_size hck k; omega
      refine top_ok_valid s n a c xs (by omega) (wl s) (Q.invF s 0 xs) (fun k => apB s (xs.drop k)) (fun k => wl (apB s (xs.drop k))) (fun k => (cut (apB s (xs.drop k)) 0).2 = none) ?_ ?_ ?_ w hl (hokS hC) (hWh hC) HV ?_ HA5 ?_ ?_ ?_ ?_ (hRp hC)
      · simp only [List.drop_length]; exact apB_nil s
      · simp only [List.drop_length]; rw [apB_nil]
      · simp only [List.drop_length]; rw [apB_nil]; exact hC
      · simp only [List.drop_zero]; exact HA4
      · simp only [List.drop_zero]; exact HA6
      · intro v a' c' i e hvb he hG hL
        obtain ⟨d1, d2, d3, d4⟩ := app_down hck he
        have hes := Q.mem_tots (List.mem_of_getElem? he)
        exact rescan_one _ (by have := hTs (i + 1); omega) hG a' c' e _ d1 d2 d3 d4 (by omega) v hL (hS.below hvb) (hT.below hvb) (hM.below hvb)
      · intro hG v hvb
        exact scan_wl (by have := hTs 0; omega) hG v (hS.below hvb) (hT.below hvb) (hM.below hvb)
      · intro v a1 c1 a2 c2 hvb h1 h2
        have h3 := wl_len (apB s (xs.drop 0))
        have h4 := hTs 0
        exact sameTokens_any a1 a2 c1 c2 _ v h1 h2 (by unfold maxLen; omega)
  · cases hC : (cut s 0).2 with
    | some yz =>
      obtain ⟨y, z⟩ := yz
      obtain ⟨hy, HS⟩ := hnoS y z hC
      exact top_no_not s n a c xs _ y z hv hy w HS HV
    | none => exact top_ok_not s n a c xs (wl s) _ hv w (hokS hC) (hWh hC) HV (hRp hC)
end Go.Proofs.YtmnbakalcpanlaaGreatDoor
