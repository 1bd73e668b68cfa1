/- energy: the law Spreads -/
import Derived.Test.YtgdndcbcdoogpaaDoorOl
import Derived.BigQuiet
namespace Go.Proofs.YtgdndcbcdoogpaaDoor
open Go.RowKit Go.Shelf

/-- levels that rise by numbers, as far as there are some -/
def upG : List Int → List Int → List Int
  | [], _ => []
  | x :: l, [] => x :: upG l []
  | x :: l, m :: r => min 15872 (x + m) :: upG l r
theorem upG_len : ∀ (l r : List Int), (upG l r).length = l.length
  | [], _ => rfl
  | x :: l, [] => by simp [upG, upG_len l []]
  | x :: l, m :: r => by simp [upG, upG_len l r]
theorem upG_some : ∀ (l r : List Int) (k : Nat) (x m : Int), l[k]? = some x → r[k]? = some m → (upG l r)[k]? = some (min 15872 (x + m))
  | [], _, k, x, m, h, _ => by simp at h
  | y :: l, [], k, x, m, _, h => by simp at h
  | y :: l, n :: r, 0, x, m, h, g => by
    simp only [List.getElem?_cons_zero, Option.some.injEq] at h g
    subst h; subst g
    rfl
  | y :: l, n :: r, k + 1, x, m, h, g => by
    simp only [List.getElem?_cons_succ] at h g
    exact upG_some l r k x m h g
theorem upG_none : ∀ (l r : List Int) (k : Nat) (x : Int), l[k]? = some x → r.length ≤ k → (upG l r)[k]? = some x
  | [], _, k, x, h, _ => by simp at h
  | y :: l, [], 0, x, h, _ => h
  | y :: l, [], k + 1, x, h, _ => upG_none l [] k x (by simpa using h) (Nat.zero_le _)
  | y :: l, n :: r, 0, x, _, g => by simp at g
  | y :: l, n :: r, k + 1, x, h, g => upG_none l r k x (by simpa using h) (by simpa using g)
theorem upG_at {l r : List Int} (hc : CoS l) (hr : ∀ (j : Nat) (m : Int), r[j]? = some m → 0 ≤ m) {k : Nat} {y : Int} (h : (upG l r)[k]? = some y) : ∃ x, l[k]? = some x ∧ x ≤ y ∧ 0 ≤ y ∧ y ≤ 15872 := by
  have hk := (List.getElem?_eq_some_iff.1 h).1
  rw [upG_len] at hk
  obtain ⟨x, hx⟩ : ∃ x, l[k]? = some x := ⟨_, List.getElem?_eq_getElem hk⟩
  have hb := hc k x hx
  refine ⟨x, hx, ?_⟩
  cases e : r[k]? with
  | none =>
    rw [upG_none l r k x hx (List.getElem?_eq_none_iff.1 e)] at h
    injection h with h
    omega
  | some m =>
    rw [upG_some l r k x m hx e] at h
    injection h with h
    have := hr k m e
    omega
theorem u16_nn {w : World} {v : Value} {xs : List Int} (h : U16s w v xs) (j : Nat) (m : Int) (hm : xs[j]? = some m) : 0 ≤ m := by
  obtain ⟨a, cap, rfl⟩ := h.form
  exact (h.cellAt hm).1.1
theorem getD_some {xs : List Int} {k : Nat} {x : Int} (h : xs[k]? = some x) : xs.getD k 0 = x := by rw [List.getD_eq_getElem?_getD, h]; rfl
theorem sdE_no {xs : List Int} {n : Int} (h : 32 < xs.length) : sdE xs n ≠ 0 := by
  intro e
  obtain ⟨_, _, _, _, h32, _⟩ := sd_at e
  omega
theorem sd_three {xs : List Int} {n : Int} (h : sdE xs n = 0) : CoS xs ∧ (sdS xs n).length = xs.length ∧ CoS (sdS xs n) := by
  obtain ⟨_, _, _, _, _, _, h1, h2, h3, _⟩ := sd_at h
  exact ⟨h1, h2, h3⟩
set_option maxRecDepth 100000 in
set_option maxHeartbeats 8000000 in
theorem spreads_law (sv mv : Value) (xs ms : List Int) (n : Int) (w : World) (h : Ints w sv xs) (hm : U16s w mv ms) (hg : Gv w) : Calls Tryd.prog 13 #[sv, mv, .int .i64 n] w fun e w' => e = .returned (.bool true) ∧ Upd NoB w w' := by
  have HG := Lib.hid hg; have HX := Lib.hid h; have HM := Lib.hid hm
  have HSp := Lib.hid (Spread_any sv xs n w h)
  have HNn := Lib.hid (u16_nn hm)
  have hml := hm.1
  obtain ⟨a, cap, rfl⟩ := h.form
  obtain ⟨ma, mcap, rfl⟩ := hm.form
  by_cases hl : 32 < xs.length
  · have t1 : decide ((32 : Int) < (xs.length : Int)) = true := decide_eq_true (by omega)
    generalize ms.length = M at *
    generalize sdS xs n = A at *
    generalize sdE xs n = E at *
    generalize xs.length = L at *
    have t2 : decide (32 < L) = true := decide_eq_true hl
    clear h hm hg hl
    go_enter Tryd.func13, Tryd.ntmps13
    go_wp2_with fail
    refine (awake_en _ HG.out).mono ?_
    rintro e w2 ⟨rfl, u2⟩
    have U2 := Lib.hid u2
    clear u2
    go_wp2_with fail
    go_ret
    exact ⟨rfl, U2.out⟩
  by_cases hE : sdE xs n = 0
  · have HI := Lib.hid (sd_idem hE)
    have HGe := Lib.hid (fun b hb => sd_ge hE (b := b) hb)
    have HUp := Lib.hid (fun ys h1 h2 h3 => sd_up (ys := ys) hE h1 h2 h3)
    obtain ⟨hcs, hal, hca⟩ := sd_three hE
    have HCs := Lib.hid hcs; have HCa := Lib.hid hca; have HAl := Lib.hid hal
    rw [hE] at HSp
    obtain ⟨M, hM⟩ : ∃ M, ms.length = M := ⟨_, rfl⟩
    rw [hM] at HM hml ⊢
    have HMe := Lib.hid hM
    obtain ⟨U, hU⟩ : ∃ U, upG xs ms = U := ⟨_, rfl⟩
    have HUl := Lib.hid (show U.length = xs.length by rw [← hU, upG_len])
    have HUs := Lib.hid (fun k x m => upG_some xs ms k x m); have HUn := Lib.hid (fun k x => upG_none xs ms k x)
    have HUa := Lib.hid (fun k y => upG_at (k := k) (y := y) hcs HNn.out)
    rw [hU] at HUs HUn HUa
    rw [hM] at HUn
    have HCu := Lib.hid (show CoS U from fun k y hy => by obtain ⟨_, _, _, q⟩ := HUa.out k y hy; exact q)
    have HUe := Lib.hid (HUp.out U HUl.out HCu.out fun b hb => by
      obtain ⟨y, hy⟩ : ∃ y, U[b]? = some y := ⟨_, List.getElem?_eq_getElem (by rw [HUl.out]; exact hb)⟩
      obtain ⟨x, hx, hxy, _⟩ := HUa.out b y hy
      rw [getD_some hx, getD_some hy]; exact hxy)
    have HCl := Lib.hid (show (sdS U n).length = xs.length by rw [(sd_three HUe.out.1).2.1, HUl.out])
    obtain ⟨A, hA⟩ : ∃ A, sdS xs n = A := ⟨_, rfl⟩
    obtain ⟨C, hC⟩ : ∃ C, sdS U n = C := ⟨_, rfl⟩
    rw [hA] at HSp HI HGe HAl HCa HUe
    rw [hC] at HCl HUe
    have HEe := Lib.hid hC
    obtain ⟨L, hL⟩ : ∃ L, xs.length = L := ⟨_, rfl⟩
    have HL := Lib.hid hL
    rw [hL] at HX HAl HUl HCl HGe HUe hl ⊢
    have t1 : decide ((32 : Int) < (L : Int)) = false := decide_eq_false (by omega)
    have t2 : decide (32 < L) = false := decide_eq_false hl
    have hne : ((L : Int) != (L : Int)) = false := by simp
    have hL32 : L ≤ 32 := by omega
    clear h hm hg hE hcs hal hca hA hC hU hL hM hl HUp
    go_enter Tryd.func13, Tryd.ntmps13
    go_wp2_with fail
    have HSp' := HSp.out
    rw [HL.out] at HSp'
    refine HSp'.mono ?_
    clear HSp HSp'
    rintro e w1 ⟨a1, n1, c1, rfl, r1, u1⟩
    rw [HAl.out] at r1
    obtain rfl := (by have := row_form r1; obtain ⟨_, _, e⟩ := this; injection e : n1 = L)
    have I1 := Lib.hid (show Ints w1 (.slice a1 n1 c1) A from Ints.ofRow (by rw [HAl.out]; exact r1) (by rw [HAl.out]; omega))
    have U1 := Lib.hid u1
    clear r1 u1
    go_wp2_with fail
    have HS2 := Spread_any _ A n w1 I1.out
    rw [HI.out.1, HI.out.2] at HS2
    refine HS2.mono ?_
    clear HS2
    rintro e w2 ⟨a2, n2, c2, rfl, r2, u2⟩
    rw [HAl.out] at r2
    obtain rfl := (by have := row_form r2; obtain ⟨_, _, e⟩ := this; injection e : n2 = n1)
    have I2 := Lib.hid (show Ints w2 (.slice a2 n2 c2) A from Ints.ofRow (by rw [HAl.out]; exact r2) (by rw [HAl.out]; omega))
    have U2 := Lib.hid (U1.out.then u2); have I12 := Lib.hid (I1.out.later u2)
    clear r2 u2 I1 U1
    go_wp2_with fail
    refine (qints_any _ _ A A w2 I12.out I2.out).mono ?_
    rw [intsB_self]
    rintro e w3 ⟨rfl, m3, hw3⟩
    have u3 : Upd NoB w2 w3 := by rw [hw3]; exact upd_drewN (Upd.refl _ _) _
    have U3 := Lib.hid (U2.out.then u3); have I3 := Lib.hid (I12.out.later u3)
    clear u3 hw3 I2 I12 U2
    go_wp2_with fail
    go_loopw [11, 53] (fun v i wr => ∃ k : Nat, k ≤ n2 ∧ i = .int .i64 k ∧ wr.ownsRow w3.heap.size 3 1 v k (i64s (U.take k)) ∧ Upd NoB w3 wr) (fun _ i _ => n2 - (intOf i).toNat)
    case atStart => exact ⟨0, Nat.zero_le _, rfl, World.ownsRow_nil _ _ _ _, Upd.refl _ _⟩
    case round =>
      obtain ⟨k, hk, rfl, hown, hu⟩ := hrel
      obtain ⟨va, vc, rfl⟩ := row_form hown
      have HO := Lib.hid hown; have HU := Lib.hid hu
      have hb := hu.size
      by_cases hlt : k < n2
      · obtain ⟨x, hx⟩ : ∃ x, xs[k]? = some x := ⟨_, List.getElem?_eq_getElem (by rw [HL.out]; exact hlt)⟩
        obtain ⟨bb, off, rfl, c0⟩ := (HX.out.later (U3.out.then hu)).cellAt hx
        obtain ⟨y, hy⟩ : ∃ y, A[k]? = some y := ⟨_, List.getElem?_eq_getElem (by rw [HAl.out]; exact hlt)⟩
        obtain ⟨ab, aoff, rfl, d0⟩ := (I3.out.later hu).cellAt hy
        have hxy := HGe.out k hlt
        rw [getD_some hx, getD_some hy] at hxy
        have hx2 := HCs.out k x hx
        have hy2 := HCa.out k y hy
        have s1 : decide (y < x) = false := decide_eq_false (by omega)
        have s2 : decide ((15872 : Int) < y) = false := decide_eq_false (by omega)
        by_cases hkm : k < M
        · obtain ⟨m, hm⟩ : ∃ m, ms[k]? = some m := ⟨_, List.getElem?_eq_getElem (by rw [HMe.out]; exact hkm)⟩
          obtain ⟨hm2, mb, moff, rfl, m0⟩ := (HM.out.later (U3.out.then hu)).cellAt hm
          have HTk := Lib.hid (show U.take (k + 1) = U.take k ++ [min 15872 (x + m)] by rw [List.take_add_one, HUs.out k x m hx hm]; rfl)
          generalize U.take k = zs at *
          have w1 : IntKind.i64.wrap m = m := IntWalk.i64_in _ (by omega)
          have w2' : wrap64 m = m := IntWalk.wrap64_in _ (by omega)
          have w3' : IntKind.i64.wrap (x + m) = x + m := IntWalk.i64_in _ (by omega)
          have w4 : wrap64 (x + m) = x + m := IntWalk.wrap64_in _ (by omega)
          clear hown hu hx hy hm hxy hm2 hx2 hy2
          go_wp2_with (at_builtin; refine wpList_push rfl (.tmp 83) (.tmp 85) rfl w3.heap.size (.slice va k vc) k zs (min 15872 (x + m)) rfl rfl HO.out (by omega) hb ?_; intro v' w' hown' u'; have R' := Lib.hid hown'; have U' := Lib.hid u'; clear hown' u')
          go_roundw
          case rel => exact ⟨k + 1, by omega, by go_num, by rw [HTk.out]; exact R'.out, upd_ge ((upd_ge' HU.out w3.heap.size).trans U'.out (fun _ _ h => h))⟩
          case measure => simp [intOf]; omega
        · have HTk := Lib.hid (show U.take (k + 1) = U.take k ++ [x] by rw [List.take_add_one, HUn.out k x hx (by omega)]; rfl)
          generalize U.take k = zs at *
          have hki : decide ((k : Int) < (M : Int)) = false := decide_eq_false (by omega)
          clear hown hu hx hy hxy hx2 hy2
          go_wp2_with (at_builtin; refine wpList_push rfl (.tmp 83) (.tmp 85) rfl w3.heap.size (.slice va k vc) k zs x rfl rfl HO.out (by omega) hb ?_; intro v' w' hown' u'; have R' := Lib.hid hown'; have U' := Lib.hid u'; clear hown' u')
          go_roundw
          case rel => exact ⟨k + 1, by omega, by go_num, by rw [HTk.out]; exact R'.out, upd_ge ((upd_ge' HU.out w3.heap.size).trans U'.out (fun _ _ h => h))⟩
          case measure => simp [intOf]; omega
      · obtain rfl : k = n2 := by omega
        have IU := Lib.hid (show Ints wr (.slice va k vc) U from by
          have hr := HO.out
          rw [List.take_of_length_le (by rw [HUl.out]; exact Nat.le_refl _)] at hr
          have := Ints.ofRow (xs := U) (by rw [HUl.out]; exact hr) (by rw [HUl.out]; omega)
          exact this)
        have U4 := Lib.hid (U3.out.then hu); have I4 := Lib.hid (I3.out.later hu)
        clear hown hu hlt
        go_wp2_with fail
        have HS5 := Spread_any _ U n wr IU.out
        rw [HUe.out.1, HEe.out] at HS5
        refine HS5.mono ?_
        clear HS5
        rintro e w5 ⟨a5, n5, c5, rfl, r5, u5⟩
        rw [HCl.out] at r5
        obtain rfl := (by have := row_form r5; obtain ⟨_, _, e⟩ := this; injection e : n5 = k)
        have I5 := Lib.hid (show Ints w5 (.slice a5 n5 c5) C from Ints.ofRow (by rw [HCl.out]; exact r5) (by rw [HCl.out]; omega))
        have U5 := Lib.hid (U4.out.then u5); have IA5 := Lib.hid (I4.out.later u5)
        clear r5 u5 IU U4 I4 I3 U3
        go_wp2_with fail
        go_loopw [105] (fun i wr => ∃ (k m : Nat), k ≤ n5 ∧ i = .int .i64 k ∧ wr = w5.drewN m) (fun i _ => n5 - (intOf i).toNat)
        case atStart => exact ⟨0, 0, Nat.zero_le _, rfl, rfl⟩
        case round =>
          obtain ⟨j, m, hj, rfl, rfl⟩ := hrel
          have u6 : Upd NoB w5 (w5.drewN m) := upd_drewN (Upd.refl _ _) m
          by_cases hlt : j < n5
          · obtain ⟨y, hy⟩ : ∃ y, A[j]? = some y := ⟨_, List.getElem?_eq_getElem (by rw [HAl.out]; exact hlt)⟩
            obtain ⟨z, hz⟩ : ∃ z, C[j]? = some z := ⟨_, List.getElem?_eq_getElem (by rw [HCl.out]; exact hlt)⟩
            obtain ⟨ab, aoff, rfl, d0⟩ := IA5.out.cellAt hy
            obtain ⟨cb, coff, rfl, d1⟩ := I5.out.cellAt hz
            have hyz := HUe.out.2 j hlt
            rw [getD_some hy, getD_some hz] at hyz
            have s1 : decide (z < y) = false := decide_eq_false (by omega)
            have q1 : (j : Int) < (n5 : Int) := by omega
            clear hy hz hyz u6
            go_wp2
            go_quiet (fail)
            go_wp2
            go_roundw
            case rel => exact ⟨j + 1, m + nq, by omega, by go_num, rfl⟩
            case measure => simp [intOf]; omega
          · obtain rfl : j = n5 := by omega
            have U6 := Lib.hid (U5.out.then u6)
            have HG6 := Lib.hid (HG.out.later (U5.out.then u6))
            clear u6 hlt
            generalize w5.drewN m = w6 at *
            go_wp2_with fail
            refine (awake_en _ HG6.out).mono ?_
            rintro e w7 ⟨rfl, u7⟩
            have U7 := Lib.hid (U6.out.then u7)
            clear u7
            go_wp2_with fail
            go_ret
            exact ⟨rfl, U7.out⟩
  · have t0 : (sdE xs n != 0) = true := by rw [bne_iff_ne]; exact hE
    have t1 : decide ((32 : Int) < (xs.length : Int)) = false := decide_eq_false (by omega)
    have t2 : decide (32 < xs.length) = false := decide_eq_false hl
    generalize ms.length = M at *
    generalize sdS xs n = A at *
    generalize sdE xs n = E at *
    generalize xs.length = L at *
    clear h hm hg hl hE
    go_enter Tryd.func13, Tryd.ntmps13
    go_wp2_with fail
    refine HSp.out.mono ?_
    rintro e w1 ⟨a1, n1, c1, rfl, r1, u1⟩
    have U1 := Lib.hid u1
    clear r1 u1
    go_wp2_with fail
    refine (awake_en _ (HG.out.later U1.out)).mono ?_
    rintro e w2 ⟨rfl, u2⟩
    have U2 := Lib.hid (U1.out.then u2)
    clear u2
    go_wp2_with fail
    go_ret
    exact ⟨rfl, U2.out⟩
end Go.Proofs.YtgdndcbcdoogpaaDoor
