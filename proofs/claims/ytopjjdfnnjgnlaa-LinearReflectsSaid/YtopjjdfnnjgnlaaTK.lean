/- linear: Residual -/
import Derived.Test.YtopjjdfnnjgnlaaTJ
namespace Go.Proofs.Ytopjjdfnnjgnlaa
open Go.RowKit Go.Shelf

theorem resG_at {ws : List Int} : ∀ (l s : List Int) (k : Nat) (v : Int), l[k]? = some v → (resG ws s l)[k]? = some (v - prd ws ((l.take k).foldl seeL s))
  | [], _, k, v, h => by simp at h
  | x :: l, s, 0, v, h => by
    simp only [List.getElem?_cons_zero, Option.some.injEq] at h
    subst h
    rfl
  | x :: l, s, k + 1, v, h => by
    simp only [List.getElem?_cons_succ] at h
    exact resG_at l (seeL s x) k v h
theorem seen_ok : ∀ (l s : List Int), inM 2097152 s = true → s.length = 12 → inM 2097152 l = true → inM 2097152 (l.foldl seeL s) = true ∧ (l.foldl seeL s).length = 12
  | [], s, h1, h2, _ => ⟨h1, h2⟩
  | x :: l, s, h1, h2, h3 => by
    have h := inM_yes h3
    exact seen_ok l (seeL s x) (seeL_in h1 (h x List.mem_cons_self)) (seeL_len x h2) (inM_all fun y hy => h y (List.mem_cons_of_mem _ hy))
theorem inM_take {m : Int} {l : List Int} (h : inM m l = true) (k : Nat) : inM m (l.take k) = true := inM_all fun x hx => inM_yes h x (List.mem_of_mem_take hx)
theorem see_succ {l : List Int} {k : Nat} {v : Int} (h : l[k]? = some v) (s : List Int) : (l.take (k + 1)).foldl seeL s = seeL ((l.take k).foldl seeL s) v := by
  rw [List.take_add_one, h, List.foldl_append]; rfl
set_option maxRecDepth 100000 in
set_option maxHeartbeats 4000000 in
theorem Residual_any (sv fv : Value) (xs f : List Int) (w : World) (h : Ints w sv xs) (hf : Ints w fv f) : Calls Try.prog 44 #[sv, fv] w (EInts w (reS xs f) (reE 2097152 xs f)) := by
  have HIf := Lib.hid (isFilter_any fv f w hf)
  have HC := Lib.hid (fun w' (u : Upd NoB w w') => checkList_any sv xs 2097152 w' (by decide) (h.later u))
  have H := Lib.hid h
  cases hF : isF f with
  | false =>
    have HE := Lib.hid (show reE 2097152 xs f = 1 by unfold reE; rw [hF]; rfl)
    have HS := Lib.hid (show reS xs f = [] from if_neg (by rw [HE.out]; decide))
    rw [hF] at HIf
    rw [HE.out, HS.out]
    obtain ⟨a, cap, rfl⟩ := h.form
    obtain ⟨fa, fcap, rfl⟩ := hf.form
    generalize xs.length = L at *
    generalize f.length = M at *
    clear h hf hF
    go_enter Try.func44, Try.ntmps44
    go_wp2_with fail
    refine HIf.out.mono ?_
    rintro e w1 ⟨rfl, u1⟩
    have U1 := Lib.hid u1
    clear u1
    go_wp2_with fail
    go_ret2
    exact ⟨none, 0, 0, rfl, World.ownsRow_nil _ _ _ _, U1.out⟩
  | true =>
    have HE := Lib.hid (show reE 2097152 xs f = ckE 2097152 xs by unfold reE; rw [hF]; rfl)
    rw [hF] at HIf
    by_cases hE : ckE 2097152 xs = 0
    · have HS := Lib.hid (show reS xs f = resG (wtL f) s0L xs from if_pos (by rw [HE.out, hE]))
      have HWt := Lib.hid (fun w' (u : Upd NoB w w') => weightsOf_any fv f w' (hf.later u) hF)
      obtain ⟨hl, hin⟩ := ckE_ok hE
      obtain ⟨w1, w2, w3⟩ := wt_bd hF
      have HWl := Lib.hid w1; have HWb := Lib.hid w3; have HIn := Lib.hid hin
      rw [HS.out, HE.out, hE]
      rw [hE] at HC
      obtain ⟨a, cap, rfl⟩ := h.form
      obtain ⟨fa, fcap, rfl⟩ := hf.form
      obtain ⟨L, hL⟩ : ∃ L, xs.length = L := ⟨_, rfl⟩
      have HL := Lib.hid hL
      rw [hL] at H HC hl ⊢
      obtain ⟨ws, hws⟩ : ∃ ws, wtL f = ws := ⟨_, rfl⟩
      rw [hws] at HWt HWl HWb ⊢
      obtain ⟨N, hN⟩ : ∃ N, ws.length = N := ⟨_, rfl⟩
      have HN := Lib.hid hN
      rw [hN] at HWl
      have hN12 : N ≤ 12 := by rw [HWl.out]; exact w2
      generalize f.length = M at *
      obtain ⟨i0, hi, hz0, hz1, hz2⟩ := info_parts Try.infoInt
      clear h hf hF hL hws hN hE hin w1 w2 w3
      go_enter Try.func44, Try.ntmps44
      go_wp2_with fail
      refine HIf.out.mono ?_
      rintro e w1 ⟨rfl, u1⟩
      have U1 := Lib.hid u1
      clear u1
      go_wp2_with fail
      refine (HC.out w1 U1.out).mono ?_
      rintro e w2 ⟨rfl, u2⟩
      have U2 := Lib.hid (U1.out.then u2)
      clear u2
      go_wp2_with fail
      refine (HWt.out w2 U2.out).mono ?_
      rintro e w3 ⟨v3, rfl, r3, u3⟩
      rw [HN.out] at r3
      obtain ⟨a3, c3, rfl⟩ := row_form r3
      have I3 := Lib.hid (show Ints w3 (.slice a3 N c3) ws from by
        have := Ints.ofRow (xs := ws) (by rw [HN.out]; exact r3) (by rw [HN.out]; omega)
        exact this)
      have U3 := Lib.hid (U2.out.then u3)
      have HA3 := Lib.hid (show ∀ j, (Value.slice a3 N c3).ownBlock = some j → j < w3.heap.size from fun j hj => (r3.lt j hj).2)
      clear u3 r3
      obtain ⟨W4, hW4⟩ : ∃ W, W = w3.alloc (.cells #[.slice a3 N c3, .int .i64 0, .int .i64 0, .int .i64 0, .int .i64 0, .int .i64 0, .int .i64 0, .int .i64 0, .int .i64 0, .int .i64 0, .int .i64 0, .int .i64 0, .int .i64 0] 81) := ⟨_, rfl⟩
      obtain ⟨P, hP⟩ : ∃ P, w3.heap.size = P := ⟨_, rfl⟩
      have p4 : PrAt W4 P (.slice a3 N c3) s0L := by
        have : W4.heap[w3.heap.size]? = some (.cells #[.slice a3 N c3, .int .i64 0, .int .i64 0, .int .i64 0, .int .i64 0, .int .i64 0, .int .i64 0, .int .i64 0, .int .i64 0, .int .i64 0, .int .i64 0, .int .i64 0, .int .i64 0] 81 (0, 0)) := by rw [hW4]; exact heap_alloc_new w3 _
        rw [hP] at this
        exact this
      rw [hP] at HA3
      have u4 : Upd NoB w3 W4 := by rw [hW4]; exact (Upd.refl _ _).alloc _
      have hPl : P < W4.heap.size := lt_of_block p4
      have HPw := Lib.hid (show w.heap.size ≤ P by rw [← hP]; exact U3.out.size)
      have U4 := Lib.hid (U3.out.then u4); have I4 := Lib.hid (I3.out.later u4)
      have HW4 := Lib.hid hW4; have P4 := Lib.hid p4
      obtain ⟨base, hb⟩ : ∃ base, W4.heap.size = base := ⟨_, rfl⟩
      rw [hb] at hPl
      have HBs := Lib.hid hb
      clear hW4 p4 u4 hb
      go_wp2_with (rw [← HW4.out]; refine wpList_make_own W4 rfl _ _ 22 rfl base 3 i0 (.int .i64 0) 1 Try.underlying22 hi hz0 hz1 .i64 .i64 _ L rfl rfl rfl ?c1 ?c2 ?c3 ?_)
      case c1 => rw [hz2]; omega
      case c2 => unfold maxLen; omega
      case c3 => have := HBs.out; omega
      intro w5 hown hgr
      have u5 : Upd NoB W4 w5 := (Upd.refl _ _).grown hgr (fun k e => by cases e)
      have O5 := Lib.hid hown; have U5 := Lib.hid (U4.out.then u5); have I5 := Lib.hid (I4.out.later u5); have P5 := Lib.hid (P4.out.upd u5 (noB _))
      have HS5 := Lib.hid (show base ≤ w5.heap.size by have := u5.size; have := HBs.out; omega)
      clear hown hgr u5 U4 I4 P4 HBs HW4 hP I3 U3
      go_wp2_with fail
      go_loopw [8, 27] (fun v i wr => ∃ k : Nat, k ≤ L ∧ i = .int .i64 (k : Int) ∧ wr.ownsRow base 3 1 v k (i64s ((resG ws s0L xs).take k)) ∧ PrAt wr P (.slice a3 N c3) ((xs.take k).foldl seeL s0L) ∧ Ints wr (.slice a3 N c3) ws ∧ Upd NoB w wr ∧ base ≤ wr.heap.size) (fun _ i _ => L - (intOf i).toNat)
      case atStart => exact ⟨0, Nat.zero_le _, rfl, O5.out, P5.out, I5.out, U5.out, HS5.out⟩
      case round =>
        obtain ⟨k, hk, rfl, hown, hp, hi5, hu, hbs⟩ := hrel
        obtain ⟨va, vc, rfl⟩ := row_form hown
        have HOw := Lib.hid hown; have HP := Lib.hid hp; have HI := Lib.hid hi5; have HU := Lib.hid hu
        by_cases hlt : k < L
        · obtain ⟨x, hx⟩ : ∃ x, xs[k]? = some x := ⟨_, List.getElem?_eq_getElem (by rw [HL.out]; exact hlt)⟩
          obtain ⟨bb, off, rfl, c0⟩ := (H.out.later hu).cellAt hx
          have hxb := inM_yes HIn.out x (List.mem_of_getElem? hx)
          obtain ⟨s1, s2⟩ := seen_ok (xs.take k) s0L s0_in rfl (inM_take HIn.out k)
          have hpb := prd_in HWb.out s1 (by rw [HN.out]; exact hN12)
          have HPd := Lib.hid (fun V (u : Upd NoB wr V) => prediction_any P (.slice a3 N c3) ws ((xs.take k).foldl seeL s0L) V (HP.out.upd u (noB _)) (HI.out.later u) (by rw [HN.out]; exact hN12) s2 HWb.out s1)
          have HSe := Lib.hid (fun V (hv : PrAt V P (.slice a3 N c3) ((xs.take k).foldl seeL s0L)) => see_any P (.slice a3 N c3) ((xs.take k).foldl seeL s0L) x V hv s2)
          have HNx := Lib.hid (see_succ hx s0L)
          have HT := Lib.hid (show (resG ws s0L xs).take (k + 1) = (resG ws s0L xs).take k ++ [x - prd ws ((xs.take k).foldl seeL s0L)] by
            rw [List.take_add_one, resG_at xs s0L k x hx]; rfl)
          generalize (xs.take k).foldl seeL s0L = sn at *
          generalize (resG ws s0L xs).take k = ys at *
          generalize prd ws sn = q at *
          have z1 : wrap64 (x - q) = x - q := IntWalk.wrap64_in _ (by omega)
          have z2 : IntKind.i64.wrap (x - q) = x - q := IntWalk.i64_in _ (by omega)
          clear hx hxb s1 s2 hpb hown hp hi5 hu
          go_wp2_with fail
          refine (HPd.out wr (Upd.refl _ _)).mono ?_
          rintro e w6 ⟨rfl, u6⟩
          have O6 := Lib.hid (u6.row HOw.out (fun j _ => noB j)); have P6 := Lib.hid (HP.out.upd u6 (noB _)); have I6 := Lib.hid (HI.out.later u6); have U6 := Lib.hid (HU.out.then u6)
          have hb6 : base ≤ w6.heap.size := Nat.le_trans hbs u6.size
          clear u6 HPd
          go_wp2_with (at_builtin; refine wpList_push rfl (.tmp 31) (.tmp 35) rfl base (.slice va k vc) k ys (x - q) rfl rfl O6.out (by omega) hb6 ?_; intro v' w' hown' u'; obtain ⟨a9, c9, rfl⟩ := row_form hown'; have R' := Lib.hid hown'; have U' := Lib.hid u'; have P' := Lib.hid (P6.out.upd u' (fun h => by have h : base ≤ P := h; omega)); clear hown' u')
          refine (HSe.out w' P'.out).mono ?_
          rintro e w7 ⟨rfl, p7, u7⟩
          have P7 := Lib.hid p7
          have R7 := Lib.hid (u7.row R'.out (fun j hj e => by have e : j = P := e; have := (R'.out.lt j hj).1; omega))
          have ua : Upd (fun j => j = P ∨ base ≤ j) w6 w7 := (U'.out.mono (T := fun j => j = P ∨ base ≤ j) (fun _ _ h => .inr h)).trans u7 (fun _ _ h => .inl h)
          have U7 := Lib.hid (show Upd NoB w w7 from U6.out.trans ua (fun j hj e => by have := HPw.out; rcases e with e | e <;> (exfalso; omega)))
          have I7 := Lib.hid (I6.out.upd ua (fun _ j hj e => by
            have h3 := HA3.out j hj
            rcases e with e | e <;> omega))
          have hb7 : base ≤ w7.heap.size := Nat.le_trans hb6 ua.size
          clear p7 u7 ua
          go_wp2_with fail
          go_roundw
          case rel => exact ⟨k + 1, by omega, by go_num, by rw [HT.out]; exact R7.out, by rw [HNx.out]; exact P7.out, I7.out, U7.out, hb7⟩
          case measure => simp [intOf]; omega
        · obtain rfl : k = L := by omega
          have HTk := Lib.hid (show (resG ws s0L xs).take k = resG ws s0L xs from List.take_of_length_le (by rw [resG_len, HL.out]; exact Nat.le_refl _))
          have HRl := Lib.hid (show (resG ws s0L xs).length = k by rw [resG_len, HL.out])
          rw [HTk.out] at HOw
          clear hown hp hi5 hu hlt
          go_wp2_with fail
          go_ret2
          exact ⟨_, _, _, rfl, by rw [HRl.out]; exact row_base HOw.out (by have := HPw.out; omega), HU.out⟩
    · have HS := Lib.hid (show reS xs f = [] from if_neg (by rw [HE.out]; exact hE))
      rw [HS.out, HE.out]
      have t1 : (ckE 2097152 xs != 0) = true := by rw [bne_iff_ne]; exact hE
      obtain ⟨a, cap, rfl⟩ := h.form
      obtain ⟨fa, fcap, rfl⟩ := hf.form
      generalize ckE 2097152 xs = E at *
      generalize xs.length = L at *
      generalize f.length = M at *
      clear h hf hF hE
      go_enter Try.func44, Try.ntmps44
      go_wp2_with fail
      refine HIf.out.mono ?_
      rintro e w1 ⟨rfl, u1⟩
      have U1 := Lib.hid u1
      clear u1
      go_wp2_with fail
      refine (HC.out w1 U1.out).mono ?_
      rintro e w2 ⟨rfl, u2⟩
      have U2 := Lib.hid (U1.out.then u2)
      clear u2
      go_wp2_with fail
      go_ret2
      exact ⟨none, 0, 0, rfl, World.ownsRow_nil _ _ _ _, U2.out⟩
end Go.Proofs.Ytopjjdfnnjgnlaa
