/- stereo: the law Cross -/
import Derived.Test.YtopjjdfnnjgnlaaUR
namespace Go.Proofs.Ytopjjdfnnjgnlaa
open Go.RowKit Go.Shelf

theorem wpList_push {w : World} {ops : Array Oper} {rest : List Oper} {o : Oper} {a : Act} {Q : Exit → Act → World → Prop} (hgd : o.guard = none) (s x : Operand)
    (ho : o.op = .call { callee := .builtin .append, args := #[s, x], argTypes := #[22, 22] }) (B : Nat) (v : Value) (n : Nat) (xs : List Int) (y : Int) (hs : a.eval s = v) (hx : a.eval x = .slice (some ⟨w.heap.size, 0, none⟩) 1 1)
    (hown : w.ownsRow B 3 1 v n (i64s xs)) (hn : n ≤ 1000000) (hB : B ≤ w.heap.size)
    (hK : ∀ v' w', w'.ownsRow B 3 1 v' (n + 1) (i64s (xs ++ [y])) → Upd (fun k => B ≤ k) w w' → wpList Try.prog ops Q rest (a.put o.dst v') w') : wpList Try.prog ops Q (o :: rest) a (w.alloc (.cells #[.int .i64 y] 3)) := by
  obtain ⟨i0, hi, hz0, hz1, hz2⟩ := info_parts Try.infoInt
  have u : Upd NoB w (w.alloc (.cells #[.int .i64 y] 3)) := (Upd.refl _ _).alloc _
  refine wpList_append_own (w := w.alloc (.cells #[.int .i64 y] 3)) hgd s x 22 ho B 3 i0 (.int .i64 0) 1 8 Try.underlying22 hi hz0 hz1 hz2 rfl (by decide) v n (i64s xs) hs (u.row hown (fun k _ => noB k)) ⟨w.heap.size, 0, none⟩ 1 1 [.int .i64 y] hx rfl (World.news_of_block (heap_alloc_new w _)) (by intro u hu; rw [List.mem_singleton] at hu; subst hu; rfl) (by unfold maxLen; omega) (by omega) (Nat.le_trans hB u.size) ?_
  intro v' w' hown' hgr _
  refine hK v' w' (by rw [i64s_append]; exact hown') ?_
  exact ((u.mono (T := fun k => B ≤ k) (fun _ _ h => h.elim))).grown hgr (fun k hk _ => (hown.lt k hk).1)
theorem upd_ge {w w' : World} (h : Upd (fun k => w.heap.size ≤ k) w w') : Upd NoB w w' := h.mono (fun k hk h => by omega)
theorem upd_ge' {w w' : World} (h : Upd NoB w w') (B : Nat) : Upd (fun k => B ≤ k) w w' := h.mono (fun _ _ h => h.elim)
theorem crF_comm (A B X : Int) : crF A B X = crF B A X := by unfold crF; rw [Int.max_comm A B]
theorem crF_neg (A B X : Int) : crF A B (-X) = -crF A B X := by
  unfold crF
  by_cases h1 : X < 0
  · rw [if_neg (by omega), if_pos (by omega), if_pos h1, Int.neg_neg]
  · by_cases h2 : 0 < X
    · rw [if_pos (by omega), if_neg h1, if_pos h2, Int.neg_neg]
    · rw [if_neg (by omega), if_neg (by omega), if_neg h1, if_neg h2]; rfl
theorem q_bd {X m : Int} (h0 : 0 < X) (h : X ≤ m) : 0 ≤ 256 * X / m ∧ 256 * X / m ≤ 256 := by
  refine ⟨Int.ediv_nonneg (by omega) (by omega), ?_⟩
  have : 256 * X / m < 257 := Int.ediv_lt_of_lt_mul (by omega) (by omega)
  omega
theorem crF_bd (A B X : Int) : -256 ≤ crF A B X ∧ crF A B X ≤ 256 := by
  unfold crF
  split
  · rename_i h
    have := q_bd (X := -X) (m := max (max A B) (-X)) (by omega) (by omega)
    omega
  · split
    · rename_i h
      have := q_bd (X := X) (m := max (max A B) X) (by omega) (by omega)
      omega
    · omega
def ngL (l : List Int) : List Int := l.map fun x => -x
theorem ngL_len (l : List Int) : (ngL l).length = l.length := by simp [ngL]
theorem ngL_getD (l : List Int) (i : Nat) : (ngL l).getD i 0 = -(l.getD i 0) := by
  unfold ngL
  rw [List.getD_eq_getElem?_getD, List.getD_eq_getElem?_getD, List.getElem?_map]
  cases l[i]? <;> simp
theorem ngL_get {l : List Int} {k : Nat} {x : Int} (h : l[k]? = some x) : (ngL l)[k]? = some (-x) := by unfold ngL; rw [List.getElem?_map, h]; rfl
theorem ngL_take {l : List Int} {k : Nat} {x : Int} (h : l[k]? = some x) : ngL (l.take (k + 1)) = ngL (l.take k) ++ [-x] := by
  unfold ngL; rw [List.take_add_one, h]; simp
theorem P2_swap (l r : List Int) (i : Nat) : P2 r l i = ((P2 l r i).2, (P2 l r i).1) := rfl
theorem P2_ng (l r : List Int) (i : Nat) : P2 (ngL l) r i = (-(P2 l r i).1, (P2 l r i).2) := by unfold P2; rw [ngL_getD]
theorem crL_comm (l r ws : List Int) : crL r l ws = crL l r ws := by
  unfold crL
  refine List.map_congr_left fun k _ => ?_
  unfold crV
  rw [crF_comm]
  congr 1
  unfold prX
  exact sm_congr fun t _ => by unfold bdP; rw [P2_swap]; exact Int.mul_comm _ _
theorem crF_congr {A A' B B' X X' : Int} (h1 : A = A') (h2 : B = B') (h3 : X = X') : crF A B X = crF A' B' X' := by rw [h1, h2, h3]
theorem crL_ng (l r ws : List Int) : crL (ngL l) r ws = ngL (crL l r ws) := by
  rw [show ngL (crL l r ws) = (crL l r ws).map (fun x => -x) from rfl]
  unfold crL
  rw [List.map_map]
  refine List.map_congr_left fun k _ => ?_
  show crV _ _ = -crV _ _
  unfold crV
  rw [← crF_neg]
  refine crF_congr ?_ ?_ ?_
  · unfold sqA; exact sm_congr fun t _ => by unfold bdP; rw [P2_ng]; show -_ * -_ = _; rw [Int.neg_mul_neg]
  · unfold sqB; exact sm_congr fun t _ => by unfold bdP; rw [P2_ng]
  · unfold prX; rw [← sm_neg]; exact sm_congr fun t _ => by unfold bdP; rw [P2_ng]; show -_ * _ = _; rw [Int.neg_mul]
theorem chE_comm (l r ws : List Int) (M : Int) : chE r l ws M = chE l r ws M := by
  unfold chE
  by_cases a : l.length = 128 <;> by_cases b : r.length = 128 <;> simp [a, b, Bool.and_comm]
theorem crS_comm (l r ws : List Int) : crS r l ws = crS l r ws := by unfold crS; rw [chE_comm, crL_comm]
theorem chE_ng {l r ws : List Int} (h : chE l r ws 2097152 = 0) : chE (ngL l) r ws 2097152 = 0 := by
  obtain ⟨h1, h2, h3, h4, h5⟩ := chE_ok h
  refine chE_of h1 (by rw [ngL_len]; exact h2) h3 (inM_all fun x hx => ?_) h5
  obtain ⟨y, hy, rfl⟩ := List.mem_map.1 hx
  have := inM_yes h4 y hy
  omega
theorem crS_ng {l r ws : List Int} (h : chE l r ws 2097152 = 0) : crS (ngL l) r ws = ngL (crS l r ws) := by
  unfold crS
  rw [if_pos h, if_pos (chE_ng h), crL_ng]
theorem crS_le (l r ws : List Int) : (crS l r ws).length ≤ 1000000 := by
  unfold crS
  split
  · rename_i h
    have := (isW_ok (chE_ok h).1).1
    rw [crL_len]; omega
  · decide
theorem crS_at {l r ws : List Int} (h : chE l r ws 2097152 = 0) : (crS l r ws).length = ws.length ∧ ∀ k, k < ws.length → ∃ x, (crS l r ws)[k]? = some x ∧ -256 ≤ x ∧ x ≤ 256 := by
  have e : crS l r ws = crL l r ws := if_pos h
  rw [e]
  refine ⟨crL_len _ _ _, fun k hk => ?_⟩
  unfold crL
  rw [rmap_get _ hk]
  exact ⟨_, rfl, crF_bd _ _ _⟩
set_option maxRecDepth 100000 in
set_option maxHeartbeats 8000000 in
theorem cross_st (lv rv wv : Value) (l r ws : List Int) (w : World) (hl : Ints w lv l) (hr : Ints w rv r) (hw : Ints w wv ws) : Calls Try.prog 8 #[.agg #[lv, rv], wv] w fun e w' => e = .returned (.bool true) ∧ Upd NoB w w' := by
  have HL := Lib.hid hl; have HR := Lib.hid hr; have HW := Lib.hid hw
  have HP := Lib.hid (fun Z (h1 : Ints Z lv l) (h2 : Ints Z rv r) (h3 : Ints Z wv ws) => Cross_any lv rv wv l r ws Z h1 h2 h3)
  have HP2 := Lib.hid (fun Z (h1 : Ints Z lv l) (h2 : Ints Z rv r) (h3 : Ints Z wv ws) => (show Calls Try.prog 22 #[rv, lv, wv] Z (EInts Z (crS l r ws) (chE l r ws 2097152)) by
    have := Cross_any rv lv wv r l ws Z h2 h1 h3
    rw [crS_comm, chE_comm] at this
    exact this))
  have HQ := Lib.hid (fun (hE : chE l r ws 2097152 = 0) Z v (h1 : Ints Z v (ngL l)) (h2 : Ints Z rv r) (h3 : Ints Z wv ws) => (show Calls Try.prog 22 #[v, rv, wv] Z (EInts Z (ngL (crS l r ws)) 0) by
    have := Cross_any v rv wv (ngL l) r ws Z h1 h2 h3
    rw [crS_ng hE, chE_ng hE] at this
    exact this))
  have HC9 := Lib.hid (crS_le l r ws)
  have HLE := Lib.hid (fun hE : chE l r ws 2097152 = 0 => And.intro (chE_ok hE).2.1 (And.intro (crS_at hE) (show ∀ x ∈ l, -2097152 ≤ x ∧ x ≤ 2097152 from inM_yes (chE_ok hE).2.2.2.1)))
  have HTk := Lib.hid (fun k x (h : l[k]? = some x) => ngL_take h)
  have HTe := Lib.hid (show ngL (l.take l.length) = ngL l by rw [List.take_length])
  obtain ⟨la, lc, rfl⟩ := hl.form
  obtain ⟨ra, rc, rfl⟩ := hr.form
  obtain ⟨wa, wc, rfl⟩ := hw.form
  obtain ⟨L, hL⟩ : ∃ L, l.length = L := ⟨_, rfl⟩
  have HLl := Lib.hid hL
  rw [hL] at HP HP2 HL HLE HTe ⊢
  generalize r.length = R at *
  generalize ws.length = N at *
  obtain ⟨C, hC⟩ : ∃ C, crS l r ws = C := ⟨_, rfl⟩
  obtain ⟨E, hE⟩ : ∃ E, chE l r ws 2097152 = E := ⟨_, rfl⟩
  rw [hC, hE] at HP HP2 HQ HLE
  rw [hC] at HC9
  have HF := Lib.hid (fun Z => few_any la ra wa none L R N 0 lc rc wc 0 Z)
  have hEE : (E == E) = true := by simp
  have hEN : (E != E) = false := by simp
  clear hl hr hw hL hC hE
  cases hf : fewB L R N 0 with
  | false =>
    rw [hf] at HF
    clear hf HP HP2 HQ HLE HC9 HTk HTe hEE hEN
    go_enter Try.func8, Try.ntmps8
    have d0 := cell_of_block0 (heap_alloc_new w (.cells #[.slice la L lc, .slice ra R rc] 24))
    have d1 := cell_of_block1 (heap_alloc_new w (.cells #[.slice la L lc, .slice ra R rc] 24))
    have HC := Lib.hid (fun Z (u : Upd NoB (w.alloc (.cells #[.slice la L lc, .slice ra R rc] 24)) Z) => And.intro (u.cell d0 (noB _)) (u.cell d1 (noB _)))
    have b0 : Upd NoB w (w.alloc (.cells #[.slice la L lc, .slice ra R rc] 24)) := (Upd.refl _ _).alloc _
    have B0 := Lib.hid b0
    clear d0 d1 b0
    obtain ⟨d0, d1⟩ := HC.out _ (Upd.refl NoB (w.alloc (.cells #[.slice la L lc, .slice ra R rc] 24)))
    go_wp2_with fail
    clear d0 d1
    refine (HF.out _).mono ?_
    rintro e w1 ⟨rfl, u1⟩
    have UU1 := Lib.hid ((Upd.refl NoB (w.alloc (.cells #[.slice la L lc, .slice ra R rc] 24))).then u1)
    clear u1
    go_wp2_with fail
    refine (awake_st _).mono ?_
    rintro e w2 ⟨rfl, u2⟩
    have UU2 := Lib.hid (UU1.out.then u2)
    clear UU1
    clear u2
    go_wp2_with fail
    go_ret
    exact ⟨rfl, B0.out.then UU2.out⟩
  | true =>
    rw [hf] at HF
    clear hf
    by_cases hE : E = 0
    · subst hE
      obtain ⟨hLe, hAt, hIn⟩ := HLE.out rfl
      have HAt := Lib.hid hAt; have HIn := Lib.hid hIn
      have HL9 := Lib.hid (show L ≤ 1000000 by omega)
      have HQ1 := Lib.hid (HQ.out rfl)
      clear HQ HLE hLe hAt hIn hEE hEN
      go_enter Try.func8, Try.ntmps8
      have d0 := cell_of_block0 (heap_alloc_new w (.cells #[.slice la L lc, .slice ra R rc] 24))
      have d1 := cell_of_block1 (heap_alloc_new w (.cells #[.slice la L lc, .slice ra R rc] 24))
      have HC := Lib.hid (fun Z (u : Upd NoB (w.alloc (.cells #[.slice la L lc, .slice ra R rc] 24)) Z) => And.intro (u.cell d0 (noB _)) (u.cell d1 (noB _)))
      have b0 : Upd NoB w (w.alloc (.cells #[.slice la L lc, .slice ra R rc] 24)) := (Upd.refl _ _).alloc _
      have B0 := Lib.hid b0
      have HL0 := Lib.hid (HL.out.later b0)
      clear HL
      have HR0 := Lib.hid (HR.out.later b0)
      clear HR
      have HW0 := Lib.hid (HW.out.later b0)
      clear HW
      clear d0 d1 b0
      obtain ⟨d0, d1⟩ := HC.out _ (Upd.refl NoB (w.alloc (.cells #[.slice la L lc, .slice ra R rc] 24)))
      go_wp2_with fail
      clear d0 d1
      refine (HF.out _).mono ?_
      rintro e w1 ⟨rfl, u1⟩
      have HL1 := Lib.hid (HL0.out.later u1)
      clear HL0
      have HR1 := Lib.hid (HR0.out.later u1)
      clear HR0
      have HW1 := Lib.hid (HW0.out.later u1)
      clear HW0
      have UU1 := Lib.hid ((Upd.refl NoB (w.alloc (.cells #[.slice la L lc, .slice ra R rc] 24))).then u1)
      clear u1
      obtain ⟨d0, d1⟩ := HC.out _ UU1.out
      go_wp2_with fail
      clear d0 d1
      refine (HP.out _ HL1.out HR1.out HW1.out).mono ?_
      intro e w2 hr
      obtain ⟨a2, c2, rfl, i2, u2⟩ := EInts.open hr HC9.out
      have HL2 := Lib.hid (HL1.out.later u2)
      clear HL1
      have HR2 := Lib.hid (HR1.out.later u2)
      clear HR1
      have HW2 := Lib.hid (HW1.out.later u2)
      clear HW1
      have UU2 := Lib.hid (UU1.out.then u2)
      clear UU1
      have CA2 := Lib.hid (i2)
      clear u2
      clear hr i2
      obtain ⟨CL, hCL⟩ : ∃ CL, C.length = CL := ⟨_, rfl⟩
      have HCL := Lib.hid hCL
      rw [hCL] at CA2 ⊢
      clear hCL
      obtain ⟨d0, d1⟩ := HC.out _ UU2.out
      go_wp2_with fail
      clear d0 d1
      refine (HP2.out _ HL2.out HR2.out HW2.out).mono ?_
      intro e w3 hr
      obtain ⟨a3, c3, rfl, i3, u3⟩ := EInts.open hr HC9.out
      have HL3 := Lib.hid (HL2.out.later u3)
      clear HL2
      have HR3 := Lib.hid (HR2.out.later u3)
      clear HR2
      have HW3 := Lib.hid (HW2.out.later u3)
      clear HW2
      have CA3 := Lib.hid (CA2.out.later u3)
      clear CA2
      have UU3 := Lib.hid (UU2.out.then u3)
      clear UU2
      have CB3 := Lib.hid (i3)
      clear u3
      clear hr i3
      rw [HCL.out] at CB3 ⊢
      go_wp2_with fail
      refine (qints_any _ _ C C _ CA3.out CB3.out).mono ?_
      rw [intsB_self]
      rintro e w4 ⟨rfl, m4, hw4⟩
      have u4 : Upd NoB w3 w4 := by rw [hw4]; exact upd_drewN (Upd.refl _ _) _
      have HL4 := Lib.hid (HL3.out.later u4)
      clear HL3
      have HR4 := Lib.hid (HR3.out.later u4)
      clear HR3
      have HW4 := Lib.hid (HW3.out.later u4)
      clear HW3
      have CA4 := Lib.hid (CA3.out.later u4)
      clear CA3
      have CB4 := Lib.hid (CB3.out.later u4)
      clear CB3
      have UU4 := Lib.hid (UU3.out.then u4)
      clear UU3
      clear u4 hw4
      clear CB4
      obtain ⟨d0, d1⟩ := HC.out _ UU4.out
      go_wp2_with fail
      clear d0 d1
      go_loopw [9, 65] (fun v i wr => ∃ k : Nat, k ≤ L ∧ i = .int .i64 k ∧ wr.ownsRow w4.heap.size 3 1 v k (i64s (ngL (l.take k))) ∧ Upd NoB w4 wr) (fun _ i _ => L - (intOf i).toNat)
      case atStart => exact ⟨0, Nat.zero_le _, rfl, World.ownsRow_nil _ _ _ _, Upd.refl _ _⟩
      case round =>
        obtain ⟨k, hk, rfl, hown, hu⟩ := hrel
        obtain ⟨va, vc, rfl⟩ := row_form hown
        have hb := hu.size
        by_cases hlt : k < L
        · obtain ⟨v, hv⟩ : ∃ v, l[k]? = some v := ⟨_, List.getElem?_eq_getElem (by rw [HLl.out]; exact hlt)⟩
          obtain ⟨bb, off, rfl, c0⟩ := (HL4.out.later hu).cellAt hv
          have hvi := HIn.out v (List.mem_of_getElem? hv)
          have HT := Lib.hid (HTk.out k v hv)
          have z1 : wrap64 (-v) = -v := IntWalk.wrap64_in _ (by omega)
          have z2 : IntKind.i64.wrap (-v) = -v := IntWalk.i64_in _ (by clear z1; omega)
          have hk1 : k ≤ 1000000 := by have := HL9.out; clear z1 z2; omega
          have HO := Lib.hid hown; have HU := Lib.hid hu
          clear hown hu hv hvi
          go_wp2_with (at_builtin; refine wpList_push rfl (.tmp 69) (.tmp 72) rfl w4.heap.size (.slice va k vc) k (ngL (l.take k)) (-v) rfl rfl HO.out hk1 hb ?_; intro v' w' hown' u'; have R' := Lib.hid hown'; have U' := Lib.hid u'; clear hown' u')
          go_roundw
          case rel => exact ⟨k + 1, by clear z1 z2; omega, by go_num, by rw [HT.out]; exact R'.out, upd_ge ((upd_ge' HU.out w4.heap.size).trans U'.out (fun _ _ h => h))⟩
          case measure => clear z1 z2; simp [intOf]; omega
        · obtain rfl : k = L := by omega
          rw [HTe.out] at hown
          have i5 : Ints wr (.slice va k vc) (ngL l) := by
            have hq : (ngL l).length = k := by rw [ngL_len, HLl.out]
            have ho := hown
            rw [← hq] at ho
            have := Ints.ofRow ho (by have := HL9.out; omega)
            rw [hq] at this
            exact this
          have u5 := hu
          have HL5 := Lib.hid (HL4.out.later u5)
          clear HL4
          have HR5 := Lib.hid (HR4.out.later u5)
          clear HR4
          have HW5 := Lib.hid (HW4.out.later u5)
          clear HW4
          have CA5 := Lib.hid (CA4.out.later u5)
          clear CA4
          have UU5 := Lib.hid (UU4.out.then u5)
          clear UU4
          have NG5 := Lib.hid i5
          clear hown hu hb hlt i5 u5
          obtain ⟨d0, d1⟩ := HC.out _ UU5.out
          go_wp2_with fail
          clear d0 d1
          refine (HQ1.out _ _ NG5.out HR5.out HW5.out).mono ?_
          intro e w6 hr
          obtain ⟨a6, c6, rfl, i6, u6⟩ := EInts.open hr (by rw [ngL_len, HCL.out]; have := HC9.out; rw [HCL.out] at this; exact this)
          rw [ngL_len, HCL.out] at i6 ⊢
          clear HL5
          clear HR5
          clear HW5
          have CA6 := Lib.hid (CA5.out.later u6)
          clear CA5
          clear NG5
          have UU6 := Lib.hid (UU5.out.then u6)
          clear UU5
          have EA6 := Lib.hid (i6)
          clear u6
          clear hr i6
          obtain rfl : CL = N := by have := HAt.out.1; rw [HCL.out] at this; exact this
          go_wp2_with fail
          go_loopw [101] (fun i wz => ∃ k : Nat, k ≤ CL ∧ i = .int .i64 k ∧ Upd NoB w6 wz) (fun i _ => CL - (intOf i).toNat)
          case atStart => exact ⟨0, Nat.zero_le _, rfl, Upd.refl _ _⟩
          case round =>
            obtain ⟨k2, hk2, rfl, hu⟩ := hrel
            have HU := Lib.hid hu
            by_cases hlt : k2 < CL
            · obtain ⟨x, hx, hx1, hx2⟩ := HAt.out.2 k2 hlt
              have hy := ngL_get hx
              obtain ⟨b1, o1, rfl, c1⟩ := (CA6.out.later hu).cellAt hx
              obtain ⟨b2, o2, rfl, c2⟩ := (EA6.out.later hu).cellAt hy
              have t1 : decide (x < -256) = false := decide_eq_false (by omega)
              have t2 : decide (256 < x) = false := decide_eq_false (by omega)
              have t3 : ((-x) != (-x)) = false := by simp
              have z1 : wrap64 (-x) = -x := IntWalk.wrap64_in _ (by omega)
              have z2 : IntKind.i64.wrap (-x) = -x := IntWalk.i64_in _ (by clear z1; omega)
              have hk1 : k2 ≤ 1000000 := by have := HC9.out; rw [HCL.out] at this; clear z1 z2; omega
              clear hx hy hx1 hx2 hu
              go_wp2_with fail
              go_quiet (fail)
              go_wp2_with fail
              go_roundw
              case rel => exact ⟨k2 + 1, by clear z1 z2; omega, by go_num, upd_drewN HU.out _⟩
              case measure => clear z1 z2; simp [intOf]; omega
            · obtain rfl : k2 = CL := by omega
              have u7 := hu
              clear CA6
              clear EA6
              have UU7 := Lib.hid (UU6.out.then u7)
              clear UU6
              clear hu hlt u7
              go_wp2_with fail
              refine (awake_st _).mono ?_
              rintro e w8 ⟨rfl, u8⟩
              have UU8 := Lib.hid (UU7.out.then u8)
              clear UU7
              clear u8
              go_wp2_with fail
              go_ret
              exact ⟨rfl, B0.out.then UU8.out⟩
    · have t8 : (E != 0) = true := bne_iff_ne.2 hE
      have t9 : (E == 0) = false := beq_eq_false_iff_ne.2 hE
      clear hE HQ HLE HTk HTe
      go_enter Try.func8, Try.ntmps8
      have d0 := cell_of_block0 (heap_alloc_new w (.cells #[.slice la L lc, .slice ra R rc] 24))
      have d1 := cell_of_block1 (heap_alloc_new w (.cells #[.slice la L lc, .slice ra R rc] 24))
      have HC := Lib.hid (fun Z (u : Upd NoB (w.alloc (.cells #[.slice la L lc, .slice ra R rc] 24)) Z) => And.intro (u.cell d0 (noB _)) (u.cell d1 (noB _)))
      have b0 : Upd NoB w (w.alloc (.cells #[.slice la L lc, .slice ra R rc] 24)) := (Upd.refl _ _).alloc _
      have B0 := Lib.hid b0
      have HL0 := Lib.hid (HL.out.later b0)
      clear HL
      have HR0 := Lib.hid (HR.out.later b0)
      clear HR
      have HW0 := Lib.hid (HW.out.later b0)
      clear HW
      clear d0 d1 b0
      obtain ⟨d0, d1⟩ := HC.out _ (Upd.refl NoB (w.alloc (.cells #[.slice la L lc, .slice ra R rc] 24)))
      go_wp2_with fail
      clear d0 d1
      refine (HF.out _).mono ?_
      rintro e w1 ⟨rfl, u1⟩
      have HL1 := Lib.hid (HL0.out.later u1)
      clear HL0
      have HR1 := Lib.hid (HR0.out.later u1)
      clear HR0
      have HW1 := Lib.hid (HW0.out.later u1)
      clear HW0
      have UU1 := Lib.hid ((Upd.refl NoB (w.alloc (.cells #[.slice la L lc, .slice ra R rc] 24))).then u1)
      clear u1
      obtain ⟨d0, d1⟩ := HC.out _ UU1.out
      go_wp2_with fail
      clear d0 d1
      refine (HP.out _ HL1.out HR1.out HW1.out).mono ?_
      intro e w2 hr
      obtain ⟨a2, c2, rfl, i2, u2⟩ := EInts.open hr HC9.out
      have HL2 := Lib.hid (HL1.out.later u2)
      clear HL1
      have HR2 := Lib.hid (HR1.out.later u2)
      clear HR1
      have HW2 := Lib.hid (HW1.out.later u2)
      clear HW1
      have UU2 := Lib.hid (UU1.out.then u2)
      clear UU1
      have CA2 := Lib.hid (i2)
      clear u2
      clear hr i2
      obtain ⟨CL, hCL⟩ : ∃ CL, C.length = CL := ⟨_, rfl⟩
      have HCL := Lib.hid hCL
      rw [hCL] at CA2 ⊢
      clear hCL
      obtain ⟨d0, d1⟩ := HC.out _ UU2.out
      go_wp2_with fail
      clear d0 d1
      refine (HP2.out _ HL2.out HR2.out HW2.out).mono ?_
      intro e w3 hr
      obtain ⟨a3, c3, rfl, i3, u3⟩ := EInts.open hr HC9.out
      have HL3 := Lib.hid (HL2.out.later u3)
      clear HL2
      have HR3 := Lib.hid (HR2.out.later u3)
      clear HR2
      have HW3 := Lib.hid (HW2.out.later u3)
      clear HW2
      have CA3 := Lib.hid (CA2.out.later u3)
      clear CA2
      have UU3 := Lib.hid (UU2.out.then u3)
      clear UU2
      have CB3 := Lib.hid (i3)
      clear u3
      clear hr i3
      rw [HCL.out] at CB3 ⊢
      go_wp2_with fail
      refine (qints_any _ _ C C _ CA3.out CB3.out).mono ?_
      rw [intsB_self]
      rintro e w4 ⟨rfl, m4, hw4⟩
      have u4 : Upd NoB w3 w4 := by rw [hw4]; exact upd_drewN (Upd.refl _ _) _
      have HL4 := Lib.hid (HL3.out.later u4)
      clear HL3
      have HR4 := Lib.hid (HR3.out.later u4)
      clear HR3
      have HW4 := Lib.hid (HW3.out.later u4)
      clear HW3
      have CA4 := Lib.hid (CA3.out.later u4)
      clear CA3
      have CB4 := Lib.hid (CB3.out.later u4)
      clear CB3
      have UU4 := Lib.hid (UU3.out.then u4)
      clear UU3
      clear u4 hw4
      clear HL4
      clear HR4
      clear HW4
      go_wp2_with fail
      refine (qints_any _ _ C C _ CA4.out CB4.out).mono ?_
      rw [intsB_self]
      rintro e w5 ⟨rfl, m5, hw5⟩
      have u5 : Upd NoB w4 w5 := by rw [hw5]; exact upd_drewN (Upd.refl _ _) _
      clear CA4
      clear CB4
      have UU5 := Lib.hid (UU4.out.then u5)
      clear UU4
      clear u5 hw5
      go_wp2_with fail
      refine (awake_st _).mono ?_
      rintro e w6 ⟨rfl, u6⟩
      have UU6 := Lib.hid (UU5.out.then u6)
      clear UU5
      clear u6
      go_wp2_with fail
      go_ret
      exact ⟨rfl, B0.out.then UU6.out⟩
end Go.Proofs.Ytopjjdfnnjgnlaa
