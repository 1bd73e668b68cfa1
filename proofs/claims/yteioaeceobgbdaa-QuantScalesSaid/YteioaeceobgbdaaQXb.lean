/- quant: the reference's lists; the law Lists -/
import Derived.Test.YteioaeceobgbdaaQXa
namespace Go.Proofs.Yteioaeceobgbdaa
open Go.RowKit Go.Shelf

def inB (lo hi : Int) (xs : List Int) : Bool := xs.all fun v => decide (lo ≤ v ∧ v ≤ hi)
theorem inB_no {lo hi : Int} {xs : List Int} {k : Nat} {x : Int} (h : xs[k]? = some x) (hx : x < lo ∨ hi < x) : inB lo hi xs = false := by
  cases e : inB lo hi xs with
  | false => rfl
  | true =>
    have := of_decide_eq_true (List.all_eq_true.1 e x (List.mem_of_getElem? h))
    omega
theorem inB_all {lo hi : Int} {xs : List Int} (h : ∀ (j : Nat) (y : Int), xs[j]? = some y → lo ≤ y ∧ y ≤ hi) : inB lo hi xs = true := by
  unfold inB
  rw [List.all_eq_true]
  intro x hx
  obtain ⟨j, hj⟩ := List.getElem?_of_mem hx
  exact decide_eq_true (h j x hj)
set_option maxRecDepth 100000 in
set_option maxHeartbeats 2000000 in
theorem rwithin_any (m : Int) (sv : Value) (xs : List Int) (w : World) (hm : 0 ≤ m ∧ m ≤ 1152921504606846976) (h : Ints w sv xs) : Calls Try.prog 106 #[.int .i64 m, sv] w fun e w' => e = .returned (.bool (inB (-m) m xs)) ∧ w = w' := by
  obtain ⟨a, cap, rfl⟩ := h.form
  have H := Lib.hid h
  have hlb := h.1
  obtain ⟨L, hL⟩ : ∃ L, xs.length = L := ⟨_, rfl⟩
  have HL := Lib.hid hL
  rw [hL] at H hlb ⊢
  obtain ⟨d, hd⟩ : ∃ d, -m = d := ⟨_, rfl⟩
  have y1 : IntKind.i64.wrap (-m) = d := by rw [hd]; exact IntWalk.i64_in _ (by omega)
  have y2 : wrap64 (-m) = d := by rw [hd]; exact IntWalk.wrap64_in _ (by omega)
  rw [hd]
  clear h hL hd hm
  go_enter Try.func106, Try.ntmps106
  go_wp2_with fail
  go_loop [9] (fun i => ∃ k : Nat, k ≤ L ∧ i = .int .i64 k ∧ ∀ (j : Nat) (y : Int), j < k → xs[j]? = some y → d ≤ y ∧ y ≤ m) (fun i => L - (intOf i).toNat)
  case atStart => exact ⟨0, Nat.zero_le _, rfl, fun j y hj => by omega⟩
  case round =>
    obtain ⟨k, hk, rfl, hin⟩ := hrel
    have HIn := Lib.hid hin; clear hin
    by_cases hlt : k < L
    · obtain ⟨x, hx⟩ : ∃ x, xs[k]? = some x := ⟨_, List.getElem?_eq_getElem (by rw [HL.out]; exact hlt)⟩
      obtain ⟨bb, off, rfl, c0⟩ := H.out.cellAt hx
      by_cases hlo : x < d
      · have t1 : decide (x < d) = true := decide_eq_true hlo
        have HN := Lib.hid (inB_no (lo := d) (hi := m) hx (.inl hlo))
        clear hx hlo
        go_wp2_with fail
        go_ret
        exact ⟨by rw [HN.out]; rfl, rfl⟩
      · have t1 : decide (x < d) = false := decide_eq_false hlo
        by_cases hhi : m < x
        · have t2 : decide (m < x) = true := decide_eq_true hhi
          have HN := Lib.hid (inB_no (lo := d) (hi := m) hx (.inr hhi))
          clear hx hlo hhi
          go_wp2_with fail
          go_ret
          exact ⟨by rw [HN.out]; rfl, rfl⟩
        · have t2 : decide (m < x) = false := decide_eq_false hhi
          have HM := Lib.hid (show ∀ (j : Nat) (y : Int), j < k + 1 → xs[j]? = some y → d ≤ y ∧ y ≤ m from fun j y hj hy => by
            by_cases e : j = k
            · subst e; rw [hx] at hy; cases hy; omega
            · exact HIn.out j y (by omega) hy)
          clear hx hlo hhi
          go_wp2_with fail
          go_round
          case rel => exact ⟨k + 1, by omega, by go_num, HM.out⟩
          case measure => simp [intOf]; omega
    · obtain rfl : k = L := by omega
      have HN := Lib.hid (inB_all (lo := d) (hi := m) fun j y hy => HIn.out j y (by have := (List.getElem?_eq_some_iff.1 hy).1; rw [HL.out] at this; exact this) hy)
      clear hlt
      go_wp2_with fail
      go_ret
      exact ⟨by rw [HN.out]; rfl, rfl⟩
set_option maxRecDepth 100000 in
theorem rWithin_any (m : Int) (sv : Value) (xs : List Int) (w : World) (hm : 0 ≤ m ∧ m ≤ 1152921504606846976) (h : Ints w sv xs) : Calls Try.prog 72 #[.int .i64 m, sv] w fun e w' => e = .returned (.bool (inB (-m) m xs)) ∧ w = w' := by
  have HW := Lib.hid (rwithin_any m sv xs w hm h)
  obtain ⟨a, cap, rfl⟩ := h.form
  generalize inB (-m) m xs = z at *
  generalize xs.length = L at *
  clear h hm
  go_enter Try.func72, Try.ntmps72
  go_wp2_with fail
  refine HW.out.mono ?_
  rintro e w' ⟨rfl, rfl⟩
  go_wp2_with fail
  go_ret
  exact ⟨rfl, rfl⟩
theorem rWithinM_any (m : Int) (sv : Value) (xs : List Int) (w : World) (hm : 0 ≤ m ∧ m ≤ 1152921504606846976) (h : Ints w sv xs) : Calls Try.prog 72 #[.int .i64 m, sv] w fun e w' => e = .returned (.bool (inM m xs)) ∧ w = w' :=
  rWithin_any m sv xs w hm h
@[local go_sem high] theorem run_max3b {P : Program} (w : World) (ts : Array TypeId) (t : TypeId) (k k' k'' : IntKind) (x y z : Int) :
    (Builtin.max_ ts t #[.int k x, .int k' y, .int k'' z]).run P w = .ok (.int k (max (max x y) z)) w := by
  have e : ∀ a b : Int, (if b > a then b else a) = max a b := fun a b => by
    rw [Int.max_def]
    split <;> split <;> omega
  simp [Builtin.max_, Builtin.max2, e]
set_option maxRecDepth 100000 in
theorem rlist_any (sv : Value) (xs : List Int) (m : Int) (w : World) (hm : 0 ≤ m ∧ m ≤ 1152921504606846976) (h : Ints w sv xs) : Calls Try.prog 55 #[sv, .int .i64 m] w fun e w' => e = .returned (.int .i64 (ckQ m xs)) ∧ w' = w := by
  have HW := Lib.hid (rWithin_any m sv xs w hm h)
  have HF := Lib.hid (show ckQ m xs = if 128 < xs.length then 2 else if inB (-m) m xs = true then 0 else 6 from rfl)
  rw [HF.out]
  obtain ⟨a, cap, rfl⟩ := h.form
  generalize inB (-m) m xs = z at *
  generalize xs.length = L at *
  clear h HF hm
  by_cases hL : 128 < L
  · have t1 : decide ((128 : Int) < (L : Int)) = true := decide_eq_true (by omega)
    have t2 : decide (128 < L) = true := decide_eq_true hL
    rw [if_pos hL]
    clear hL HW
    go_enter Try.func55, Try.ntmps55
    go_wp2_with fail
    go_ret
    exact ⟨rfl, rfl⟩
  · have t1 : decide ((128 : Int) < (L : Int)) = false := decide_eq_false (by omega)
    have t2 : decide (128 < L) = false := decide_eq_false hL
    rw [if_neg hL]
    clear hL
    cases z
    · go_enter Try.func55, Try.ntmps55
      go_wp2_with fail
      refine HW.out.mono ?_
      rintro e w' ⟨rfl, rfl⟩
      go_wp2_with fail
      go_ret
      exact ⟨rfl, rfl⟩
    · go_enter Try.func55, Try.ntmps55
      go_wp2_with fail
      refine HW.out.mono ?_
      rintro e w' ⟨rfl, rfl⟩
      go_wp2_with fail
      go_ret
      exact ⟨rfl, rfl⟩
set_option maxRecDepth 100000 in
set_option maxHeartbeats 2000000 in
theorem rgreat_any (sv : Value) (xs : List Int) (w : World) (h : Ints w sv xs) (hl : xs.length ≤ 200) (hin : inM 2097152 xs = true) : Calls Try.prog 99 #[sv] w fun e w' => e = .returned (.int .i64 (mxL (xs.map szI))) ∧ w' = w := by
  have H := Lib.hid h
  have HMx := Lib.hid (fun (k : Nat) (x : Int) (hx : xs[k]? = some x) => (show mxL ((xs.map szI).take (k + 1)) = max (mxL ((xs.map szI).take k)) (max x (-x)) ∧ -2097152 ≤ x ∧ x ≤ 2097152 from
    ⟨mxL_take (show (xs.map szI)[k]? = some (szI x) by rw [List.getElem?_map, hx]; rfl), inM_yes hin x (List.mem_of_getElem? hx)⟩))
  have HM0 := Lib.hid (show mxL ((xs.map szI).take 0) = 0 from rfl)
  have HML := Lib.hid (show mxL ((xs.map szI).take xs.length) = mxL (xs.map szI) by rw [← List.length_map (f := szI), List.take_length])
  obtain ⟨a, cap, rfl⟩ := h.form
  obtain ⟨L, hL⟩ : ∃ L, xs.length = L := ⟨_, rfl⟩
  have HL := Lib.hid hL
  rw [hL] at H HML hl ⊢
  have HLb := Lib.hid hl
  generalize xs.map szI = cs at *
  clear h hL hl hin
  go_enter Try.func99, Try.ntmps99
  go_wp2_with fail
  go_loop [3, 8] (fun m i => ∃ k : Nat, k ≤ L ∧ i = .int .i64 k ∧ m = .int .i64 (mxL (cs.take k))) (fun _ i => L - (intOf i).toNat)
  case atStart => exact ⟨0, Nat.zero_le _, rfl, by rw [HM0.out]⟩
  case round =>
    obtain ⟨k, hk, rfl, rfl⟩ := hrel
    by_cases hlt : k < L
    · obtain ⟨x, hx⟩ : ∃ x, xs[k]? = some x := ⟨_, List.getElem?_eq_getElem (by rw [HL.out]; exact hlt)⟩
      obtain ⟨b1, o1, rfl, e1⟩ := H.out.cellAt hx
      obtain ⟨hm, hx0⟩ := HMx.out k x hx
      have HM := Lib.hid hm
      generalize mxL (cs.take k) = M at *
      have z1 : wrap64 (-x) = -x := IntWalk.wrap64_in _ (by omega)
      have z2 : IntKind.i64.wrap (-x) = -x := IntWalk.i64_in _ (by clear z1; omega)
      have hk6 : k ≤ 1000000 := by have := HLb.out; clear z1 z2; omega
      clear hx hm hx0
      go_wp2_with fail
      go_round
      case rel => exact ⟨k + 1, by omega, by go_num, by rw [HM.out]⟩
      case measure => clear z1 z2; simp [intOf]; omega
    · obtain rfl : k = L := by omega
      rw [HML.out]
      clear hlt
      go_wp2_with fail
      go_ret
      exact ⟨rfl, rfl⟩
theorem mxL_ge {cs : List Int} {c : Int} (h : c ∈ cs) : c ≤ mxL cs := by
  have key : ∀ (zs : List Int) (a : Int), a ≤ zs.foldl max a ∧ ∀ z ∈ zs, z ≤ zs.foldl max a := by
    intro zs
    induction zs with
    | nil => intro a; exact ⟨Int.le_refl _, fun z hz => by cases hz⟩
    | cons y zs ih =>
      intro a
      obtain ⟨h1, h2⟩ := ih (max a y)
      rw [List.foldl_cons]
      refine ⟨by omega, fun z hz => ?_⟩
      rcases List.mem_cons.1 hz with rfl | hz
      · omega
      · exact h2 z hz
  exact (key cs 0).2 c h
/-- the table up to the greatest one serves all coefficients -/
theorem tab_ok {xs : List Int} {s : Nat} {c : Int} (h : c ∈ xs) : fsN s (mxL (xs.map szI)) + 1 = 1024 ∨ max c (-c) ≤ vlN s (fsN s (mxL (xs.map szI)) + 1 - 1) := by
  have hc : max c (-c) ≤ mxL (xs.map szI) := mxL_ge (List.mem_map.2 ⟨c, h, rfl⟩)
  have hl := fsN_le s (mxL (xs.map szI))
  rcases Nat.lt_or_ge (fsN s (mxL (xs.map szI))) 1023 with e | e
  · right
    have := fsN_yes e
    rw [Nat.add_sub_cancel]
    omega
  · left; omega
def ITwo (w : World) (ys : List Int) (e : Ending) (w' : World) : Prop := ∃ a c, e = .returned (.slice a ys.length c) ∧ Ints w' (.slice a ys.length c) ys ∧ Upd NoB w w'
set_option maxRecDepth 100000 in
set_option maxHeartbeats 4000000 in
theorem rQBy_any (pv sv : Value) (xs : List Int) (s : Nat) (w : World) (hs : s ≤ 95) (hp : Ints w pv (powL 1024)) (h : Ints w sv xs) (hl : xs.length ≤ 128) (hin : inM 2097152 xs = true) : Calls Try.prog 56 #[pv, sv, .int .i64 (s : Int)] w (ITwo w (xs.map (sgQ s))) := by
  have HGr := Lib.hid (fun W (u : Upd NoB w W) => rgreat_any sv xs W (h.later u) (by omega) hin)
  have HVa := Lib.hid (fun W (u : Upd NoB w W) => rvalues_any pv s (mxL (xs.map szI)) W hs (hp.later u))
  have hf := fsN_le s (mxL (xs.map szI))
  have HN := Lib.hid (fun (k : Nat) (x : Int) (hx : xs[k]? = some x) tv W (ht : Ints W tv (valL s (fsN s (mxL (xs.map szI)) + 1))) => rnear_any x tv s _ W hs (by omega) (by omega) (inM_yes hin x (List.mem_of_getElem? hx)) (tab_ok (List.mem_of_getElem? hx)) ht)
  have HX := Lib.hid (fun W (u : Upd NoB w W) => h.later u)
  have HE := Lib.hid (show (xs.take xs.length).map (sgQ s) = xs.map (sgQ s) by rw [List.take_length])
  have HT := Lib.hid (fun k x (h : xs[k]? = some x) => mmap_take (f := sgQ s) h)
  have HMl := Lib.hid (show (xs.map (sgQ s)).length = xs.length from List.length_map _)
  obtain ⟨a, cap, rfl⟩ := h.form
  obtain ⟨pa, pc, rfl⟩ := hp.form
  obtain ⟨L, hL⟩ : ∃ L, xs.length = L := ⟨_, rfl⟩
  have HL := Lib.hid hL
  rw [hL] at hl HE HX HGr HMl ⊢
  generalize (powL 1024).length = PL at *
  generalize mxL (xs.map szI) = g at *
  generalize fsN s g = F at *
  generalize valL s (F + 1) = T at *
  generalize xs.map (sgQ s) = R at *
  clear h hin hs hL hf hp
  go_enter Try.func56, Try.ntmps56
  go_wp2_with fail
  refine (HGr.out _ (Upd.refl _ _)).mono ?_
  rintro e w1 ⟨rfl, hw⟩
  rw [hw]
  clear hw w1
  go_wp2_with fail
  refine (HVa.out _ (Upd.refl _ _)).mono ?_
  rintro e w1 ⟨ta, tc, rfl, i1, u1⟩
  have I1 := Lib.hid i1; have U1 := Lib.hid u1
  clear i1 u1
  go_wp2_with fail
  go_loopw [8, 18] (fun v i wr => ∃ k : Nat, k ≤ L ∧ i = .int .i64 k ∧ wr.ownsRow w1.heap.size 3 1 v k (i64s ((xs.take k).map (sgQ s))) ∧ Upd NoB w1 wr) (fun _ i _ => L - (intOf i).toNat)
  case atStart => exact ⟨0, Nat.zero_le _, rfl, World.ownsRow_nil _ _ _ _, Upd.refl _ _⟩
  case round =>
    obtain ⟨k, hk, rfl, hown, hu⟩ := hrel
    obtain ⟨va, vc, rfl⟩ := row_form hown
    have HOw := Lib.hid hown; have HU := Lib.hid hu
    by_cases hlt : k < L
    · obtain ⟨x, hx⟩ : ∃ x, xs[k]? = some x := ⟨_, List.getElem?_eq_getElem (by rw [HL.out]; exact hlt)⟩
      obtain ⟨bb, off, rfl, c0⟩ := (HX.out wr (U1.out.then hu)).cellAt hx
      have HNx := Lib.hid (HN.out k x hx _ wr (I1.out.later hu))
      have HTx := Lib.hid (HT.out k x hx)
      generalize (xs.take k).map (sgQ s) = ys at *
      generalize sgQ s x = y at *
      have hk6 : k ≤ 1000000 := by omega
      clear hx hown hu
      go_wp2_with fail
      refine HNx.out.mono ?_
      rintro r w2 ⟨rfl, u2⟩
      have U2 := Lib.hid (HU.out.then u2)
      have HO2 := Lib.hid (u2.row HOw.out (fun k _ => noB k))
      have hb3 := U2.out.size
      clear u2
      go_wp2_with (at_builtin; refine wpList_push rfl (.tmp 22) (.tmp 26) rfl w1.heap.size (.slice va k vc) k ys y rfl rfl HO2.out hk6 hb3 ?_; intro v' w' hown' u'; have R' := Lib.hid hown'; have U' := Lib.hid u'; clear hown' u')
      go_roundw
      case rel => exact ⟨k + 1, by omega, by go_num, by rw [HTx.out]; exact R'.out, upd_ge ((upd_ge' U2.out w1.heap.size).trans U'.out (fun _ _ h => h))⟩
      case measure => simp [intOf]; omega
    · obtain rfl : k = L := by omega
      have h9 := HOw.out
      rw [HE.out] at h9
      have H9 := Lib.hid h9
      clear hlt hown hu h9
      go_wp2_with fail
      go_ret
      refine ⟨va, vc, by rw [HMl.out]; rfl, ?_, U1.out.then HU.out⟩
      exact Ints.ofRow (xs := R) (w := wr) (base := w1.heap.size) (v := .slice va R.length vc) (by rw [HMl.out]; exact H9.out) (by rw [HMl.out]; omega)
set_option maxRecDepth 100000 in
set_option maxHeartbeats 4000000 in
theorem rVBy_any (pv sv : Value) (xs : List Int) (s : Nat) (w : World) (hs : s ≤ 95) (hp : Ints w pv (powL 1024)) (h : Ints w sv xs) (hl : xs.length ≤ 128) (hin : inM 1023 xs = true) : Calls Try.prog 58 #[pv, sv, .int .i64 (s : Int)] w (ITwo w (xs.map (sgV s))) := by
  have HS := Lib.hid (fun (q : Nat) (hq : q ≤ 1023) W => rstands_any s q W hs hq)
  have HX := Lib.hid (fun W (u : Upd NoB w W) => h.later u)
  have HE := Lib.hid (show (xs.take xs.length).map (sgV s) = xs.map (sgV s) by rw [List.take_length])
  have HT := Lib.hid (fun k x (h : xs[k]? = some x) => mmap_take (f := sgV s) h)
  have HMl := Lib.hid (show (xs.map (sgV s)).length = xs.length from List.length_map _)
  have HI := Lib.hid (fun (k : Nat) (x : Int) (hx : xs[k]? = some x) => inM_yes hin x (List.mem_of_getElem? hx))
  have HV := Lib.hid (fun (q : Nat) (hq : q ≤ 1023) => vlN_in hs hq)
  have HG := Lib.hid (fun q => (show sgV s q = if q < 0 then -(vlN s q.natAbs) else vlN s q.natAbs from rfl))
  obtain ⟨a, cap, rfl⟩ := h.form
  obtain ⟨pa, pc, rfl⟩ := hp.form
  have HPc := Lib.hid (fun (W : World) (u : Upd NoB w W) (q : Nat) (hq : q < 1024) => (hp.later u).cellAt (powL_get hq))
  rw [powL_len]
  obtain ⟨L, hL⟩ : ∃ L, xs.length = L := ⟨_, rfl⟩
  have HL := Lib.hid hL
  rw [hL] at hl HE HX HMl ⊢
  generalize xs.map (sgV s) = R at *
  clear h hin hs hL hp
  go_enter Try.func58, Try.ntmps58
  go_wp2_with fail
  go_loopw [7, 13] (fun v i wr => ∃ k : Nat, k ≤ L ∧ i = .int .i64 k ∧ wr.ownsRow w.heap.size 3 1 v k (i64s ((xs.take k).map (sgV s))) ∧ Upd NoB w wr) (fun _ i _ => L - (intOf i).toNat)
  case atStart => exact ⟨0, Nat.zero_le _, rfl, World.ownsRow_nil _ _ _ _, Upd.refl _ _⟩
  case round =>
    obtain ⟨k, hk, rfl, hown, hu⟩ := hrel
    obtain ⟨va, vc, rfl⟩ := row_form hown
    have HOw := Lib.hid hown; have HU := Lib.hid hu
    by_cases hlt : k < L
    · obtain ⟨x, hx⟩ : ∃ x, xs[k]? = some x := ⟨_, List.getElem?_eq_getElem (by rw [HL.out]; exact hlt)⟩
      obtain ⟨bb, off, rfl, c0⟩ := (HX.out wr hu).cellAt hx
      have hxi := HI.out k x hx
      obtain ⟨n, hn⟩ : ∃ n, x.natAbs = n := ⟨_, rfl⟩
      have hm : max x (-x) = (n : Int) := by omega
      have hn2 : n < 1024 := by omega
      obtain ⟨pb, po, hpe, c1⟩ := HPc.out wr hu n hn2
      cases hpe
      have HSn := Lib.hid (fun W => HS.out n (by omega) W)
      have HTx := Lib.hid (HT.out k x hx)
      have HGx := HG.out x
      have hv := HV.out n (by omega)
      rw [hn] at HGx
      generalize (xs.take k).map (sgV s) = ys at *
      generalize vlN s n = z at *
      generalize pwN n = p at *
      generalize sgV s x = y at *
      have z1 : wrap64 (-x) = -x := IntWalk.wrap64_in _ (by omega)
      have z2 : IntKind.i64.wrap (-x) = -x := IntWalk.i64_in _ (by clear z1; omega)
      have z3 : wrap64 (-z) = -z := IntWalk.wrap64_in _ (by clear z1 z2; omega)
      have z4 : IntKind.i64.wrap (-z) = -z := IntWalk.i64_in _ (by clear z1 z2 z3; omega)
      have hk6 : k ≤ 1000000 := by clear z1 z2 z3 z4; omega
      have i1 : (n : Int) < 1024 := by clear z1 z2 z3 z4; omega
      clear hx hown hu hxi hn hv
      by_cases hneg : x < 0
      · have t1 : decide (x < 0) = true := decide_eq_true hneg
        rw [if_pos hneg] at HGx
        have HY := Lib.hid HGx
        clear hneg HGx
        go_wp2_with fail
        refine (HSn.out _).mono ?_
        rintro r w2 ⟨rfl, u2⟩
        have U2 := Lib.hid (HU.out.then u2)
        have HO2 := Lib.hid (u2.row HOw.out (fun k _ => noB k))
        have hb3 := U2.out.size
        clear u2
        go_wp2_with (at_builtin; refine wpList_push rfl (.tmp 30) (.tmp 32) rfl w.heap.size (.slice va k vc) k ys (-z) rfl rfl HO2.out hk6 hb3 ?_; intro v' w' hown' u'; have R' := Lib.hid hown'; have U' := Lib.hid u'; clear hown' u')
        go_roundw
        case rel => exact ⟨k + 1, by omega, by go_num, by rw [HTx.out, HY.out]; exact R'.out, upd_ge ((upd_ge' U2.out w.heap.size).trans U'.out (fun _ _ h => h))⟩
        case measure => clear z1 z2 z3 z4; simp [intOf]; omega
      · have t1 : decide (x < 0) = false := decide_eq_false hneg
        rw [if_neg hneg] at HGx
        have HY := Lib.hid HGx
        clear hneg HGx
        go_wp2_with fail
        refine (HSn.out _).mono ?_
        rintro r w2 ⟨rfl, u2⟩
        have U2 := Lib.hid (HU.out.then u2)
        have HO2 := Lib.hid (u2.row HOw.out (fun k _ => noB k))
        have hb3 := U2.out.size
        clear u2
        go_wp2_with (at_builtin; refine wpList_push rfl (.tmp 30) (.tmp 32) rfl w.heap.size (.slice va k vc) k ys z rfl rfl HO2.out hk6 hb3 ?_; intro v' w' hown' u'; have R' := Lib.hid hown'; have U' := Lib.hid u'; clear hown' u')
        go_roundw
        case rel => exact ⟨k + 1, by omega, by go_num, by rw [HTx.out, HY.out]; exact R'.out, upd_ge ((upd_ge' U2.out w.heap.size).trans U'.out (fun _ _ h => h))⟩
        case measure => clear z1 z2 z3 z4; simp [intOf]; omega
    · obtain rfl : k = L := by omega
      have h9 := HOw.out
      rw [HE.out] at h9
      have H9 := Lib.hid h9
      clear hlt hown hu h9
      go_wp2_with fail
      go_ret
      refine ⟨va, vc, by rw [HMl.out]; rfl, ?_, HU.out⟩
      exact Ints.ofRow (xs := R) (w := wr) (base := w.heap.size) (v := .slice va R.length vc) (by rw [HMl.out]; exact H9.out) (by rw [HMl.out]; omega)
set_option maxRecDepth 100000 in
set_option maxHeartbeats 2000000 in
theorem rStandsX_any (q : Int) (tv : Value) (s n : Nat) (w : World) (hs : s ≤ 95) (hn : n ≤ 1024) (hq : q.natAbs < n) (h : Ints w tv (valL s n)) : Calls Try.prog 124 #[.int .i64 q, tv] w fun e w' => e = .returned (.int .i64 (sgV s q)) ∧ w' = w := by
  obtain ⟨b, off, cap, rfl, hc⟩ := tv_open h hq
  obtain ⟨m, hm⟩ : ∃ m, q.natAbs = m := ⟨_, rfl⟩
  rw [hm] at hq
  have c0 := hc m hq w (Upd.refl _ _)
  have hv := vlN_in hs (show m ≤ 1023 by omega)
  have HG := (show sgV s q = if q < 0 then -(vlN s q.natAbs) else vlN s q.natAbs from rfl)
  rw [hm] at HG
  generalize vlN s m = v at *
  generalize sgV s q = R at *
  have z3 : wrap64 (-v) = -v := IntWalk.wrap64_in _ (by omega)
  have z4 : IntKind.i64.wrap (-v) = -v := IntWalk.i64_in _ (by clear z3; omega)
  have i1 : (m : Int) < (n : Int) := by clear z3 z4; omega
  by_cases hneg : q < 0
  · have t1 : decide (q < 0) = true := decide_eq_true hneg
    have z1 : wrap64 (-q) = (m : Int) := by rw [show -q = (m : Int) by clear z3 z4; omega]; exact IntWalk.wrap64_in _ (by clear z3 z4; omega)
    have z2 : IntKind.i64.wrap (-q) = (m : Int) := by rw [show -q = (m : Int) by clear z1 z3 z4; omega]; exact IntWalk.i64_in _ (by clear z1 z3 z4; omega)
    rw [if_pos hneg] at HG
    rw [HG]
    clear h hc hm hv HG hneg hs hn
    go_enter Try.func124, Try.ntmps124
    go_wp2_with fail
    go_ret
    exact ⟨rfl, rfl⟩
  · have t1 : decide (q < 0) = false := decide_eq_false hneg
    obtain rfl : q = (m : Int) := by clear z3 z4; omega
    rw [if_neg hneg] at HG
    rw [HG]
    clear h hc hm hv HG hneg hs hn
    go_enter Try.func124, Try.ntmps124
    go_wp2_with fail
    go_ret
    exact ⟨rfl, rfl⟩
theorem lo_sq {s : Nat} {c : Int} (hs : s ≤ 95) (hc : -2097152 ≤ c ∧ c ≤ 2097152) : (c - sgV s (sgQ s c)) * (c - sgV s (sgQ s c)) = loN s (szI c) ∧ (-2097152 ≤ c - sgV s (sgQ s c) ∧ c - sgV s (sgQ s c) ≤ 2097152) := by
  have hq := qtN_le s (szI c)
  have hsz : ((c.natAbs : Nat) : Int) = szI c := by unfold szI; omega
  have hv := vlN_in hs hq
  have e : sgQ s c = if c < 0 then -((qtN s (szI c) : Nat) : Int) else (qtN s (szI c) : Nat) := by unfold sgQ; rw [hsz]
  have e2 : sgV s ((qtN s (szI c) : Nat) : Int) = vlN s (qtN s (szI c)) := by
    unfold sgV
    rw [if_neg (by omega), Int.natAbs_natCast]
  unfold loN
  by_cases hneg : c < 0
  · rw [e, if_pos hneg, sgV_neg, e2]
    generalize vlN s (qtN s (szI c)) = v at *
    have h1 : szI c = -c := by unfold szI; omega
    rw [h1]
    have h2 : c - -v = -(-c - v) := by omega
    refine ⟨by rw [h2, Int.neg_mul_neg], by omega⟩
  · rw [e, if_neg hneg, e2]
    generalize vlN s (qtN s (szI c)) = v at *
    have h1 : szI c = c := by unfold szI; omega
    rw [h1]
    exact ⟨rfl, by omega⟩
def fsum (s : Nat) (cs : List Int) : Int := (cs.map (loN s)).foldl (fun s x => s + x) 0
theorem fsum_take {s : Nat} {cs : List Int} {k : Nat} {c : Int} (h : cs[k]? = some c) : fsum s (cs.take (k + 1)) = fsum s (cs.take k) + loN s c := by
  unfold fsum
  rw [map_take (loN s) h, List.foldl_append]
  rfl
theorem fsum_bd {s : Nat} {cs : List Int} (hs : s ≤ 95) (h : ∀ c ∈ cs, 0 ≤ c ∧ c ≤ 2097152) : ∀ k, k ≤ cs.length → 0 ≤ fsum s (cs.take k) ∧ fsum s (cs.take k) ≤ (k : Int) * 4398046511104
  | 0, _ => by rw [List.take_zero, show fsum s [] = 0 from rfl]; simp
  | k + 1, hk => by
    have ih := fsum_bd hs h k (by omega)
    obtain ⟨x, hx⟩ : ∃ x, cs[k]? = some x := ⟨_, List.getElem?_eq_getElem (by omega)⟩
    rw [fsum_take hx]
    have := loN_bd hs (h x (List.mem_of_getElem? hx))
    rw [Int.natCast_add, Int.add_mul]
    omega
set_option maxRecDepth 100000 in
set_option maxHeartbeats 4000000 in
theorem rnoise_any (sv tv : Value) (xs : List Int) (s n : Nat) (w : World) (hs : s ≤ 95) (hn1 : 1 ≤ n) (hn : n ≤ 1024) (htab : ∀ c ∈ xs, (n = 1024 ∨ max c (-c) ≤ vlN s (n - 1)) ∧ (sgQ s c).natAbs < n) (ht : Ints w tv (valL s n)) (h : Ints w sv xs) (hl : xs.length ≤ 128) (hin : inM 2097152 xs = true) :
    Calls Try.prog 102 #[sv, tv] w fun e w' => e = .returned (.int .i64 (nsL s (xs.map szI))) ∧ Upd NoB w w' := by
  have HX := Lib.hid (fun W (u : Upd NoB w W) => h.later u)
  have HN := Lib.hid (fun (k : Nat) (x : Int) (hx : xs[k]? = some x) W (u : Upd NoB w W) => rnear_any x tv s n W hs hn1 hn (inM_yes hin x (List.mem_of_getElem? hx)) (htab x (List.mem_of_getElem? hx)).1 (ht.later u))
  have HS := Lib.hid (fun (k : Nat) (x : Int) (hx : xs[k]? = some x) W (u : Upd NoB w W) => rStandsX_any (sgQ s x) tv s n W hs hn (htab x (List.mem_of_getElem? hx)).2 (ht.later u))
  have HLo := Lib.hid (fun (k : Nat) (x : Int) (hx : xs[k]? = some x) => lo_sq hs (inM_yes hin x (List.mem_of_getElem? hx)))
  have HFt := Lib.hid (fun (k : Nat) (x : Int) (hx : xs[k]? = some x) => fsum_take (s := s) (show (xs.map szI)[k]? = some (szI x) by rw [List.getElem?_map, hx]; rfl))
  have HFb := Lib.hid (fun (k : Nat) (hk : k ≤ xs.length) => fsum_bd hs (szI_in hin) k (by rw [List.length_map]; exact hk))
  have HF0 := Lib.hid (show fsum s ((xs.map szI).take 0) = 0 from rfl)
  have HFL := Lib.hid (show fsum s ((xs.map szI).take xs.length) = nsL s (xs.map szI) by rw [← List.length_map (f := szI), List.take_length]; rfl)
  obtain ⟨a, cap, rfl⟩ := h.form
  obtain ⟨ta, tc, rfl⟩ := ht.form
  generalize (valL s n).length = TL at *
  obtain ⟨L, hL⟩ : ∃ L, xs.length = L := ⟨_, rfl⟩
  have HL := Lib.hid hL
  rw [hL] at hl HX HFb HFL ⊢
  generalize xs.map szI = cs at *
  clear h hin hs hL ht htab
  go_enter Try.func102, Try.ntmps102
  go_wp2_with fail
  go_loopw [5, 11] (fun v i wr => ∃ k : Nat, k ≤ L ∧ i = .int .i64 k ∧ v = .int .i64 (fsum s (cs.take k)) ∧ Upd NoB w wr) (fun _ i _ => L - (intOf i).toNat)
  case atStart => exact ⟨0, Nat.zero_le _, rfl, by rw [HF0.out], Upd.refl _ _⟩
  case round =>
    obtain ⟨k, hk, rfl, rfl, hu⟩ := hrel
    have HU := Lib.hid hu
    by_cases hlt : k < L
    · obtain ⟨x, hx⟩ : ∃ x, xs[k]? = some x := ⟨_, List.getElem?_eq_getElem (by rw [HL.out]; exact hlt)⟩
      obtain ⟨bb, off, rfl, c0⟩ := (HX.out wr hu).cellAt hx
      have HNx := Lib.hid (HN.out k x hx wr hu)
      have HSx := Lib.hid (HS.out k x hx)
      obtain ⟨l1, l2⟩ := HLo.out k x hx
      have HFx := Lib.hid (HFt.out k x hx)
      obtain ⟨f1, f2⟩ := HFb.out k hk
      generalize sgQ s x = q at *
      generalize sgV s q = v at *
      generalize loN s (szI x) = y at *
      generalize fsum s (cs.take k) = S at *
      obtain ⟨d, hd⟩ : ∃ d, x - v = d := ⟨_, rfl⟩
      rw [hd] at l1 l2
      obtain ⟨s0, s1⟩ := sq_bd l2
      rw [l1] at s0 s1
      have z1 : wrap64 (x - v) = d := by rw [hd]; exact IntWalk.wrap64_in _ (by omega)
      have z2 : IntKind.i64.wrap (x - v) = d := by rw [hd]; exact IntWalk.i64_in _ (by clear z1; omega)
      have z3 : wrap64 (d * d) = y := by rw [l1]; exact IntWalk.wrap64_in _ (by clear z1 z2 l1; omega)
      have z4 : IntKind.i64.wrap (d * d) = y := by rw [l1]; exact IntWalk.i64_in _ (by clear z1 z2 z3 l1; omega)
      have z5 : wrap64 (S + y) = S + y := IntWalk.wrap64_in _ (by clear z1 z2 z3 z4 l1; omega)
      have z6 : IntKind.i64.wrap (S + y) = S + y := IntWalk.i64_in _ (by clear z1 z2 z3 z4 z5 l1; omega)
      have hk6 : k ≤ 1000000 := by clear z1 z2 z3 z4 z5 z6 l1; omega
      clear hx hu l1 l2 s0 s1 hd f1 f2
      go_wp2_with fail
      refine HNx.out.mono ?_
      rintro r w2 ⟨rfl, u2⟩
      have U2 := Lib.hid (HU.out.then u2)
      clear u2
      go_wp2_with fail
      refine (HSx.out w2 U2.out).mono ?_
      rintro r w3 ⟨rfl, hw⟩
      rw [hw]
      clear hw w3
      go_wp2_with fail
      go_roundw
      case rel => exact ⟨k + 1, by omega, by go_num, by rw [HFx.out], U2.out⟩
      case measure => clear z1 z2 z3 z4 z5 z6; simp [intOf]; omega
    · obtain rfl : k = L := by omega
      rw [HFL.out]
      clear hlt hu
      go_wp2_with fail
      go_ret
      exact ⟨rfl, HU.out⟩
theorem q_small {xs : List Int} {s : Nat} {c : Int} (h : c ∈ xs) : (sgQ s c).natAbs < fsN s (mxL (xs.map szI)) + 1 := by
  have hc : max c (-c) ≤ mxL (xs.map szI) := mxL_ge (List.mem_map.2 ⟨c, h, rfl⟩)
  have h1 := fsN_mono (s := s) (show ((c.natAbs : Nat) : Int) ≤ mxL (xs.map szI) by omega)
  have h2 := (qtN_ge s (c.natAbs : Nat)).2
  have h3 : (sgQ s c).natAbs = qtN s (c.natAbs : Nat) := by unfold sgQ; split <;> omega
  omega
set_option maxRecDepth 100000 in
set_option maxHeartbeats 2000000 in
theorem rNBy_any (pv sv : Value) (xs : List Int) (s : Nat) (w : World) (hs : s ≤ 95) (hp : Ints w pv (powL 1024)) (h : Ints w sv xs) (hl : xs.length ≤ 128) (hin : inM 2097152 xs = true) : Calls Try.prog 61 #[pv, sv, .int .i64 (s : Int)] w fun e w' => e = .returned (.int .i64 (nsL s (xs.map szI))) ∧ Upd NoB w w' := by
  have HGr := Lib.hid (rgreat_any sv xs w h (by omega) hin)
  have HVa := Lib.hid (rvalues_any pv s (mxL (xs.map szI)) w hs hp)
  have hf := fsN_le s (mxL (xs.map szI))
  have HN := Lib.hid (fun tv W (u : Upd NoB w W) (ht : Ints W tv (valL s (fsN s (mxL (xs.map szI)) + 1))) => rnoise_any sv tv xs s _ W hs (by omega) (by omega) (fun c hc => ⟨tab_ok hc, q_small hc⟩) ht (h.later u) hl hin)
  obtain ⟨a, cap, rfl⟩ := h.form
  obtain ⟨pa, pc, rfl⟩ := hp.form
  generalize xs.length = L at *
  generalize (powL 1024).length = PL at *
  generalize nsL s (xs.map szI) = R at *
  generalize mxL (xs.map szI) = g at *
  generalize fsN s g = F at *
  generalize valL s (F + 1) = T at *
  clear h hp hin hs hl hf
  go_enter Try.func61, Try.ntmps61
  go_wp2_with fail
  refine HGr.out.mono ?_
  rintro e w1 ⟨rfl, hw⟩
  rw [hw]
  clear hw w1
  go_wp2_with fail
  refine HVa.out.mono ?_
  rintro e w1 ⟨ta, tc, rfl, i1, u1⟩
  have I1 := Lib.hid i1; have U1 := Lib.hid u1
  clear i1 u1
  go_wp2_with fail
  refine (HN.out _ _ U1.out I1.out).mono ?_
  rintro e w2 ⟨rfl, u2⟩
  have U2 := Lib.hid (U1.out.then u2)
  clear u2
  go_wp2_with fail
  go_ret
  exact ⟨rfl, U2.out⟩
def ETup (w : World) (ys : List Int) (E : Int) (e : Ending) (w' : World) : Prop := ∃ a c, e = .returned (.tuple #[.slice a ys.length c, .int .i64 E]) ∧ Ints w' (.slice a ys.length c) ys ∧ Upd NoB w w'

set_option maxRecDepth 100000 in
set_option maxHeartbeats 2000000 in
theorem rQuantizeX_any (sv : Value) (xs : List Int) (s : Int) (w : World) (h : Ints w sv xs) : Calls Try.prog 21 #[sv, .int .i64 s] w (ETup w (lQ xs s) (ckS 2097152 xs s)) := by
  have HS := Lib.hid (rScale_any s w)
  have HC := Lib.hid (rlist_any sv xs 2097152 w (by decide) h)
  by_cases h1 : 0 ≤ s ∧ s ≤ 95
  · rw [decide_eq_true h1] at HS
    by_cases h2 : ckQ 2097152 xs = 0
    · have hE : ckS 2097152 xs s = 0 := by unfold ckS; rw [if_pos h1]; exact h2
      have hV : lQ xs s = xs.map (sgQ s.toNat) := if_pos hE
      rw [hE, hV]
      rw [h2] at HC
      obtain ⟨hl, hin⟩ := ckQ_ok h2
      obtain ⟨n, rfl⟩ : ∃ n : Nat, s = (n : Int) := ⟨s.toNat, by omega⟩
      rw [Int.toNat_natCast]
      have hn : n ≤ 95 := by omega
      have HP := Lib.hid (fun W => rPowers_any W)
      have HB := Lib.hid (fun pv W (u : Upd NoB w W) (hp : Ints W pv (powL 1024)) => rQBy_any pv sv xs n W hn hp (h.later u) hl hin)
      obtain ⟨a, cap, rfl⟩ := h.form
      generalize xs.map (sgQ n) = R at *
      generalize xs.length = L at *
      clear h h1 h2 hE hV hl hin hn
      go_enter Try.func21, Try.ntmps21
      go_wp2_with fail
      refine HS.out.mono ?_
      rintro e w1 ⟨rfl, hw⟩
      rw [hw]
      clear hw w1
      go_wp2_with fail
      refine HC.out.mono ?_
      rintro e w1 ⟨rfl, hw⟩
      rw [hw]
      clear hw w1
      go_wp2_with fail
      refine (HP.out _).mono ?_
      rintro e w2 ⟨pa, pc, rfl, i2, u2⟩
      have I2 := Lib.hid i2; have U2 := Lib.hid u2
      clear i2 u2
      go_wp2_with fail
      refine (HB.out _ _ U2.out I2.out).mono ?_
      rintro e w3 ⟨ra, rc, rfl, i3, u3⟩
      have I3 := Lib.hid i3; have U3 := Lib.hid (U2.out.then u3)
      clear i3 u3
      go_wp2_with fail
      go_ret2
      exact ⟨_, _, rfl, I3.out, U3.out⟩
    · have hE : ckS 2097152 xs s = ckQ 2097152 xs := by unfold ckS; rw [if_pos h1]
      have hV : lQ xs s = [] := if_neg (by rw [hE]; exact h2)
      rw [hE, hV]
      generalize ckQ 2097152 xs = E at *
      have t1 : (E != 0) = true := bne_iff_ne.2 h2
      obtain ⟨a, cap, rfl⟩ := h.form
      generalize xs.length = L at *
      clear h h1 h2 hE hV
      go_enter Try.func21, Try.ntmps21
      go_wp2_with fail
      refine HS.out.mono ?_
      rintro e w1 ⟨rfl, hw⟩
      rw [hw]
      clear hw w1
      go_wp2_with fail
      refine HC.out.mono ?_
      rintro e w1 ⟨rfl, hw⟩
      rw [hw]
      clear hw w1
      go_wp2_with fail
      go_ret2
      exact ⟨none, 0, rfl, Ints.nil w, Upd.refl _ _⟩
  · rw [decide_eq_false h1] at HS
    have hE : ckS 2097152 xs s = 1 := by unfold ckS; rw [if_neg h1]
    have hV : lQ xs s = [] := if_neg (by rw [hE]; decide)
    rw [hE, hV]
    obtain ⟨a, cap, rfl⟩ := h.form
    generalize xs.length = L at *
    clear h h1 hE hV HC
    go_enter Try.func21, Try.ntmps21
    go_wp2_with fail
    refine HS.out.mono ?_
    rintro e w1 ⟨rfl, hw⟩
    rw [hw]
    clear hw w1
    go_wp2_with fail
    go_ret2
    exact ⟨none, 0, rfl, Ints.nil w, Upd.refl _ _⟩
set_option maxRecDepth 100000 in
set_option maxHeartbeats 2000000 in
theorem rValuesX_any (sv : Value) (xs : List Int) (s : Int) (w : World) (h : Ints w sv xs) : Calls Try.prog 23 #[sv, .int .i64 s] w (ETup w (lV xs s) (ckS 1023 xs s)) := by
  have HS := Lib.hid (rScale_any s w)
  have HC := Lib.hid (rlist_any sv xs 1023 w (by decide) h)
  by_cases h1 : 0 ≤ s ∧ s ≤ 95
  · rw [decide_eq_true h1] at HS
    by_cases h2 : ckQ 1023 xs = 0
    · have hE : ckS 1023 xs s = 0 := by unfold ckS; rw [if_pos h1]; exact h2
      have hV : lV xs s = xs.map (sgV s.toNat) := if_pos hE
      rw [hE, hV]
      rw [h2] at HC
      obtain ⟨hl, hin⟩ := ckQ_ok h2
      obtain ⟨n, rfl⟩ : ∃ n : Nat, s = (n : Int) := ⟨s.toNat, by omega⟩
      rw [Int.toNat_natCast]
      have hn : n ≤ 95 := by omega
      have HP := Lib.hid (fun W => rPowers_any W)
      have HB := Lib.hid (fun pv W (u : Upd NoB w W) (hp : Ints W pv (powL 1024)) => rVBy_any pv sv xs n W hn hp (h.later u) hl hin)
      obtain ⟨a, cap, rfl⟩ := h.form
      generalize xs.map (sgV n) = R at *
      generalize xs.length = L at *
      clear h h1 h2 hE hV hl hin hn
      go_enter Try.func23, Try.ntmps23
      go_wp2_with fail
      refine HS.out.mono ?_
      rintro e w1 ⟨rfl, hw⟩
      rw [hw]
      clear hw w1
      go_wp2_with fail
      refine HC.out.mono ?_
      rintro e w1 ⟨rfl, hw⟩
      rw [hw]
      clear hw w1
      go_wp2_with fail
      refine (HP.out _).mono ?_
      rintro e w2 ⟨pa, pc, rfl, i2, u2⟩
      have I2 := Lib.hid i2; have U2 := Lib.hid u2
      clear i2 u2
      go_wp2_with fail
      refine (HB.out _ _ U2.out I2.out).mono ?_
      rintro e w3 ⟨ra, rc, rfl, i3, u3⟩
      have I3 := Lib.hid i3; have U3 := Lib.hid (U2.out.then u3)
      clear i3 u3
      go_wp2_with fail
      go_ret2
      exact ⟨_, _, rfl, I3.out, U3.out⟩
    · have hE : ckS 1023 xs s = ckQ 1023 xs := by unfold ckS; rw [if_pos h1]
      have hV : lV xs s = [] := if_neg (by rw [hE]; exact h2)
      rw [hE, hV]
      generalize ckQ 1023 xs = E at *
      have t1 : (E != 0) = true := bne_iff_ne.2 h2
      obtain ⟨a, cap, rfl⟩ := h.form
      generalize xs.length = L at *
      clear h h1 h2 hE hV
      go_enter Try.func23, Try.ntmps23
      go_wp2_with fail
      refine HS.out.mono ?_
      rintro e w1 ⟨rfl, hw⟩
      rw [hw]
      clear hw w1
      go_wp2_with fail
      refine HC.out.mono ?_
      rintro e w1 ⟨rfl, hw⟩
      rw [hw]
      clear hw w1
      go_wp2_with fail
      go_ret2
      exact ⟨none, 0, rfl, Ints.nil w, Upd.refl _ _⟩
  · rw [decide_eq_false h1] at HS
    have hE : ckS 1023 xs s = 1 := by unfold ckS; rw [if_neg h1]
    have hV : lV xs s = [] := if_neg (by rw [hE]; decide)
    rw [hE, hV]
    obtain ⟨a, cap, rfl⟩ := h.form
    generalize xs.length = L at *
    clear h h1 hE hV HC
    go_enter Try.func23, Try.ntmps23
    go_wp2_with fail
    refine HS.out.mono ?_
    rintro e w1 ⟨rfl, hw⟩
    rw [hw]
    clear hw w1
    go_wp2_with fail
    go_ret2
    exact ⟨none, 0, rfl, Ints.nil w, Upd.refl _ _⟩
set_option maxRecDepth 100000 in
set_option maxHeartbeats 2000000 in
theorem rNoiseX_any (sv : Value) (xs : List Int) (s : Int) (w : World) (h : Ints w sv xs) : Calls Try.prog 25 #[sv, .int .i64 s] w (fun e w' => e = .returned (.tuple #[.int .i64 (nV xs s), .int .i64 (ckS 2097152 xs s)]) ∧ Upd NoB w w') := by
  have HS := Lib.hid (rScale_any s w)
  have HC := Lib.hid (rlist_any sv xs 2097152 w (by decide) h)
  by_cases h1 : 0 ≤ s ∧ s ≤ 95
  · rw [decide_eq_true h1] at HS
    by_cases h2 : ckQ 2097152 xs = 0
    · have hE : ckS 2097152 xs s = 0 := by unfold ckS; rw [if_pos h1]; exact h2
      have hV : nV xs s = nsL s.toNat (xs.map szI) := if_pos hE
      rw [hE, hV]
      rw [h2] at HC
      obtain ⟨hl, hin⟩ := ckQ_ok h2
      obtain ⟨n, rfl⟩ : ∃ n : Nat, s = (n : Int) := ⟨s.toNat, by omega⟩
      rw [Int.toNat_natCast]
      have hn : n ≤ 95 := by omega
      have HP := Lib.hid (fun W => rPowers_any W)
      have HB := Lib.hid (fun pv W (u : Upd NoB w W) (hp : Ints W pv (powL 1024)) => rNBy_any pv sv xs n W hn hp (h.later u) hl hin)
      obtain ⟨a, cap, rfl⟩ := h.form
      generalize nsL n (xs.map szI) = R at *
      generalize xs.length = L at *
      clear h h1 h2 hE hV hl hin hn
      go_enter Try.func25, Try.ntmps25
      go_wp2_with fail
      refine HS.out.mono ?_
      rintro e w1 ⟨rfl, hw⟩
      rw [hw]
      clear hw w1
      go_wp2_with fail
      refine HC.out.mono ?_
      rintro e w1 ⟨rfl, hw⟩
      rw [hw]
      clear hw w1
      go_wp2_with fail
      refine (HP.out _).mono ?_
      rintro e w2 ⟨pa, pc, rfl, i2, u2⟩
      have I2 := Lib.hid i2; have U2 := Lib.hid u2
      clear i2 u2
      go_wp2_with fail
      refine (HB.out _ _ U2.out I2.out).mono ?_
      rintro e w3 ⟨rfl, u3⟩
      have U3 := Lib.hid (U2.out.then u3)
      clear u3
      go_wp2_with fail
      go_ret2
      exact ⟨rfl, U3.out⟩
    · have hE : ckS 2097152 xs s = ckQ 2097152 xs := by unfold ckS; rw [if_pos h1]
      have hV : nV xs s = 0 := if_neg (by rw [hE]; exact h2)
      rw [hE, hV]
      generalize ckQ 2097152 xs = E at *
      have t1 : (E != 0) = true := bne_iff_ne.2 h2
      obtain ⟨a, cap, rfl⟩ := h.form
      generalize xs.length = L at *
      clear h h1 h2 hE hV
      go_enter Try.func25, Try.ntmps25
      go_wp2_with fail
      refine HS.out.mono ?_
      rintro e w1 ⟨rfl, hw⟩
      rw [hw]
      clear hw w1
      go_wp2_with fail
      refine HC.out.mono ?_
      rintro e w1 ⟨rfl, hw⟩
      rw [hw]
      clear hw w1
      go_wp2_with fail
      go_ret2
      exact ⟨rfl, Upd.refl _ _⟩
  · rw [decide_eq_false h1] at HS
    have hE : ckS 2097152 xs s = 1 := by unfold ckS; rw [if_neg h1]
    have hV : nV xs s = 0 := if_neg (by rw [hE]; decide)
    rw [hE, hV]
    obtain ⟨a, cap, rfl⟩ := h.form
    generalize xs.length = L at *
    clear h h1 hE hV HC
    go_enter Try.func25, Try.ntmps25
    go_wp2_with fail
    refine HS.out.mono ?_
    rintro e w1 ⟨rfl, hw⟩
    rw [hw]
    clear hw w1
    go_wp2_with fail
    go_ret2
    exact ⟨rfl, Upd.refl _ _⟩
theorem lQ_len (xs : List Int) (s : Int) : (lQ xs s).length ≤ 1000000 := by
  unfold lQ
  split
  · rename_i h; have := (ckS_ok h).2.1; rw [List.length_map]; omega
  · decide
theorem lV_len (xs : List Int) (s : Int) : (lV xs s).length ≤ 1000000 := by
  unfold lV
  split
  · rename_i h; have := (ckS_ok h).2.1; rw [List.length_map]; omega
  · decide
set_option maxRecDepth 100000 in
set_option maxHeartbeats 8000000 in
theorem lists_qu (cv qv : Value) (cs qs : List Int) (s : Int) (w : World) (hc : Ints w cv cs) (hq : Ints w qv qs) : Calls Try.prog 4 #[cv, qv, .int .i64 s] w fun e w' => e = .returned (.bool true) ∧ Upd NoB w w' := by
  have X0 := Lib.hid hc; have Y0 := Lib.hid hq
  have H1 := Lib.hid (fun W (h : Ints W cv cs) => pQs_any cv cs s W h); have H2 := Lib.hid (fun W (h : Ints W cv cs) => rQuantizeX_any cv cs s W h)
  have H3 := Lib.hid (fun W (h : Ints W qv qs) => pVs_any qv qs s W h); have H4 := Lib.hid (fun W (h : Ints W qv qs) => rValuesX_any qv qs s W h)
  have H5 := Lib.hid (fun W (h : Ints W cv cs) => Noise_any cv cs s W h); have H6 := Lib.hid (fun W (h : Ints W cv cs) => rNoiseX_any cv cs s W h)
  have HQl := Lib.hid (lQ_len cs s); have HVl := Lib.hid (lV_len qs s)
  obtain ⟨ca, cc, rfl⟩ := hc.form
  obtain ⟨qa, qc, rfl⟩ := hq.form
  generalize lQ cs s = A at *
  generalize lV qs s = B at *
  generalize nV cs s = N0 at *
  generalize ckS 2097152 cs s = E1 at *
  generalize ckS 1023 qs s = E2 at *
  generalize cs.length = L at *
  generalize qs.length = M at *
  clear hc hq
  by_cases h1 : 200 < L
  · have t1 : decide ((200 : Int) < (L : Int)) = true := decide_eq_true (by omega)
    have t2 : decide (200 < L) = true := decide_eq_true h1
    clear h1
    go_enter Try.func4, Try.ntmps4
    go_wp2_with fail
    refine (awake_qu _).mono ?_
    rintro e w1 ⟨rfl, u1⟩
    have UU1 := Lib.hid ((Upd.refl NoB w).then u1)
    clear u1
    go_wp2_with fail
    go_ret
    exact ⟨rfl, UU1.out⟩
  have t1 : decide ((200 : Int) < (L : Int)) = false := decide_eq_false (by omega)
  have t2 : decide (200 < L) = false := decide_eq_false h1
  by_cases h2 : 200 < M
  · have t3 : decide ((200 : Int) < (M : Int)) = true := decide_eq_true (by omega)
    have t4 : decide (200 < M) = true := decide_eq_true h2
    clear h1 h2
    go_enter Try.func4, Try.ntmps4
    go_wp2_with fail
    refine (awake_qu _).mono ?_
    rintro e w1 ⟨rfl, u1⟩
    have UU1 := Lib.hid ((Upd.refl NoB w).then u1)
    clear u1
    go_wp2_with fail
    go_ret
    exact ⟨rfl, UU1.out⟩
  have t3 : decide ((200 : Int) < (M : Int)) = false := decide_eq_false (by omega)
  have t4 : decide (200 < M) = false := decide_eq_false h2
  clear h1 h2
  go_enter Try.func4, Try.ntmps4
  go_wp2_with fail
  refine (H1.out _ X0.out).mono ?_
  intro e w1 hr
  obtain ⟨a1, c1, rfl, i1, u1⟩ := EInts.open hr HQl.out
  have X1 := Lib.hid (X0.out.later u1)
  clear X0
  have Y1 := Lib.hid (Y0.out.later u1)
  clear Y0
  have UU1 := Lib.hid ((Upd.refl NoB w).then u1)
  have Aa1 := Lib.hid (i1)
  clear hr
  clear i1 u1
  go_wp2_with fail
  refine (H2.out _ X1.out).mono ?_
  rintro e w2 ⟨a2, c2, rfl, i2, u2⟩
  have X2 := Lib.hid (X1.out.later u2)
  clear X1
  have Y2 := Lib.hid (Y1.out.later u2)
  clear Y1
  have Aa2 := Lib.hid (Aa1.out.later u2)
  clear Aa1
  have UU2 := Lib.hid (UU1.out.then u2)
  clear UU1
  have Ab2 := Lib.hid (i2)
  clear i2 u2
  go_wp2_with fail
  refine (H3.out _ Y2.out).mono ?_
  intro e w3 hr
  obtain ⟨a3, c3, rfl, i3, u3⟩ := EInts.open hr HVl.out
  have X3 := Lib.hid (X2.out.later u3)
  clear X2
  have Y3 := Lib.hid (Y2.out.later u3)
  clear Y2
  have Aa3 := Lib.hid (Aa2.out.later u3)
  clear Aa2
  have Ab3 := Lib.hid (Ab2.out.later u3)
  clear Ab2
  have UU3 := Lib.hid (UU2.out.then u3)
  clear UU2
  have Ba3 := Lib.hid (i3)
  clear hr
  clear i3 u3
  go_wp2_with fail
  refine (H4.out _ Y3.out).mono ?_
  rintro e w4 ⟨a4, c4, rfl, i4, u4⟩
  have X4 := Lib.hid (X3.out.later u4)
  clear X3
  have Y4 := Lib.hid (Y3.out.later u4)
  clear Y3
  have Aa4 := Lib.hid (Aa3.out.later u4)
  clear Aa3
  have Ab4 := Lib.hid (Ab3.out.later u4)
  clear Ab3
  have Ba4 := Lib.hid (Ba3.out.later u4)
  clear Ba3
  have UU4 := Lib.hid (UU3.out.then u4)
  clear UU3
  have Bb4 := Lib.hid (i4)
  clear i4 u4
  go_wp2_with fail
  refine (H5.out _ X4.out).mono ?_
  rintro e w5 ⟨rfl, u5⟩
  have X5 := Lib.hid (X4.out.later u5)
  clear X4
  have Y5 := Lib.hid (Y4.out.later u5)
  clear Y4
  have Aa5 := Lib.hid (Aa4.out.later u5)
  clear Aa4
  have Ab5 := Lib.hid (Ab4.out.later u5)
  clear Ab4
  have Ba5 := Lib.hid (Ba4.out.later u5)
  clear Ba4
  have Bb5 := Lib.hid (Bb4.out.later u5)
  clear Bb4
  have UU5 := Lib.hid (UU4.out.then u5)
  clear UU4
  clear u5
  go_wp2_with fail
  refine (H6.out _ X5.out).mono ?_
  rintro e w6 ⟨rfl, u6⟩
  have X6 := Lib.hid (X5.out.later u6)
  clear X5
  have Y6 := Lib.hid (Y5.out.later u6)
  clear Y5
  have Aa6 := Lib.hid (Aa5.out.later u6)
  clear Aa5
  have Ab6 := Lib.hid (Ab5.out.later u6)
  clear Ab5
  have Ba6 := Lib.hid (Ba5.out.later u6)
  clear Ba5
  have Bb6 := Lib.hid (Bb5.out.later u6)
  clear Bb5
  have UU6 := Lib.hid (UU5.out.then u6)
  clear UU5
  clear u6
  go_wp2_with fail
  refine (qints_any _ _ A A _ Aa6.out Ab6.out).mono ?_
  rw [intsB_self]
  rintro e w7 ⟨rfl, m7, hw7⟩
  have u7 : Upd NoB w6 w7 := by rw [hw7]; exact upd_drewN (Upd.refl _ _) _
  have X7 := Lib.hid (X6.out.later u7)
  clear X6
  have Y7 := Lib.hid (Y6.out.later u7)
  clear Y6
  clear Aa6
  clear Ab6
  have Ba7 := Lib.hid (Ba6.out.later u7)
  clear Ba6
  have Bb7 := Lib.hid (Bb6.out.later u7)
  clear Bb6
  have UU7 := Lib.hid (UU6.out.then u7)
  clear UU6
  clear u7 hw7
  go_wp2_with fail
  refine (qints_any _ _ B B _ Ba7.out Bb7.out).mono ?_
  rw [intsB_self]
  rintro e w8 ⟨rfl, m8, hw8⟩
  have u8 : Upd NoB w7 w8 := by rw [hw8]; exact upd_drewN (Upd.refl _ _) _
  have X8 := Lib.hid (X7.out.later u8)
  clear X7
  have Y8 := Lib.hid (Y7.out.later u8)
  clear Y7
  clear Ba7
  clear Bb7
  have UU8 := Lib.hid (UU7.out.then u8)
  clear UU7
  clear u8 hw8
  go_wp2_with fail
  refine (awake_qu _).mono ?_
  rintro e w9 ⟨rfl, u9⟩
  have X9 := Lib.hid (X8.out.later u9)
  clear X8
  have Y9 := Lib.hid (Y8.out.later u9)
  clear Y8
  have UU9 := Lib.hid (UU8.out.then u9)
  clear UU8
  clear u9
  go_wp2_with fail
  go_ret
  exact ⟨rfl, UU9.out⟩
end Go.Proofs.Yteioaeceobgbdaa
