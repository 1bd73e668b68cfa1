/- linear: two rows; the reference's Reflect -/
import Derived.Test.YtopjjdfnnjgnlaaTVa
import Derived.Test.YtopjjdfnnjgnlaaTUc
import Derived.Deep.CutRange
namespace Go.Proofs.Ytopjjdfnnjgnlaa
open Go.RowKit Go.Shelf

/-- Two rows of their own, in two blocks. -/
def TwoR (w : World) (B : Nat) (va : Value) (n : Nat) (xs : List Int) (vb : Value) (m : Nat) (ys : List Int) : Prop :=
  w.ownsRow B 3 1 va n (i64s xs) ∧ w.ownsRow B 3 1 vb m (i64s ys) ∧ ∀ k, va.ownBlock = some k → vb.ownBlock ≠ some k
theorem TwoR.later {w w' : World} {B : Nat} {va vb : Value} {n m : Nat} {xs ys : List Int} (h : TwoR w B va n xs vb m ys) (u : Upd NoB w w') : TwoR w' B va n xs vb m ys :=
  ⟨u.row h.1 (fun k _ => noB k), u.row h.2.1 (fun k _ => noB k), h.2.2⟩
theorem TwoR.swap {w : World} {B : Nat} {va vb : Value} {n m : Nat} {xs ys : List Int} (h : TwoR w B va n xs vb m ys) : TwoR w B vb m ys va n xs :=
  ⟨h.2.1, h.1, fun k h1 h2 => h.2.2 k h2 h1⟩
theorem TwoR.step {w w' : World} {B : Nat} {va vb v' : Value} {n m n' : Nat} {xs ys xs' : List Int} (h : TwoR w B va n xs vb m ys) (ho : w'.ownsRow B 3 1 v' n' (i64s xs')) (u : Upd (fun k => va.ownBlock = some k) w w')
    (hat : v'.ownBlock = va.ownBlock ∨ ∃ k, v'.ownBlock = some k ∧ w.heap.size ≤ k) : TwoR w' B v' n' xs' vb m ys := by
  refine ⟨ho, u.row h.2.1 (fun k h1 h2 => h.2.2 k h2 h1), fun k h1 h2 => ?_⟩
  rcases hat with e | ⟨j, e, hj⟩
  · rw [e] at h1; exact h.2.2 k h1 h2
  · rw [e] at h1
    injection h1 with h1
    have := (h.2.1.lt k h2).2
    omega
theorem TwoR.out {w0 w w' : World} {va vb : Value} {n m : Nat} {xs ys : List Int} (h : TwoR w w0.heap.size va n xs vb m ys) (hu : Upd NoB w0 w) (u : Upd (fun k => va.ownBlock = some k) w w') : Upd NoB w0 w' :=
  hu.trans u (fun k hk e => by have := (h.1.lt k e).1; omega)
theorem TwoR.nil (w : World) (B : Nat) : TwoR w B (.slice none 0 0) 0 [] (.slice none 0 0) 0 [] := ⟨World.ownsRow_nil _ _ _ _, World.ownsRow_nil _ _ _ _, fun k h => by cases h⟩
theorem TwoR.form {w : World} {B : Nat} {va vb : Value} {n m : Nat} {xs ys : List Int} (h : TwoR w B va n xs vb m ys) : ∃ a c b d, va = .slice a n c ∧ vb = .slice b m d := by
  obtain ⟨a, c, e1⟩ := row_form h.1
  obtain ⟨b, d, e2⟩ := row_form h.2.1
  exact ⟨a, c, b, d, e1, e2⟩
theorem TwoR.up {B p c g m : Nat} {wr w6 : World} {va vb : Value} {xs ys : List Int} {y : Int} (h : TwoR wr B va p xs vb m ys) (ho : w6.ownsRow B 3 1 (.slice (some ⟨g, 0, none⟩) (p + 1) c) (p + 1) (i64s xs ++ [.int .i64 y]))
    (hg : (wr.drew.alloc (.cells #[.int .i64 y] 3)).grownBy w6 va.ownBlock) (hat : va.ownBlock = some g ∨ g = (wr.drew.alloc (.cells #[.int .i64 y] 3)).heap.size) :
    TwoR w6 B (.slice (some ⟨g, 0, none⟩) (p + 1) c) (p + 1) (xs ++ [y]) vb m ys ∧ Upd (fun k => va.ownBlock = some k) wr w6 := by
  have u : Upd (fun k => va.ownBlock = some k) wr w6 := (((Upd.refl (fun k => va.ownBlock = some k) wr).drew).alloc _).grown hg (fun k hk _ => hk)
  refine ⟨h.step (by rw [i64s_append]; exact ho) u ?_, u⟩
  rcases hat with e | e
  · exact .inl e.symm
  · refine .inr ⟨g, rfl, ?_⟩
    rw [e]
    exact ((Upd.refl NoB wr).drew.alloc _).size
theorem rfU_take {u v : List Int} {k : Int} {t : Nat} (h : t < u.length - 1) : (rfU u v k).take (t + 1) = (rfU u v k).take t ++ [u.getD (t + 1) 0 + rnd (k * v.getD (t + 1) 0) 128] := by
  rw [List.take_add_one]
  unfold rfU
  rw [List.getElem?_map, List.getElem?_range h]; rfl
theorem rfV_take {u v : List Int} {k : Int} {t : Nat} (h : t < u.length - 1) : (rfV u v k).take (t + 1) = (rfV u v k).take t ++ [v.getD t 0 + rnd (k * u.getD t 0) 128] := by
  rw [List.take_add_one]
  unfold rfV
  rw [List.getElem?_map, List.getElem?_range h]; rfl
theorem rfl1_ref (u v : Int) : rfl1 u v = if 0 < v then max (-127) (min 127 (rnd (-128 * u) v)) else 0 := by
  unfold rfl1
  by_cases h : v ≤ 0
  · rw [if_pos h, if_neg (by omega)]
  · rw [if_neg h, if_pos (by omega)]; omega
theorem likL_ref (x : List Int) {o j : Nat} (h : j ≤ o) : (likL x o)[j]? = some (dotL x (x.drop j) / 2 ^ (exS (dotL x x))) := by
  unfold likL
  rw [List.getElem?_map, List.getElem?_range (by omega)]
  have e : x.drop (min j x.length) = x.drop j := by
    by_cases hj : j ≤ x.length
    · rw [Nat.min_eq_left hj]
    · rw [Nat.min_eq_right (by omega), List.drop_length, List.drop_of_length_le (by omega)]
  rw [← e]; rfl
theorem take_snoc {xs : List Int} {k : Nat} {x : Int} (h : xs[k]? = some x) : xs.take (k + 1) = xs.take k ++ [x] := by rw [List.take_add_one, h]; rfl
set_option maxRecDepth 100000 in
set_option maxHeartbeats 8000000 in
theorem rReflect_any (sv : Value) (xs : List Int) (k : Int) (w : World) (h : Ints w sv xs) : Calls Try.prog 39 #[sv, .int .i64 k] w (EInts w (rfS xs k) (rfE xs k)) := by
  have HC := Lib.hid (rlist_any sv xs 2097152 w (by decide) h)
  by_cases hk : k < 0 ∨ 12 < k
  · have HE := Lib.hid (show rfE xs k = 1 from if_pos hk)
    have HS := Lib.hid (show rfS xs k = [] from if_neg (by rw [HE.out]; decide))
    rw [HE.out, HS.out]
    obtain ⟨a, cap, rfl⟩ := h.form
    generalize xs.length = L at *
    by_cases h1 : k < 0
    · have t1 : decide (k < 0) = true := decide_eq_true h1
      clear h hk
      go_enter Try.func39, Try.ntmps39
      go_wp2_with fail
      go_ret2
      exact ⟨none, 0, 0, rfl, World.ownsRow_nil _ _ _ _, Upd.refl _ _⟩
    · have t1 : decide (k < 0) = false := decide_eq_false h1
      have t2 : decide (12 < k) = true := decide_eq_true (by omega)
      clear h hk
      go_enter Try.func39, Try.ntmps39
      go_wp2_with fail
      go_ret2
      exact ⟨none, 0, 0, rfl, World.ownsRow_nil _ _ _ _, Upd.refl _ _⟩
  · have HE := Lib.hid (show rfE xs k = ckE 2097152 xs from if_neg hk)
    have t1 : decide (k < 0) = false := decide_eq_false (by omega)
    have t2 : decide (12 < k) = false := decide_eq_false (by omega)
    by_cases hE : ckE 2097152 xs = 0
    · obtain ⟨hl, hin⟩ := ckE_ok hE
      obtain ⟨n, rfl⟩ : ∃ n : Nat, k = (n : Int) := ⟨k.toNat, by omega⟩
      have hn12 : n ≤ 12 := by omega
      have HS := Lib.hid (show rfS xs (n : Int) = flG n ((likL xs n).drop 1) ((likL xs n).take n) by
        have e : rfS xs (n : Int) = flG (n : Int).toNat ((likL xs (n : Int).toNat).drop 1) ((likL xs (n : Int).toNat).take (n : Int).toNat) := if_pos (by rw [HE.out, hE])
        rw [e, Int.toNat_natCast])
      rw [HE.out, hE, HS.out]
      rw [hE] at HC
      have HFl := Lib.hid (flG_len n ((likL xs n).drop 1) ((likL xs n).take n))
      have HPr := Lib.hid (fun (j : Nat) (hj : j ≤ 12) W (u : Upd NoB w W) => (show Calls Try.prog 75 #[sv, .int .i64 (j : Int)] W fun e w' => e = .returned (.int .i64 (dotL xs (xs.drop j))) ∧ Upd NoB W w' from (rproducts_any sv xs j W (h.later u) hin hl hj).mono fun e w' ⟨h1, m, h2⟩ => ⟨h1, by rw [h2]; exact upd_drewN (Upd.refl _ _) _⟩))
      have HP0 := Lib.hid (fun W (u : Upd NoB w W) => (show Calls Try.prog 75 #[sv, .int .i64 0] W fun e w' => e = .returned (.int .i64 (dotL xs xs)) ∧ Upd NoB W w' from (rproducts_any sv xs 0 W (h.later u) hin hl (by omega)).mono fun e w' ⟨h1, m, h2⟩ => ⟨h1, by rw [h2]; exact upd_drewN (Upd.refl _ _) _⟩))
      obtain ⟨v0, v1⟩ := like_sum hin hl
      have HI := Lib.hid (fun d (hd : d < 64) (h1 : dotL xs xs / 2 ^ d < 1073741824) h2 => exS_is (v := dotL xs xs) hd h1 h2)
      have HBd := Lib.hid (show dotL xs xs / 2 ^ 30 < 1073741824 by
        rw [show (2 : Int) ^ 30 = 1073741824 by decide]; omega)
      have HLk := Lib.hid (show ∀ j, j ≤ n → (likL xs n)[j]? = some (dotL xs (xs.drop j) / 2 ^ (exS (dotL xs xs))) from fun j hj => likL_ref xs hj)
      have HLu := Lib.hid (show ∀ j, j < n → ((likL xs n).drop 1).take (j + 1) = ((likL xs n).drop 1).take j ++ [dotL xs (xs.drop (j + 1)) / 2 ^ (exS (dotL xs xs))] from fun j hj => take_snoc (by rw [List.getElem?_drop, Nat.add_comm 1 j]; exact HLk.out (j + 1) (by omega)))
      have HLv := Lib.hid (show ∀ j, j < n → ((likL xs n).take n).take (j + 1) = ((likL xs n).take n).take j ++ [dotL xs (xs.drop j) / 2 ^ (exS (dotL xs xs))] from fun j hj => take_snoc (by rw [List.getElem?_take, if_pos hj]; exact HLk.out j (by omega)))
      have hu0 : ((likL xs n).drop 1).length = n := by rw [List.length_drop, likL_len]; omega
      have hv0 : ((likL xs n).take n).length = n := by rw [List.length_take, likL_len]; omega
      have HU0 := Lib.hid hu0; have HV0 := Lib.hid hv0
      have HBu := Lib.hid (inM_drop (likL_in hin hl n) 1); have HBv := Lib.hid (inM_take (likL_in hin hl n) n)
      generalize (likL xs n).drop 1 = LU at *
      generalize (likL xs n).take n = LV at *
      have HUt := Lib.hid (show LU.take n = LU by rw [← hu0]; exact List.take_length); have HVt := Lib.hid (show LV.take n = LV by rw [← hv0]; exact List.take_length)
      obtain ⟨FL, hFL⟩ : ∃ FL, flG n LU LV = FL := ⟨_, rfl⟩
      have HFe := Lib.hid hFL
      rw [hFL] at HFl ⊢
      obtain ⟨a, cap, rfl⟩ := h.form
      generalize xs.length = L at *
      clear h hk hE hin hl hu0 hv0 hFL v0 v1
      go_enter Try.func39, Try.ntmps39
      go_wp2_with fail
      refine HC.out.mono ?_
      rintro e w1 ⟨rfl, hw1⟩
      have U1 := Lib.hid (show Upd NoB w w1 by rw [← hw1]; exact Upd.refl _ _)
      clear hw1 HC
      go_wp2_with fail
      go_loopw [7] (fun s wr => ∃ d : Nat, d ≤ 30 ∧ s = .int .i64 (d : Int) ∧ (∀ j, j < d → 1073741824 ≤ dotL xs xs / 2 ^ j) ∧ Upd NoB w wr) (fun s _ => 31 - (intOf s).toNat)
      case atStart => exact ⟨0, by omega, rfl, fun j hj => by omega, U1.out⟩
      case round =>
        obtain ⟨d, hd, rfl, hin, hu⟩ := hrel
        have HIn := Lib.hid hin
        have HPd := Lib.hid (HP0.out _ hu)
        have HU := Lib.hid hu
        clear hin hu
        by_cases hlt : dotL xs xs / 2 ^ d < 1073741824
        · have t3 : decide (1073741824 ≤ dotL xs xs / 2 ^ d) = false := decide_eq_false (by omega)
          have hS := HI.out d (by omega) hlt HIn.out
          have hd63 : d < 64 := by omega
          clear hlt
          go_wp2_with fail
          refine HPd.out.mono ?_
          rintro e w2 ⟨rfl, u2⟩
          have U2 := Lib.hid (HU.out.then u2)
          clear u2
          rw [hS] at HLu HLv HLk
          generalize dotL xs xs = V at *
          clear HPd HP0 HI HBd HIn
          go_wp2_with fail
          obtain ⟨wo, rfl⟩ : ∃ y : World, y = w2 := ⟨_, rfl⟩
          go_loopw [8, 9, 36] (fun us vs i wv => ∃ j : Nat, j ≤ n ∧ i = .int .i64 (j : Int) ∧ TwoR wv w.heap.size us j (LU.take j) vs j (LV.take j) ∧ Upd NoB w wv) (fun _ _ i _ => n - (intOf i).toNat)
          case atStart => exact ⟨0, Nat.zero_le _, rfl, TwoR.nil _ _, U2.out⟩
          case round =>
            obtain ⟨j, hj, rfl, ht, hu⟩ := hrel
            obtain ⟨ua, uc, va, vc, rfl, rfl⟩ := ht.form
            by_cases hlt : j < n
            · obtain ⟨J, hJ⟩ : ∃ J, j + 1 = J := ⟨_, rfl⟩
              have HU3 := Lib.hid hu; have HT3 := Lib.hid ht
              have HSu := Lib.hid (HLu.out j hlt); have HSv := Lib.hid (HLv.out j hlt)
              have HPa := Lib.hid (fun W (u : Upd NoB w W) => HPr.out J (by omega) W u)
              have HPb := Lib.hid (fun W (u : Upd NoB w W) => HPr.out j (by omega) W u)
              rw [hJ] at HSu HSv
              have hJ2 : (j : Int) + 1 = (J : Int) := by omega
              have y1 : wrap64 ((j : Int) + 1) = (J : Int) := by rw [hJ2]; exact IntWalk.wrap64_in _ (by omega)
              have y2 : IntKind.i64.wrap ((j : Int) + 1) = (J : Int) := by rw [hJ2]; exact IntWalk.i64_in _ (by clear y1; omega)
              have hj6 : j ≤ 1000000 := by clear y1 y2; omega
              have HJn := Lib.hid (show J ≤ n by clear y1 y2; omega)
              have HJe := Lib.hid hJ
              generalize dotL xs (xs.drop J) = PJ at *
              generalize dotL xs (xs.drop j) = Pj at *
              generalize LU.take j = XU at *
              generalize LV.take j = XV at *
              clear ht hu hJ
              go_wp2_with fail
              refine (HPa.out _ HU3.out).mono ?_
              rintro e w4 ⟨rfl, u4⟩
              have T4 := Lib.hid (HT3.out.later u4); have U4 := Lib.hid (HU3.out.then u4); have hb4 := U4.out.size
              clear u4
              go_wp2_with (at_builtin; refine wpList_pushF rfl (.tmp 39) (.tmp 46) rfl w.heap.size (.slice ua j uc) j XU (PJ / 2 ^ d) rfl rfl T4.out.1 hj6 hb4 ?_; intro v5 w5 o5 u5 hat5; have T5 := Lib.hid (T4.out.step o5 u5 hat5); have U5 := Lib.hid (T4.out.out U4.out u5); have hb5 := U5.out.size; obtain ⟨a5, c5, rfl⟩ := row_form o5; clear o5 u5 hat5)
              refine (HPb.out _ U5.out).mono ?_
              rintro e w6 ⟨rfl, u6⟩
              have T6 := Lib.hid (T5.out.later u6); have U6 := Lib.hid (U5.out.then u6); have hb6 := U6.out.size
              clear u6
              go_wp2_with (at_builtin; refine wpList_pushF rfl (.tmp 48) (.tmp 54) rfl w.heap.size (.slice va j vc) j XV (Pj / 2 ^ d) rfl rfl T6.out.2.1 hj6 hb6 ?_; intro v7 w7 o7 u7 hat7; have T7 := Lib.hid (T6.out.swap.step o7 u7 hat7).swap; have U7 := Lib.hid (T6.out.swap.out U6.out u7); obtain ⟨a7, c7, rfl⟩ := row_form o7; clear o7 u7 hat7)
              go_roundw
              case rel => exact ⟨J, HJn.out, by rw [← HJe.out], by rw [HSu.out, HSv.out, ← HJe.out]; exact T7.out, U7.out⟩
              case measure => clear y1 y2; simp [intOf]; omega
            · obtain rfl : j = n := by omega
              rw [HUt.out, HVt.out] at ht
              have HT3 := Lib.hid ht; have HU3 := Lib.hid hu
              clear ht hu hlt HPr HLu HLv HLk
              obtain ⟨wp, rfl⟩ : ∃ y : World, y = wr := ⟨_, rfl⟩
              go_wp2_with fail
              go_loopw [8, 9, 11, 12] (fun us vs f i wv => ∃ (m : Nat) (U V F : List Int), m ≤ j ∧ i = .int .i64 ((m + 1 : Nat) : Int) ∧ U.length = j - m ∧ V.length = j - m ∧ wv.ownsRow w.heap.size 3 1 us (j - m) (i64s U) ∧ wv.ownsRow w.heap.size 3 1 vs (j - m) (i64s V) ∧ wv.ownsRow w.heap.size 3 1 f m (i64s F) ∧ (∀ j, f.ownBlock = some j → us.ownBlock = some j → False) ∧ (∀ j, f.ownBlock = some j → vs.ownBlock = some j → False) ∧ FL = F ++ flG (j - m) U V ∧ inM (1073741824 * 2 ^ m) U = true ∧ inM (1073741824 * 2 ^ m) V = true ∧ V.getD 0 0 ≤ 1073741824 ∧ F.length = m ∧ Upd NoB w wv) (fun _ _ _ i _ => j + 1 - (intOf i).toNat)
              case atStart => exact ⟨0, LU, LV, [], Nat.zero_le _, rfl, HU0.out, HV0.out, HT3.out.1, HT3.out.2.1, World.ownsRow_nil _ _ _ _, fun j hj => by simp [Value.ownBlock] at hj, fun j hj => by simp [Value.ownBlock] at hj, by rw [← HFe.out]; rfl, inM_mono (by decide) HBu.out, inM_mono (by decide) HBv.out, (getD_in (by decide) HBv.out 0).2, rfl, HU3.out⟩
              case round =>
                obtain ⟨m, U, V, F, hm, rfl, hUl, hVl, hru, hrv, hrf, hd1, hd2, htot, bU, bV, hv0, hFlen, hu⟩ := hrel
                by_cases hlt : m < j
                · obtain ⟨N, hN⟩ : ∃ N, j - m = N + 1 := ⟨j - m - 1, by omega⟩
                  rw [hN] at hUl hVl hru hrv htot
                  have iu := row_ints hru hUl (by omega)
                  have iv := row_ints hrv hVl (by omega)
                  obtain ⟨ua, uc, rfl⟩ := row_form hru
                  obtain ⟨va, vc, rfl⟩ := row_form hrv
                  obtain ⟨fa, fc, rfl⟩ := row_form hrf
                  obtain ⟨p1, p2⟩ := two_pow_le (n := m) (by omega)
                  have bU4 : inM 4398046511104 U = true := inM_mono p1 bU
                  have bV4 : inM 4398046511104 V = true := inM_mono p1 bV
                  have hkb := rfl1_in (U.getD 0 0) (V.getD 0 0)
                  have hbn := rf_in (B := 1073741824 * 2 ^ m) (by omega) hkb bU bV
                  rw [show 2 * ((1073741824 : Int) * 2 ^ m) = 1073741824 * 2 ^ (m + 1) by rw [Int.pow_succ]; omega] at hbn
                  have HBn := Lib.hid hbn
                  have HLu := Lib.hid (rfU_len U V (rfl1 (U.getD 0 0) (V.getD 0 0))); have HLv := Lib.hid (rfV_len U V (rfl1 (U.getD 0 0) (V.getD 0 0)))
                  rw [flG_succ] at htot
                  have HZ := Lib.hid (show (rfV U V (rfl1 (U.getD 0 0) (V.getD 0 0))).getD 0 0 ≤ 1073741824 from by
                    by_cases h1 : 1 < U.length
                    · exact Int.le_trans (rfV_zero h1) hv0
                    · have e : rfV U V (rfl1 (U.getD 0 0) (V.getD 0 0)) = [] := List.eq_nil_of_length_eq_zero (by rw [rfV_len]; omega)
                      rw [e]; decide)
                  have hrefl := rfl1_ref (U.getD 0 0) (V.getD 0 0)
                  have gU := getD_in (by decide) bU4 0
                  have HGU := Lib.hid (fun t => getD_in (by decide) bU4 t); have HGV := Lib.hid (fun t => getD_in (by decide) bV4 t)
                  have HTu := Lib.hid (fun t (ht : t < N) => rfU_take (u := U) (v := V) (k := rfl1 (U.getD 0 0) (V.getD 0 0)) (t := t) (by omega)); have HTv := Lib.hid (fun t (ht : t < N) => rfV_take (u := U) (v := V) (k := rfl1 (U.getD 0 0) (V.getD 0 0)) (t := t) (by omega))
                  obtain ⟨K, hK⟩ : ∃ K, rfl1 (U.getD 0 0) (V.getD 0 0) = K := ⟨_, rfl⟩
                  rw [hK] at HBn HLu HLv htot HZ hrefl HTu HTv hkb
                  rw [hUl] at HLu HLv
                  have HGo := Lib.hid (show ∀ t, t < N + 1 → U[t]? = some (U.getD t 0) ∧ V[t]? = some (V.getD t 0) from fun t ht => ⟨getD_of (by omega), getD_of (by omega)⟩)
                  have HTot := Lib.hid htot; have HRf := Lib.hid hrf; have HU4 := Lib.hid hu; have HFl2 := Lib.hid hFlen; have HN := Lib.hid hN
                  have HIu := Lib.hid iu; have HIv := Lib.hid iv; have HKb := Lib.hid hkb
                  have HD1 := Lib.hid hd1; have HD2 := Lib.hid hd2
                  obtain ⟨ub, uo, hua, c1⟩ := iu.cellAt (HGo.out 0 (by omega)).1
                  obtain ⟨vb, vo, hva, c2⟩ := iv.cellAt (HGo.out 0 (by omega)).2
                  obtain ⟨X, hX⟩ : ∃ X, U.getD 0 0 = X := ⟨_, rfl⟩
                  obtain ⟨Y, hY⟩ : ∃ Y, V.getD 0 0 = Y := ⟨_, rfl⟩
                  rw [hX] at c1 hrefl gU
                  rw [hY] at c2 hrefl hv0
                  rw [hX, hY] at hK
                  rw [Nat.add_zero] at c1 c2
                  subst hua; subst hva
                  have hm6 : m ≤ 1000000 := by omega
                  have hN0 : (0 : Int) < ((N + 1 : Nat) : Int) := by omega
                  have hN1 : 0 < N + 1 := by omega
                  obtain ⟨M1, hM1⟩ : ∃ M1, m + 1 = M1 := ⟨_, rfl⟩
                  have hM1n : M1 ≤ j := by omega
                  have hN12 : N ≤ 12 := by omega
                  have tM : decide ((M1 : Int) ≤ (j : Int)) = true := decide_eq_true (by omega)
                  have HM1 := Lib.hid hM1
                  have HNj := Lib.hid (show (j : Int) - (M1 : Int) = (N : Int) by omega)
                  have HNq := Lib.hid (show j - M1 = N by omega)
                  have HF0 := Lib.hid (And.intro (show (rfU U V K).take 0 = [] from rfl) (show (rfV U V K).take 0 = [] from rfl))
                  obtain ⟨wq, rfl⟩ : ∃ y : World, y = wr := ⟨_, rfl⟩
                  rw [hM1]
                  clear hUl hVl hru hrv hrf hd1 hd2 htot bU bV bU4 bV4 hFlen hu iu iv p1 p2 hkb hbn hm hX hY hlt hN hM1
                  obtain ⟨b5, hb5⟩ : ∃ b, decide (0 < Y) = b := ⟨_, rfl⟩
                  go_upto_if 65 with fail
                  go_cut [13] from 57 to 120 (fun r wx => r = .int .i64 K ∧ Upd NoB wq wx)
                  case first =>
                    cases b5 with
                    | true =>
                      have hy : 0 < Y := of_decide_eq_true hb5
                      rw [if_pos hy] at hrefl
                      have HNr := Lib.hid (fun V => near_any (-128 * X) Y V (by omega) (by omega) (by omega) (by omega))
                      obtain ⟨q, hq⟩ : ∃ q, -128 * X = q := ⟨_, rfl⟩
                      have z1 : wrap64 (-128 * X) = q := by rw [hq]; exact IntWalk.wrap64_in _ (by omega)
                      have z2 : IntKind.i64.wrap (-128 * X) = q := by rw [hq]; exact IntWalk.i64_in _ (by clear z1; omega)
                      rw [hq] at hrefl HNr
                      generalize rnd q Y = R at *
                      have HR := Lib.hid hrefl
                      have d1 : wq.drew.cell? ⟨ub, uo, none⟩ = some (.int .i64 X) := c1
                      have d2 : wq.drew.cell? ⟨vb, vo, none⟩ = some (.int .i64 Y) := c2
                      clear hrefl hq gU hv0 hK hy
                      go_wp2_with fail
                      refine wp_region_still_tail 7 (by kernel_rfl) (by kernel_rfl) ?_
                      simp only [List.take_succ_cons, List.take_zero, List.drop_succ_cons, List.drop_zero]
                      repeat still_step
                      refine wpStill_nil ?_
                      change wpList _ _ _ _ _ wq.drew
                      have W9 := Lib.hid (show Upd NoB wq wq.drew from (Upd.refl NoB wq).drew)
                      generalize wq.drew = w8 at *
                      clear d1 d2
                      go_wp2_with fail
                      refine (HNr.out _).mono ?_
                      rintro e w9 ⟨rfl, hw9⟩
                      rw [hw9]
                      clear hw9 w9
                      go_wp2_with fail
                      go_meet
                      case rel => exact ⟨by rw [HR.out], W9.out⟩
                    | false =>
                      have hy : ¬ 0 < Y := of_decide_eq_false hb5
                      rw [if_neg hy] at hrefl
                      have HR := Lib.hid hrefl
                      clear hrefl gU hv0 hK hy
                      go_wp2_with fail
                      go_meet
                      case rel => exact ⟨by rw [HR.out], Upd.refl _ _⟩
                  case rest =>
                    obtain ⟨rfl, hcv⟩ := hcut
                    have CV := Lib.hid hcv
                    have RF := Lib.hid (hcv.row HRf.out (fun j _ => noB j))
                    have UC := Lib.hid (HU4.out.then hcv)
                    have hbc := UC.out.size
                    obtain ⟨wk, rfl⟩ : ∃ y : World, y = wc := ⟨_, rfl⟩
                    clear hcv hrefl c1 c2 gU hv0 hK
                    have hz1 : wrap64 ((j : Int) - (M1 : Int)) = (N : Int) := by rw [HNj.out]; exact IntWalk.wrap64_in _ (by omega)
                    have hz2 : IntKind.i64.wrap ((j : Int) - (M1 : Int)) = (N : Int) := by rw [HNj.out]; exact IntWalk.i64_in _ (by clear hz1; omega)
                    go_wp2_with (at_builtin; refine wpList_pushF rfl (.tmp 76) (.tmp 78) rfl w.heap.size (.slice fa m fc) m F K rfl rfl RF.out hm6 hbc ?_; intro v6 w6 hown6 u6 hat6; obtain ⟨a6, c6, rfl⟩ := row_form hown6; have R6 := Lib.hid hown6; have Uw6 := Lib.hid (show Upd (fun j => (Value.slice fa m fc).ownBlock = some j) wq w6 from (CV.out.mono (T := fun j => (Value.slice fa m fc).ownBlock = some j) (fun _ _ h => h.elim)).trans u6 (fun _ _ h => h)); have U6 := Lib.hid (show Upd NoB w w6 from UC.out.trans u6 (fun j hj e => absurd hj (Nat.not_lt.2 (RF.out.lt j e).1))); clear hown6 u6 hat6)
                    have HU6 := Lib.hid (HIu.out.upd Uw6.out (fun _ j hj e => HD1.out j e hj)); have HV6 := Lib.hid (HIv.out.upd Uw6.out (fun _ j hj e => HD2.out j e hj))
                    have HB6 := Lib.hid (U6.out.size)
                    obtain ⟨i0, hi, hz0, hz1', hz2'⟩ := info_parts Try.infoInt
                    go_loopw [14, 15, 16] (fun ps qs i wv => ∃ t : Nat, t ≤ N ∧ i = .int .i64 (t : Int) ∧ TwoR wv w6.heap.size ps t ((rfU U V K).take t) qs t ((rfV U V K).take t) ∧ Upd NoB w6 wv) (fun _ _ i _ => N - (intOf i).toNat)
                    case atStart => exact ⟨0, Nat.zero_le _, rfl, by rw [HF0.out.1, HF0.out.2]; exact TwoR.nil _ _, Upd.refl _ _⟩
                    case round =>
                      obtain ⟨t, ht, rfl, hT, hu⟩ := hrel
                      obtain ⟨pa, pc, qa, qc, rfl, rfl⟩ := hT.form
                      by_cases htn : t < N
                      · obtain ⟨T1, hT1⟩ : ∃ T1, t + 1 = T1 := ⟨_, rfl⟩
                        obtain ⟨g1, g2⟩ := HGo.out T1 (by clear hz1 hz2; omega)
                        obtain ⟨g3, g4⟩ := HGo.out t (by clear hz1 hz2; omega)
                        obtain ⟨ub', uo', e1, c1⟩ := (HU6.out.later hu).cellAt g1
                        obtain ⟨vb', vo', e2, c2⟩ := (HV6.out.later hu).cellAt g2
                        cases e1; cases e2
                        have SU := Lib.hid (HTu.out t htn); have SV := Lib.hid (HTv.out t htn)
                        rw [hT1] at SU SV
                        have m1 := HGU.out T1; have m2 := HGV.out T1; have m3 := HGU.out t; have m4 := HGV.out t
                        have HI3 := Lib.hid (fun Z (u : Upd NoB w6 Z) => (HU6.out.later u).cellAt g3); have HI4 := Lib.hid (fun Z (u : Upd NoB w6 Z) => (HV6.out.later u).cellAt g4)
                        generalize U.getD T1 0 = x1 at *
                        generalize V.getD T1 0 = x2 at *
                        generalize U.getD t 0 = x3 at *
                        generalize V.getD t 0 = x4 at *
                        have k1 := mul_in HKb.out m2
                        have k2 := mul_in HKb.out m3
                        have r1 := rnd_in (by decide) k1
                        have r2 := rnd_in (by decide) k2
                        have HN1 := Lib.hid (fun V => near_any (K * x2) 128 V (by decide) (by decide) (by clear hz1 hz2; omega) (by clear hz1 hz2; omega))
                        have HN2 := Lib.hid (fun V => near_any (K * x3) 128 V (by decide) (by decide) (by clear hz1 hz2; omega) (by clear hz1 hz2; omega))
                        obtain ⟨q1, hq1⟩ : ∃ q, K * x2 = q := ⟨_, rfl⟩
                        obtain ⟨q2, hq2⟩ : ∃ q, K * x3 = q := ⟨_, rfl⟩
                        rw [hq1] at k1 r1 HN1 SU
                        rw [hq2] at k2 r2 HN2 SV
                        generalize rnd q1 128 = R1 at *
                        generalize rnd q2 128 = R2 at *
                        have y1 : wrap64 (K * x2) = q1 := by rw [hq1]; exact IntWalk.wrap64_in _ (by clear hz1 hz2; omega)
                        have y2 : IntKind.i64.wrap (K * x2) = q1 := by rw [hq1]; exact IntWalk.i64_in _ (by clear hz1 hz2 y1; omega)
                        have y3 : wrap64 (K * x3) = q2 := by rw [hq2]; exact IntWalk.wrap64_in _ (by clear hz1 hz2 y1 y2; omega)
                        have y4 : IntKind.i64.wrap (K * x3) = q2 := by rw [hq2]; exact IntWalk.i64_in _ (by clear hz1 hz2 y1 y2 y3; omega)
                        have y5 : wrap64 (x1 + R1) = x1 + R1 := IntWalk.wrap64_in _ (by clear hz1 hz2 y1 y2 y3 y4; omega)
                        have y6 : IntKind.i64.wrap (x1 + R1) = x1 + R1 := IntWalk.i64_in _ (by clear hz1 hz2 y1 y2 y3 y4 y5; omega)
                        have y7 : wrap64 (x4 + R2) = x4 + R2 := IntWalk.wrap64_in _ (by clear hz1 hz2 y1 y2 y3 y4 y5 y6; omega)
                        have y8 : IntKind.i64.wrap (x4 + R2) = x4 + R2 := IntWalk.i64_in _ (by clear hz1 hz2 y1 y2 y3 y4 y5 y6 y7; omega)
                        have t1' : wrap64 ((t : Int) + 1) = (T1 : Int) := by rw [show (t : Int) + 1 = (T1 : Int) by clear hz1 hz2 y1 y2 y3 y4 y5 y6 y7 y8; omega]; exact IntWalk.wrap64_in _ (by clear hz1 hz2 y1 y2 y3 y4 y5 y6 y7 y8; omega)
                        have t2' : IntKind.i64.wrap ((t : Int) + 1) = (T1 : Int) := by rw [show (t : Int) + 1 = (T1 : Int) by clear hz1 hz2 y1 y2 y3 y4 y5 y6 y7 y8 t1'; omega]; exact IntWalk.i64_in _ (by clear hz1 hz2 y1 y2 y3 y4 y5 y6 y7 y8 t1'; omega)
                        have d1 : wr.drew.cell? ⟨ub, uo + T1, none⟩ = some (.int .i64 x1) := c1
                        have d2 : wr.drew.cell? ⟨vb, vo + T1, none⟩ = some (.int .i64 x2) := c2
                        have hT1N : T1 < N + 1 := by clear hz1 hz2 y1 y2 y3 y4 y5 y6 y7 y8 t1' t2'; omega
                        have hT1i : (T1 : Int) < (N : Int) + 1 := by clear hz1 hz2 y1 y2 y3 y4 y5 y6 y7 y8 t1' t2'; omega
                        have hti : (t : Int) < (N : Int) + 1 := by clear hz1 hz2 y1 y2 y3 y4 y5 y6 y7 y8 t1' t2'; omega
                        have htN : t < N + 1 := by clear hz1 hz2 y1 y2 y3 y4 y5 y6 y7 y8 t1' t2'; omega
                        have htNi : (t : Int) < (N : Int) := by clear hz1 hz2 y1 y2 y3 y4 y5 y6 y7 y8 t1' t2'; omega
                        have C3 := Lib.hid (show t + 1 ≤ maxLen by unfold maxLen; clear hz1 hz2 y1 y2 y3 y4 y5 y6 y7 y8 t1' t2'; omega)
                        have C4 := Lib.hid (show (t + 1) * 8 ≤ 140737488355328 by clear hz1 hz2 y1 y2 y3 y4 y5 y6 y7 y8 t1' t2'; omega)
                        have HTT := Lib.hid hT; have HUu := Lib.hid hu; have HT1 := Lib.hid hT1
                        have HbA := Lib.hid hu.size
                        generalize (rfU U V K).take t = XU at *
                        generalize (rfV U V K).take t = XV at *
                        have HPa := Lib.hid (fun (w7 : World) (g7 c7 : Nat) => TwoR.up (w6 := w7) (g := g7) (c := c7) (y := x1 + R1) HTT.out)
                        clear hT hu g1 g2 g3 g4 c1 c2 m1 m2 m3 m4 k1 k2 r1 r2 hq1 hq2 hT1 ht
                        go_wp2_with fail
                        go_region_law (first
                          | (refine step_append_lies _ (by rfl) _ _ _ (by rfl) w6.heap.size 3 i0 (.int .i64 0) 1 8 Try.underlying22 hi hz0 hz1' hz2' (by rfl) (by decide) _ t (i64s XU) (by rfl) (by exact ((Upd.refl NoB wr).drew.alloc _).row HTT.out.1 (fun q _ => noB q)) ⟨wr.heap.size, 0, none⟩ 1 1 [.int .i64 (x1 + R1)] (by rfl) (by rfl) (by exact World.news_of_block (heap_alloc_new wr.drew _)) (by intro q hq; rw [List.mem_singleton] at hq; subst hq; rfl) (by decide) C3.out C4.out (by exact Nat.le_trans HbA.out ((Upd.refl NoB wr).drew.alloc _).size) _ (by rfl) ?_; intro g7 c7 w7 hown7 hg7 hat7 hlt7; have HX7 := Lib.hid (HPa.out w7 g7 c7 hown7 hg7 hat7); clear hown7 hg7 hat7 hlt7)
                          | (go_simp; go_at_call 76; refine (HN1.out _).mono ?_; rintro e w4 ⟨rfl, rfl⟩))
                        all_goals
                          have T7 := Lib.hid HX7.out.1
                          have U7 := Lib.hid (show Upd NoB w6 w7 from HTT.out.out HUu.out HX7.out.2)
                          have HbB := Lib.hid U7.out.size
                          obtain ⟨ub', uo', e1, c3⟩ := HI3.out w7 U7.out
                          obtain ⟨vb', vo', e2, c4⟩ := HI4.out w7 U7.out
                          cases e1; cases e2
                          have d3 : w7.drew.cell? ⟨ub, uo + t, none⟩ = some (.int .i64 x3) := c3
                          have d4 : w7.drew.cell? ⟨vb, vo + t, none⟩ = some (.int .i64 x4) := c4
                          have HPb := Lib.hid (fun (w8 : World) (g8 c8 : Nat) => TwoR.up (w6 := w8) (g := g8) (c := c8) (y := x4 + R2) T7.out.swap)
                          clear d1 d2 c3 c4
                          go_wp2_with fail
                          go_region_law (first
                            | (refine step_append_lies _ (by rfl) _ _ _ (by rfl) w6.heap.size 3 i0 (.int .i64 0) 1 8 Try.underlying22 hi hz0 hz1' hz2' (by rfl) (by decide) _ t (i64s XV) (by rfl) (by exact ((Upd.refl NoB w7).drew.alloc _).row T7.out.2.1 (fun q _ => noB q)) ⟨w7.heap.size, 0, none⟩ 1 1 [.int .i64 (x4 + R2)] (by rfl) (by rfl) (by exact World.news_of_block (heap_alloc_new w7.drew _)) (by intro q hq; rw [List.mem_singleton] at hq; subst hq; rfl) (by decide) C3.out C4.out (by exact Nat.le_trans HbB.out ((Upd.refl NoB w7).drew.alloc _).size) _ (by rfl) ?_; intro g8 c8 w8 hown8 hg8 hat8 hlt8; have HX8 := Lib.hid (HPb.out w8 g8 c8 hown8 hg8 hat8); clear hown8 hg8 hat8 hlt8)
                            | (go_simp; go_at_call 76; refine (HN2.out _).mono ?_; rintro e w4 ⟨rfl, rfl⟩))
                          all_goals
                            go_wp2_with fail
                            go_roundw
                            case rel => exact ⟨T1, by clear hz1 hz2 y1 y2 y3 y4 y5 y6 y7 y8 t1' t2'; omega, by first | rfl | go_num, by rw [SU.out, SV.out, ← HT1.out]; exact HX8.out.1.swap, T7.out.swap.out U7.out HX8.out.2⟩
                            case measure => have := HT1.out; clear hz1 hz2 y1 y2 y3 y4 y5 y6 y7 y8 t1' t2'; simp [intOf]; omega
                      · obtain rfl : t = N := by clear hz1 hz2; omega
                        have hUl := HLu.out
                        have hVl := HLv.out
                        rw [Nat.add_sub_cancel] at hUl hVl
                        rw [List.take_of_length_le (by rw [hUl]; exact Nat.le_refl _), List.take_of_length_le (by rw [hVl]; exact Nat.le_refl _)] at hT
                        have HTT := Lib.hid hT; have HUu := Lib.hid hu
                        have HUL := Lib.hid hUl; have HVL := Lib.hid hVl
                        have R7 := Lib.hid (hu.row R6.out (fun j _ => noB j))
                        clear hT hu htn hUl hVl
                        go_wp2_with fail
                        go_roundw
                        case rel =>
                          have hMe := HM1.out
                          have hq := HNq.out
                          have hjm : j - (m + 1) = t := by rw [hMe]; exact hq
                          refine ⟨m + 1, rfU U V K, rfV U V K, F ++ [K], by clear hz1 hz2; omega, by first | go_num | (rw [← hMe]; go_num), by rw [hjm]; exact HUL.out, by rw [hjm]; exact HVL.out, ?_, ?_, R7.out, ?_, ?_, ?_, HBn.out.1, HBn.out.2, HZ.out, by rw [List.length_append, HFl2.out]; rfl, U6.out.then HUu.out⟩
                          · rw [hjm]; exact row_base HTT.out.1 HB6.out
                          · rw [hjm]; exact row_base HTT.out.2.1 HB6.out
                          · intro j h1 h2
                            exact absurd (R6.out.lt j h1).2 (Nat.not_lt.2 (HTT.out.1.lt j h2).1)
                          · intro j h1 h2
                            exact absurd (R6.out.lt j h1).2 (Nat.not_lt.2 (HTT.out.2.1.lt j h2).1)
                          · rw [hjm, HTot.out, List.append_assoc]; rfl
                        case measure => have := HM1.out; clear hz1 hz2; simp [intOf]; omega
                · obtain rfl : m = j := by omega
                  have tM : decide (((m + 1 : Nat) : Int) ≤ (m : Int)) = false := decide_eq_false (by omega)
                  have tM2 : ¬ (m + 1 ≤ m) := by omega
                  rw [Nat.sub_self, flG_zero, List.append_nil] at htot
                  have HT := Lib.hid htot; have HRf := Lib.hid hrf; have HU := Lib.hid hu
                  obtain ⟨ua, uc, rfl⟩ := row_form hru
                  obtain ⟨va, vc, rfl⟩ := row_form hrv
                  obtain ⟨fa, fc, rfl⟩ := row_form hrf
                  clear hUl hVl hru hrv hrf hd1 hd2 htot bU bV hv0 hFlen hu hlt
                  go_wp2_with fail
                  go_ret2
                  exact ⟨_, _, _, rfl, by rw [HFl.out, HT.out]; exact HRf.out, HU.out⟩
        · have t3 : decide (1073741824 ≤ dotL xs xs / 2 ^ d) = true := decide_eq_true (by omega)
          have hk30 : d < 30 := by
            by_cases e : d = 30
            · subst e; exact absurd HBd.out hlt
            · omega
          have HN := Lib.hid (show ∀ j, j < d + 1 → 1073741824 ≤ dotL xs xs / 2 ^ j from fun j hj => by
            by_cases e : j = d
            · subst e; omega
            · exact HIn.out j (by omega))
          clear hlt
          go_wp2_with fail
          refine HPd.out.mono ?_
          rintro e w2 ⟨rfl, u2⟩
          have U2 := Lib.hid (HU.out.then u2)
          clear u2
          go_wp2_with fail
          go_roundw
          case rel => exact ⟨d + 1, by omega, by go_num, HN.out, U2.out⟩
          case measure => simp [intOf]; omega
    · have HS := Lib.hid (show rfS xs k = [] from if_neg (by rw [HE.out]; exact hE))
      rw [HS.out, HE.out]
      have t3 : (ckE 2097152 xs != 0) = true := by rw [bne_iff_ne]; exact hE
      obtain ⟨a, cap, rfl⟩ := h.form
      generalize ckE 2097152 xs = E at *
      generalize xs.length = L at *
      clear h hk hE
      go_enter Try.func39, Try.ntmps39
      go_wp2_with fail
      refine HC.out.mono ?_
      rintro e w1 ⟨rfl, rfl⟩
      go_wp2_with fail
      go_ret2
      exact ⟨none, 0, 0, rfl, World.ownsRow_nil _ _ _ _, Upd.refl _ _⟩
end Go.Proofs.Ytopjjdfnnjgnlaa
