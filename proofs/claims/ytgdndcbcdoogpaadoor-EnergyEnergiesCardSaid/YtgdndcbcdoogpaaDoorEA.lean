/- energy: the reference's within, Squares, Level, tone, spectrum -/
import Derived.Test.YtgdndcbcdoogpaaDoorOX
namespace Go.Proofs.YtgdndcbcdoogpaaDoor
open Go.RowKit Go.Shelf

set_option maxRecDepth 100000 in
set_option maxHeartbeats 2000000 in
theorem rwithin_any (m : Int) (sv : Value) (xs : List Int) (w : World) (hm : 0 ≤ m ∧ m ≤ 1152921504606846976) (h : Ints w sv xs) : Calls Tryd.prog 101 #[.int .i64 m, sv] w fun e w' => e = .returned (.bool (inB (-m) m xs)) ∧ w = w' := by
  obtain ⟨a, cap, rfl⟩ := h.form
  have H := Lib.hid h
  have hlb := h.1
  obtain ⟨L, hL⟩ : ∃ L, xs.length = L := ⟨_, rfl⟩
  have HL := Lib.hid hL
  rw [hL] at H hlb ⊢
  obtain ⟨d, hd⟩ : ∃ d, -m = d := ⟨_, rfl⟩
  have y1 : IntKind.i64.wrap (-m) = d := by rw [hd]; exact IntWalk.i64_in _ (by omega)
  have y2 : wrap64 (-m) = d := by rw [hd]; exact IntWalk.wrap64_in _ (by omega)
  rw [hd]
  clear h hL hd hm
  go_enter Tryd.func101, Tryd.ntmps101
  go_wp2_with fail
  go_loop [9] (fun i => ∃ k : Nat, k ≤ L ∧ i = .int .i64 k ∧ ∀ (j : Nat) (y : Int), j < k → xs[j]? = some y → d ≤ y ∧ y ≤ m) (fun i => L - (intOf i).toNat)
  case atStart => exact ⟨0, Nat.zero_le _, rfl, fun j y hj => by omega⟩
  case round =>
    obtain ⟨k, hk, rfl, hin⟩ := hrel
    have HIn := Lib.hid hin; clear hin
    by_cases hlt : k < L
    · obtain ⟨x, hx⟩ : ∃ x, xs[k]? = some x := ⟨_, List.getElem?_eq_getElem (by rw [HL.out]; exact hlt)⟩
      obtain ⟨bb, off, rfl, c0⟩ := H.out.cellAt hx
      by_cases hlo : x < d
      · have t1 : decide (x < d) = true := decide_eq_true hlo
        have HN := Lib.hid (inB_no (lo := d) (hi := m) hx (.inl hlo))
        clear hx hlo
        go_wp2_with fail
        go_ret
        exact ⟨by rw [HN.out]; rfl, rfl⟩
      · have t1 : decide (x < d) = false := decide_eq_false hlo
        by_cases hhi : m < x
        · have t2 : decide (m < x) = true := decide_eq_true hhi
          have HN := Lib.hid (inB_no (lo := d) (hi := m) hx (.inr hhi))
          clear hx hlo hhi
          go_wp2_with fail
          go_ret
          exact ⟨by rw [HN.out]; rfl, rfl⟩
        · have t2 : decide (m < x) = false := decide_eq_false hhi
          have HM := Lib.hid (show ∀ (j : Nat) (y : Int), j < k + 1 → xs[j]? = some y → d ≤ y ∧ y ≤ m from fun j y hj hy => by
            by_cases e : j = k
            · subst e; rw [hx] at hy; cases hy; omega
            · exact HIn.out j y (by omega) hy)
          clear hx hlo hhi
          go_wp2_with fail
          go_round
          case rel => exact ⟨k + 1, by omega, by go_num, HM.out⟩
          case measure => simp [intOf]; omega
    · obtain rfl : k = L := by omega
      have HN := Lib.hid (inB_all (lo := d) (hi := m) fun j y hy => HIn.out j y (by have := (List.getElem?_eq_some_iff.1 hy).1; rw [HL.out] at this; exact this) hy)
      clear hlt
      go_wp2_with fail
      go_ret
      exact ⟨by rw [HN.out]; rfl, rfl⟩
set_option maxRecDepth 100000 in
theorem rWithin_any (m : Int) (sv : Value) (xs : List Int) (w : World) (hm : 0 ≤ m ∧ m ≤ 1152921504606846976) (h : Ints w sv xs) : Calls Tryd.prog 83 #[.int .i64 m, sv] w fun e w' => e = .returned (.bool (inB (-m) m xs)) ∧ w = w' := by
  have HW := Lib.hid (rwithin_any m sv xs w hm h)
  obtain ⟨a, cap, rfl⟩ := h.form
  generalize inB (-m) m xs = z at *
  generalize xs.length = L at *
  clear h hm
  go_enter Tryd.func83, Tryd.ntmps83
  go_wp2_with fail
  refine HW.out.mono ?_
  rintro e w' ⟨rfl, rfl⟩
  go_wp2_with fail
  go_ret
  exact ⟨rfl, rfl⟩
set_option maxRecDepth 100000 in
set_option maxHeartbeats 2000000 in
theorem rSquares_any (sv : Value) (xs : List Int) (w : World) (h : Ints w sv xs) (hc : CoB xs) (hl : xs.length ≤ 300) : Calls Tryd.prog 72 #[sv] w fun r w' => r = .returned (.int .i64 (sqs xs)) ∧ w = w' := by
  obtain ⟨a, cap, rfl⟩ := h.form
  have H := Lib.hid h; have HC := Lib.hid hc
  have HB := Lib.hid (fun k => fsum_bd (f := fun v => v * v) (fun j x hj => sq_co (hc j x hj)) k)
  have HE := Lib.hid (show ((xs.take xs.length).map fun v => v * v).sum = sqs xs by rw [List.take_length]; rfl)
  obtain ⟨L, hL⟩ : ∃ L, xs.length = L := ⟨_, rfl⟩
  have HL := Lib.hid hL
  rw [hL] at H hl HE HB ⊢
  clear h hL hc
  go_enter Tryd.func72, Tryd.ntmps72
  go_wp2_with fail
  go_loop [3, 8] (fun s i => ∃ k : Nat, k ≤ L ∧ i = .int .i64 k ∧ s = .int .i64 ((xs.take k).map fun v => v * v).sum) (fun _ i => L - (intOf i).toNat)
  case atStart => exact ⟨0, Nat.zero_le _, rfl, rfl⟩
  case round =>
    obtain ⟨k, hk, rfl, rfl⟩ := hrel
    by_cases hlt : k < L
    · obtain ⟨x, hx⟩ : ∃ x, xs[k]? = some x := ⟨_, List.getElem?_eq_getElem (by rw [HL.out]; exact hlt)⟩
      obtain ⟨bb, off, rfl, c0⟩ := H.out.cellAt hx
      obtain ⟨q0, q1⟩ := sq_co (HC.out k x hx)
      have HSu := Lib.hid (fmap_take (f := fun v => v * v) hx)
      obtain ⟨s0, s1⟩ := HB.out k
      have hs2 : ((xs.take k).map fun v => v * v).sum ≤ 4398046511104 * 300 := by
        have : ((min k L : Nat) : Int) ≤ 300 := by omega
        omega
      generalize ((xs.take k).map fun v => v * v).sum = S at *
      obtain ⟨q, hq⟩ : ∃ q, x * x = q := ⟨_, rfl⟩
      rw [hq] at q0 q1 HSu
      have hw1 : wrap64 (x * x) = q := by rw [hq]; exact IntWalk.wrap64_in _ (by omega)
      have hw2 : IntKind.i64.wrap (x * x) = q := by rw [hq]; exact IntWalk.i64_in _ (by omega)
      clear hx s1 hq
      go_wp2_with fail
      go_round
      case rel => exact ⟨k + 1, by omega, by go_num, by rw [HSu.out]⟩
      case measure => simp [intOf]; omega
    · obtain rfl : k = L := by omega
      rw [HE.out]
      clear hlt
      go_wp2_with fail
      go_ret
      exact ⟨rfl, rfl⟩
set_option maxRecDepth 100000 in
theorem rLevel_any (e : Int) (w : World) (h0 : 0 ≤ e) (h1 : e ≤ 72057594037927936) : Calls Tryd.prog 79 #[.int .i64 (e + 1)] w fun r w' => r = .returned (.int .i64 (lv e)) ∧ w' = w := by
  have HL := Lib.hid (rLog_any (e + 1) w)
  have hE : lgE (e + 1) = 0 := by
    rcases lgE_cases (e + 1) with h | h | h
    · omega
    · omega
    · exact h.2.2
  rw [hE] at HL
  have HR := Lib.hid (show onOk 0 ((logN (e + 1).toNat : Nat) : Int) = lv e from rfl)
  rw [HR.out] at HL
  generalize lv e = V at *
  clear hE
  go_enter Tryd.func79, Tryd.ntmps79
  go_wp2_with fail
  refine HL.out.mono ?_
  rintro r w' ⟨rfl, rfl⟩
  go_wp2_with fail
  go_ret
  exact ⟨rfl, rfl⟩
theorem tn_ref (xs : List Int) : max 0 (min 255 (tnD xs / 8)) = tnV xs := by
  unfold tnV
  rcases Int.lt_or_le (tnD xs) 0 with h | h
  · have := tdiv_in h (show (1 : Int) ≤ 8 by decide)
    omega
  · rw [Int.tdiv_eq_ediv_of_nonneg h]
    omega
theorem tdiv_bd {a n B : Int} (h0 : 0 ≤ a) (h1 : a ≤ B) (hn : 1 ≤ n) : 0 ≤ a.tdiv n ∧ a.tdiv n ≤ B := by
  rw [Int.tdiv_eq_ediv_of_nonneg h0]
  have := Int.ediv_nonneg h0 (show 0 ≤ n by omega)
  have := Int.ediv_le_self n h0
  omega
set_option maxRecDepth 100000 in
set_option maxHeartbeats 4000000 in
theorem rtone_any (sv : Value) (xs : List Int) (w : World) (h : Ints w sv xs) (hc : CoB xs) (hp : 0 < xs.length) (hl : xs.length ≤ 300) : Calls Tryd.prog 75 #[sv] w fun r w' => r = .returned (.int .i64 (tnV xs)) ∧ w = w' := by
  have HSq := Lib.hid (rSquares_any sv xs w h hc hl)
  obtain ⟨a, cap, rfl⟩ := h.form
  have H := Lib.hid h; have HC := Lib.hid hc
  have HB := Lib.hid (fun k => fsum_bd (f := fun v => lv (v * v)) (fun j x hj => lv_bd (sq_co (hc j x hj)).1 (by have := (sq_co (hc j x hj)).2; omega)) k)
  have HE := Lib.hid (show ((xs.take xs.length).map fun v => lv (v * v)).sum = lvs xs by rw [List.take_length]; rfl)
  obtain ⟨b0, b1⟩ := sqs_bd hc hl
  obtain ⟨l0, l1⟩ := lvs_bd hc hl
  have HT := Lib.hid (tn_ref xs)
  have HD := Lib.hid (show tnD xs = lv ((sqs xs).tdiv xs.length) - (lvs xs).tdiv xs.length from rfl)
  obtain ⟨L, hL⟩ : ∃ L, xs.length = L := ⟨_, rfl⟩
  have HL := Lib.hid hL
  rw [hL] at H hl hp HE HB HSq HD ⊢
  obtain ⟨p0, p1⟩ := tdiv_bd b0 b1 (show (1 : Int) ≤ (L : Int) by omega)
  obtain ⟨r0, r1⟩ := tdiv_bd l0 l1 (show (1 : Int) ≤ (L : Int) by omega)
  obtain ⟨P, hP⟩ : ∃ P, (sqs xs).tdiv L = P := ⟨_, rfl⟩
  obtain ⟨R, hR⟩ : ∃ R, (lvs xs).tdiv L = R := ⟨_, rfl⟩
  rw [hP] at p0 p1 HD
  rw [hR] at r0 r1 HD
  have z1 : wrap64 ((sqs xs).tdiv L) = P := by rw [hP]; exact IntWalk.wrap64_in _ (by omega)
  have z2 : IntKind.i64.wrap ((sqs xs).tdiv L) = P := by rw [hP]; exact IntWalk.i64_in _ (by omega)
  have z3 : wrap64 ((lvs xs).tdiv L) = R := by rw [hR]; exact IntWalk.wrap64_in _ (by omega)
  have z4 : IntKind.i64.wrap ((lvs xs).tdiv L) = R := by rw [hR]; exact IntWalk.i64_in _ (by omega)
  have z5 : wrap64 (P + 1) = P + 1 := IntWalk.wrap64_in _ (by omega)
  have z6 : IntKind.i64.wrap (P + 1) = P + 1 := IntWalk.i64_in _ (by omega)
  obtain ⟨v0, v1⟩ := lv_bd p0 (by omega)
  have HLp := Lib.hid (fun w => rLevel_any P w p0 (by omega))
  generalize lv P = V at *
  have z7 : wrap64 (V - R) = V - R := IntWalk.wrap64_in _ (by omega)
  have z8 : IntKind.i64.wrap (V - R) = V - R := IntWalk.i64_in _ (by omega)
  have HDn := Lib.hid (fun w => down_any (V - R) 8 w (by decide) (by decide) (by omega) (by omega))
  rw [HD.out] at HT
  generalize sqs xs = Q at *
  have HLs : lvs xs = lvs xs := rfl
  have hL0 : ((L : Int) = 0) = False := eq_false (by omega)
  have hL1 : ((L : Int) == 0) = false := by rw [beq_eq_false_iff_ne]; omega
  clear h hL hc hP hR HLs b0 b1 p1
  go_enter Tryd.func75, Tryd.ntmps75
  go_wp2_with fail
  go_loop [3, 9] (fun s i => ∃ k : Nat, k ≤ L ∧ i = .int .i64 k ∧ s = .int .i64 ((xs.take k).map fun v => lv (v * v)).sum) (fun _ i => L - (intOf i).toNat)
  case atStart => exact ⟨0, Nat.zero_le _, rfl, rfl⟩
  case round =>
    obtain ⟨k, hk, rfl, rfl⟩ := hrel
    by_cases hlt : k < L
    · obtain ⟨x, hx⟩ : ∃ x, xs[k]? = some x := ⟨_, List.getElem?_eq_getElem (by rw [HL.out]; exact hlt)⟩
      obtain ⟨bb, off, rfl, c0⟩ := H.out.cellAt hx
      obtain ⟨q0, q1⟩ := sq_co (HC.out k x hx)
      have HSu := Lib.hid (fmap_take (f := fun v => lv (v * v)) hx)
      obtain ⟨s0, s1⟩ := HB.out k
      have hs2 : ((xs.take k).map fun v => lv (v * v)).sum ≤ 16128 * 300 := by
        have : ((min k L : Nat) : Int) ≤ 300 := by omega
        omega
      generalize ((xs.take k).map fun v => lv (v * v)).sum = S at *
      obtain ⟨q, hq⟩ : ∃ q, x * x = q := ⟨_, rfl⟩
      rw [hq] at q0 q1 HSu
      have hw1 : wrap64 (x * x) = q := by rw [hq]; exact IntWalk.wrap64_in _ (by omega)
      have hw2 : IntKind.i64.wrap (x * x) = q := by rw [hq]; exact IntWalk.i64_in _ (by omega)
      obtain ⟨t0, t1⟩ := lv_bd q0 (by omega)
      have HLq := Lib.hid (rLevel_any q w q0 (by omega))
      generalize lv q = T at *
      clear hx s1 hq
      go_wp2_with fail
      refine HLq.out.mono ?_
      rintro r w' ⟨rfl, rfl⟩
      go_wp2_with fail
      go_round
      case rel => exact ⟨k + 1, by omega, by go_num, by rw [HSu.out]⟩
      case measure => simp [intOf]; omega
    · obtain rfl : k = L := by omega
      rw [HE.out]
      generalize lvs xs = LV at *
      clear hlt
      go_wp2_with fail
      refine HSq.out.mono ?_
      rintro r w' ⟨rfl, rfl⟩
      go_wp2_with fail
      refine (HLp.out _).mono ?_
      rintro r w' ⟨rfl, rfl⟩
      go_wp2_with fail
      refine (HDn.out _).mono ?_
      rintro r w' ⟨rfl, rfl⟩
      go_wp2_with fail
      go_ret
      exact ⟨by rw [HT.out]; rfl, rfl⟩
set_option maxRecDepth 100000 in
set_option maxHeartbeats 2000000 in
theorem rspectrum_any (cv : Value) (c : List Int) (s : Bool) (v : Value) (gs : List Int) (w : World) (hc : Ints w cv c) (h : Ints w v gs) : Calls Tryd.prog 70 #[cv, .bool s, v] w fun e w' => e = .returned (.int .i64 (spE c s gs)) ∧ w = w' := by
  have HI := Lib.hid (rIs_any s v gs w h)
  have HW := Lib.hid (rWithin_any 2097152 cv c w (by decide) hc)
  obtain ⟨ca, cc, rfl⟩ := hc.form
  obtain ⟨a, cap, rfl⟩ := h.form
  have hcl := hc.1
  have HE := Lib.hid (show spE c s gs = if isD s gs = true then (if c.length = 128 then (if inB (-2097152) 2097152 c = true then 0 else 6) else 4) else 1 by
    unfold spE dfE
    split
    · split
      · rw [if_pos rfl]
      · rw [if_neg (by decide)]
    · rw [if_neg (by decide)])
  generalize spE c s gs = E at *
  generalize inB (-2097152) 2097152 c = z at *
  generalize isD s gs = d at *
  generalize c.length = n at *
  generalize gs.length = m at *
  clear hc h
  cases d with
  | false =>
    rw [if_neg (by decide)] at HE
    go_enter Tryd.func70, Tryd.ntmps70
    go_wp2_with fail
    refine HI.out.mono ?_
    rintro e w' ⟨rfl, rfl⟩
    go_wp2_with fail
    go_ret
    exact ⟨by rw [HE.out]; rfl, rfl⟩
  | true =>
    rw [if_pos rfl] at HE
    by_cases hn : n = 128
    · subst hn
      rw [if_pos rfl] at HE
      cases z with
      | false =>
        rw [if_neg (by decide)] at HE
        go_enter Tryd.func70, Tryd.ntmps70
        go_wp2_with fail
        refine HI.out.mono ?_
        rintro e w' ⟨rfl, rfl⟩
        go_wp2_with fail
        refine HW.out.mono ?_
        rintro e w' ⟨rfl, rfl⟩
        go_wp2_with fail
        go_ret
        exact ⟨by rw [HE.out]; rfl, rfl⟩
      | true =>
        rw [if_pos rfl] at HE
        go_enter Tryd.func70, Tryd.ntmps70
        go_wp2_with fail
        refine HI.out.mono ?_
        rintro e w' ⟨rfl, rfl⟩
        go_wp2_with fail
        refine HW.out.mono ?_
        rintro e w' ⟨rfl, rfl⟩
        go_wp2_with fail
        go_ret
        exact ⟨by rw [HE.out]; rfl, rfl⟩
    · have t1 : ((n : Int) != 128) = true := by rw [bne_iff_ne]; omega
      rw [if_neg hn] at HE
      clear hn
      go_enter Tryd.func70, Tryd.ntmps70
      go_wp2_with fail
      refine HI.out.mono ?_
      rintro e w' ⟨rfl, rfl⟩
      go_wp2_with fail
      go_ret
      exact ⟨by rw [HE.out]; rfl, rfl⟩
end Go.Proofs.YtgdndcbcdoogpaaDoor
