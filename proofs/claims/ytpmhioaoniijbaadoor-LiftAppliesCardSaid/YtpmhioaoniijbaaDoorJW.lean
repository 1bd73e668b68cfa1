/- the reference's Apply and Undo; the law of lists -/
import Derived.Test.YtpmhioaoniijbaaDoorJT
import Derived.Test.YtpmhioaoniijbaaDoorJZ
namespace Go.Proofs.YtpmhioaoniijbaaDoor
open Go.RowKit Go.Shelf

set_option maxRecDepth 100000 in
set_option maxHeartbeats 2000000 in
theorem looked_any (M : Int) (xv tv : Value) (xs : List Int) (ts : List Tn) (w : World) (hM : 0 ≤ M) (hM2 : M ≤ 4611686018427387904) (hx : Ints w xv xs) (ht : Tns w tv ts) :
    Calls Tryd.prog 63 #[xv, tv, .int .i64 M] w fun e w' => e = .returned (.int .i64 (stpE M xs ts)) ∧ Upd NoB w w' := by
  have HX := Lib.hid hx; have HT := Lib.hid ht
  obtain ⟨xa, xcap, rfl⟩ := hx.form
  obtain ⟨ta, tcap, rfl⟩ := ht.form
  have lx := hx.1
  have lt := ht.1
  clear hx ht
  obtain ⟨L, hL⟩ : ∃ L, xs.length = L := ⟨_, rfl⟩
  obtain ⟨K, hK⟩ : ∃ K, ts.length = K := ⟨_, rfl⟩
  have hst : stpE M xs ts = if 1024 < L ∨ 4096 < K then 2 else if allIn M xs = false then 6 else tnsE L ts := by unfold stpE; rw [hL, hK]
  rw [hL] at lx HX ⊢
  rw [hK] at lt HT ⊢
  have HL := Lib.hid hL; have HK := Lib.hid hK
  clear hL hK
  by_cases h1 : 1024 < L
  · have E := Lib.hid (show stpE M xs ts = 2 by rw [hst, if_pos (.inl h1)])
    clear hst
    go_enter Tryd.func63, Tryd.ntmps63
    go_wp2
    go_ret
    rw [E.out]
    exact ⟨rfl, Upd.refl _ _⟩
  by_cases h2 : 4096 < K
  · have E := Lib.hid (show stpE M xs ts = 2 by rw [hst, if_pos (.inr h2)])
    clear hst
    go_enter Tryd.func63, Tryd.ntmps63
    go_wp2
    go_ret
    rw [E.out]
    exact ⟨rfl, Upd.refl _ _⟩
  rw [if_neg (by omega)] at hst
  have HA := Lib.hid (rwithin_any M _ xs w hM hM2 HX.out)
  cases hall : allIn M xs with
  | false =>
    have E := Lib.hid (show stpE M xs ts = 6 by rw [hst, if_pos hall])
    rw [hall] at HA
    clear hst hall
    go_enter Tryd.func63, Tryd.ntmps63
    go_wp2_with fail
    (with_reducible refine HA.out.mono ?_)
    rintro e w' ⟨rfl, rfl⟩
    go_wp2
    go_ret
    rw [E.out]
    exact ⟨rfl, Upd.refl _ _⟩
  | true =>
    have E := Lib.hid (show stpE M xs ts = tnsE L ts by rw [hst, if_neg (by rw [hall]; decide)])
    rw [hall] at HA
    clear hst hall
    go_enter Tryd.func63, Tryd.ntmps63
    go_wp2_with fail
    (with_reducible refine HA.out.mono ?_)
    rintro e w' ⟨rfl, rfl⟩
    go_wp2_with fail
    go_loopw [23] (fun iv wr => ∃ k : Nat, iv = .int .i64 k ∧ k ≤ K ∧ Upd NoB w' wr ∧ (∀ (j : Nat) (t : Tn), j < k → ts[j]? = some t → tnE L t = 0)) (fun iv _ => K - (intOf iv).toNat)
    case atStart => exact ⟨0, rfl, Nat.zero_le _, Upd.refl _ _, fun j _ hj => by omega⟩
    case round =>
      obtain ⟨k, rfl, hk, hu, hz⟩ := hrel
      have Hu := Lib.hid hu; have Hz := Lib.hid hz
      clear hu hz
      by_cases hlt : k < K
      · obtain ⟨t, ht⟩ : ∃ t, ts[k]? = some t := ⟨_, List.getElem?_eq_getElem (by rw [HK.out]; exact hlt)⟩
        have HTk := HT.out.later Hu.out
        obtain ⟨_, a', cap', e', h3⟩ := HTk
        cases e'
        rcases h3 with h3 | ⟨b, off, rfl, h3⟩
        · rw [h3] at ht; simp at ht
        have tat := h3 k t ht
        obtain ⟨i, j, n, d⟩ := t
        obtain ⟨q0, q1, q2, q3⟩ := tat
        simp only at q0 q1 q2 q3
        have Ht := Lib.hid ht
        clear ht h3
        obtain ⟨W4, hW4⟩ : ∃ W4, W4 = wr.alloc (.cells #[.int .i64 i, .int .i64 j, .int .i64 n, .int .i64 d] 60) := ⟨_, rfl⟩
        have b4 : W4.heap[wr.heap.size]? = some (.cells #[.int .i64 i, .int .i64 j, .int .i64 n, .int .i64 d] 60 (0, 0)) := by rw [hW4]; exact heap_alloc_new wr _
        have u4 : Upd NoB wr W4 := by rw [hW4]; exact (Upd.refl _ _).alloc _
        have k0 : W4.cell? ⟨wr.heap.size, 0, none⟩ = some (.int .i64 i) := by rw [blk_cell b4]; rfl
        have k1 : W4.cell? ⟨wr.heap.size, 1, none⟩ = some (.int .i64 j) := by rw [blk_cell b4]; rfl
        have k2 : W4.cell? ⟨wr.heap.size, 2, none⟩ = some (.int .i64 n) := by rw [blk_cell b4]; rfl
        have k3 : W4.cell? ⟨wr.heap.size, 3, none⟩ = some (.int .i64 d) := by rw [blk_cell b4]; rfl
        rw [hW4] at k0 k1 k2 k3
        have U4 := Lib.hid (Hu.out.then u4)
        have HW4 := Lib.hid hW4
        clear hW4 b4 u4
        have hD : (plB L ⟨i, j, n, d⟩ = false → stpE M xs ts = 1) := fun h => by
          have e : tnE L ⟨i, j, n, d⟩ = 1 := by unfold tnE; rw [h]; rfl
          rw [E.out, tnsE_take Ht.out Hz.out (by rw [e]; decide), e]
        have pl : plB L ⟨i, j, n, d⟩ = (decide (0 ≤ i ∧ i < (L : Int)) && decide (0 ≤ j ∧ j < (L : Int)) && decide (i ≠ j)) := rfl
        have hD2 : (¬ (0 ≤ i ∧ i < (L : Int)) ∨ ¬ (0 ≤ j ∧ j < (L : Int)) ∨ i = j) → stpE M xs ts = 1 := fun h => hD (by
          rw [pl]
          rcases h with h | h | h
          · rw [decide_eq_false h]; rfl
          · rw [decide_eq_false h, Bool.and_false]; rfl
          · rw [show decide (i ≠ j) = false from decide_eq_false (fun g => g h), Bool.and_false])
        have HD := Lib.hid hD2
        clear hD hD2
        by_cases c1 : i < 0
        · have D := Lib.hid (HD.out (.inl (by omega)))
          have t1 : decide (i < 0) = true := decide_eq_true c1
          clear pl HD
          go_wp2
          go_ret
          rw [D.out]
          exact ⟨rfl, Hu.out.alloc _⟩
        have t1 : decide (i < 0) = false := decide_eq_false c1
        by_cases c2 : (L : Int) ≤ i
        · have D := Lib.hid (HD.out (.inl (by omega)))
          have t2 : decide ((L : Int) ≤ i) = true := decide_eq_true c2
          clear pl HD
          go_wp2
          go_ret
          rw [D.out]
          exact ⟨rfl, Hu.out.alloc _⟩
        have t2 : decide ((L : Int) ≤ i) = false := decide_eq_false c2
        by_cases c3 : j < 0
        · have D := Lib.hid (HD.out (.inr (.inl (by omega))))
          have t3 : decide (j < 0) = true := decide_eq_true c3
          clear pl HD
          go_wp2
          go_ret
          rw [D.out]
          exact ⟨rfl, Hu.out.alloc _⟩
        have t3 : decide (j < 0) = false := decide_eq_false c3
        by_cases c4 : (L : Int) ≤ j
        · have D := Lib.hid (HD.out (.inr (.inl (by omega))))
          have t4 : decide ((L : Int) ≤ j) = true := decide_eq_true c4
          clear pl HD
          go_wp2
          go_ret
          rw [D.out]
          exact ⟨rfl, Hu.out.alloc _⟩
        have t4 : decide ((L : Int) ≤ j) = false := decide_eq_false c4
        by_cases c5 : i = j
        · have D := Lib.hid (HD.out (.inr (.inr c5)))
          have t5 : (i == j) = true := beq_iff_eq.2 c5
          clear pl HD c5
          go_wp2
          go_ret
          rw [D.out]
          exact ⟨rfl, Hu.out.alloc _⟩
        have t5 : (i == j) = false := beq_eq_false_iff_ne.2 c5
        have P := Lib.hid (show plB L ⟨i, j, n, d⟩ = true by
          rw [pl, decide_eq_true (show 0 ≤ i ∧ i < (L : Int) by omega), decide_eq_true (show 0 ≤ j ∧ j < (L : Int) by omega), decide_eq_true c5]; rfl)
        clear pl HD
        have TE : tnE L ⟨i, j, n, d⟩ = turE n d := by unfold tnE; rw [P.out]; rfl
        have HPw := Lib.hid (fun w => rPower_any d w)
        have H1 := rwithin1 1099511627776 n W4 (by omega) (by omega)
        rcases turE_cases n d with ⟨g1, g2⟩ | ⟨g1, g2, g3⟩ | ⟨g1, g2, g3, g4⟩
        · have D := Lib.hid (show stpE M xs ts = 1 by rw [E.out, tnsE_take Ht.out Hz.out (by rw [TE, g2]; decide), TE, g2])
          rw [g1] at HPw
          clear TE H1 g1 g2
          go_wp2_with fail
          rw [← HW4.out]
          (with_reducible refine (HPw.out _).mono ?_)
          rintro e w5 ⟨rfl, rfl⟩
          go_wp2
          go_ret
          rw [D.out]
          exact ⟨rfl, U4.out⟩
        · have D := Lib.hid (show stpE M xs ts = 6 by rw [E.out, tnsE_take Ht.out Hz.out (by rw [TE, g3]; decide), TE, g3])
          rw [g1] at HPw
          rw [show inB 1099511627776 n = false from decide_eq_false (by omega)] at H1
          have HH1 := Lib.hid H1
          have m2 : W4.cell? ⟨wr.heap.size, 2, none⟩ = some (.int .i64 n) := by rw [HW4.out]; exact k2
          clear TE H1 g1 g2 g3
          go_wp2_with fail
          rw [← HW4.out]
          (with_reducible refine (HPw.out _).mono ?_)
          rintro e w5 ⟨rfl, rfl⟩
          go_wp2_with fail
          (with_reducible refine HH1.out.mono ?_)
          rintro e w6 ⟨rfl, rfl⟩
          go_wp2
          go_ret
          rw [D.out]
          exact ⟨rfl, U4.out.alloc _⟩
        · have Z := Lib.hid (show tnE L ⟨i, j, n, d⟩ = 0 by rw [TE, g4])
          rw [g1] at HPw
          rw [show inB 1099511627776 n = true from decide_eq_true (by omega)] at H1
          have HH1 := Lib.hid H1
          have m2 : W4.cell? ⟨wr.heap.size, 2, none⟩ = some (.int .i64 n) := by rw [HW4.out]; exact k2
          clear TE H1 g1 g2 g3 g4
          go_wp2_with fail
          rw [← HW4.out]
          (with_reducible refine (HPw.out _).mono ?_)
          rintro e w5 ⟨rfl, rfl⟩
          go_wp2_with fail
          (with_reducible refine HH1.out.mono ?_)
          rintro e w6 ⟨rfl, rfl⟩
          go_wp2_with fail
          refine ⟨⟨k + 1, by go_num, by omega, U4.out.alloc _, fun j' t hj ht => ?_⟩, by simp [intOf]; omega⟩
          rcases Nat.lt_or_ge j' k with h | h
          · exact Hz.out j' t h ht
          · obtain rfl : j' = k := by omega
            rw [Ht.out] at ht
            cases ht
            exact Z.out
      · obtain rfl : k = K := by omega
        have Z := Lib.hid (show stpE M xs ts = 0 by rw [E.out]; exact tnsE_all (fun k t hk => Hz.out k t (by rw [← HK.out]; exact (List.getElem?_eq_some_iff.1 hk).1) hk))
        go_wp2
        go_ret
        rw [Z.out]
        exact ⟨rfl, Hu.out⟩
end Go.Proofs.YtpmhioaoniijbaaDoor
