/- block: the law of Groups -/
import Derived.Test.YtmkbpocibpjjaaaLO
namespace Go.Proofs.Ytmkbpocibpjjaaa
open Go.RowKit Go.Shelf

theorem gpT_in (es : List Int) : ∀ k : Nat, k ≤ 7 → ∀ x ∈ (gpT es k).1, 0 ≤ x ∧ x ≤ 8
  | 0, _ => by simp [gpT]
  | k + 1, hk => by
    have ih := gpT_in es k (by omega)
    have hb := gpT_bd es k
    intro x hx
    unfold gpT at hx
    split at hx
    · exact ih x hx
    · rcases List.mem_append.1 hx with h | h
      · exact ih x h
      · rw [List.mem_singleton] at h; subst h; omega
theorem gpS_in (es : List Int) : (gpS es).length ≤ 8 ∧ ∀ x ∈ gpS es, 0 ≤ x ∧ x ≤ 8 := by
  unfold gpS
  split
  · have h1 := gpT_len es 7
    have hb := gpT_bd es 7
    refine ⟨by unfold gpL; rw [List.length_append]; simp; omega, fun x hx => ?_⟩
    unfold gpL at hx
    rcases List.mem_append.1 hx with h | h
    · exact gpT_in es 7 (Nat.le_refl _) x h
    · rw [List.mem_singleton] at h; subst h; omega
  · exact ⟨by simp, by simp⟩
theorem take_sum_in {ys : List Int} (h : ∀ x ∈ ys, 0 ≤ x ∧ x ≤ 8) : ∀ k : Nat, 0 ≤ (ys.take k).sum ∧ (ys.take k).sum ≤ 8 * (k : Int)
  | 0 => by simp
  | k + 1 => by
    have ih := take_sum_in h k
    rw [List.take_add_one, List.sum_append]
    cases e : ys[k]? with
    | none => simp; omega
    | some x =>
      have := h x (List.mem_of_getElem? e)
      simp; omega
theorem take_sum_succ {ys : List Int} {k : Nat} {x : Int} (h : ys[k]? = some x) : (ys.take (k + 1)).sum = (ys.take k).sum + x := by
  rw [List.take_add_one, List.sum_append, h]; simp
theorem same8 {v : Int} (h0 : 0 ≤ v) (h1 : v ≤ 1125899906842624) : gE (List.replicate 8 v) = 0 ∧ gpS (List.replicate 8 v) = [8] := by
  have hE : gE (List.replicate 8 v) = 0 := by
    unfold gE
    rw [if_neg (by simp), if_pos (allIn_of fun k x hx => by
      have := List.mem_of_getElem? hx
      rw [List.mem_replicate] at this
      obtain ⟨_, rfl⟩ := this
      exact ⟨h0, h1⟩)]
  refine ⟨hE, ?_⟩
  unfold gpS
  rw [if_pos hE]
  unfold gpL
  rw [gpL_same v h0 (List.replicate 8 v) (fun k hk => by rw [List.getD_eq_getElem?_getD, List.getElem?_replicate, if_pos (by omega)]; rfl) 7 (Nat.le_refl _)]
  rfl
set_option maxRecDepth 100000 in
set_option maxHeartbeats 4000000 in
theorem groups_law (ev : Value) (es : List Int) (v : Int) (w : World) (h : Ints w ev es) :
    Calls Try.prog 7 #[ev, .int .i64 v] w fun e w' => e = .returned (.bool true) ∧ Upd NoB w w' := by
  obtain ⟨a, cap, rfl⟩ := h.form
  have H := Lib.hid h
  obtain ⟨L, hL⟩ : ∃ L, es.length = L := ⟨_, rfl⟩
  rw [hL] at H ⊢
  clear h hL
  by_cases h1 : 20 < L
  · have t1 : decide ((20 : Int) < (L : Int)) = true := decide_eq_true (by omega)
    clear h1
    go_enter Try.func7, Try.ntmps7
    go_wp2_with (go_at_call 11; refine (awake_any _).mono ?_; rintro e w' ⟨rfl, u9⟩; have U9 := Lib.hid u9; clear u9)
    go_ret
    exact ⟨rfl, U9.out⟩
  have t1 : decide ((20 : Int) < (L : Int)) = false := decide_eq_false (by omega)
  have HG1 := Lib.hid (Groups_any (.slice a L cap) es w H.out)
  have HG2 := Lib.hid (fun w' (u : Upd NoB w w') => rGroups_any (.slice a L cap) es w' (H.out.later u))
  have HIn := Lib.hid (gpS_in es)
  have HSum : Hid ((gE es = 0 ∧ (gpS es).sum = 8) ∨ gE es = 1) := Lib.hid (by
    by_cases h0 : gE es = 0
    · refine .inl ⟨h0, ?_⟩
      unfold gpS
      rw [if_pos h0, gpL_sum]; rfl
    · refine .inr ?_
      unfold gE at h0 ⊢
      split
      · rfl
      · rename_i hh
        rw [if_neg hh] at h0
        split
        · rename_i hh2; rw [if_pos hh2] at h0; exact absurd rfl h0
        · rfl)
  generalize gpS es = ys at *
  generalize gE es = E at *
  clear h1
  go_enter Try.func7, Try.ntmps7
  go_wp2_with fail
  (with_reducible refine HG1.out.mono ?_)
  rintro e w1 ⟨a1, n1, k1, rfl, r1, u1⟩
  obtain rfl := row_len r1
  have I1 := Lib.hid (Ints.ofRow r1 (by have := HIn.out.1; omega)); have U1 := Lib.hid u1
  clear r1 u1
  go_wp2_with fail
  (with_reducible refine (HG2.out w1 U1.out).mono ?_)
  rintro e w2 ⟨a2, n2, k2, rfl, r2, u2⟩
  obtain rfl := row_len r2
  have I2 := Lib.hid (Ints.ofRow r2 (by have := HIn.out.1; omega)); have I12 := Lib.hid (I1.out.later u2); have U2 := Lib.hid (U1.out.then u2)
  clear r2 u2
  go_wp2_with fail
  refine (qints_any _ _ ys ys w2 I12.out I2.out).mono ?_
  rw [intsB_self]
  rintro e w3 ⟨rfl, n3, rfl⟩
  have I3 := Lib.hid (I12.out.later (upd_drewN (Upd.refl NoB w2) n3)); have U3 := Lib.hid (upd_drewN U2.out n3)
  clear I1 I2 I12 U1 U2 HG1 HG2
  generalize w2.drewN n3 = w3 at *
  obtain ⟨N, hN⟩ : ∃ N, ys.length = N := ⟨_, rfl⟩
  have HN := Lib.hid hN
  rw [hN] at I3 ⊢
  clear hN
  go_wp2_with fail
  go_loop [9, 39] (fun s i => ∃ k : Nat, k ≤ N ∧ i = .int .i64 k ∧ s = .int .i64 (ys.take k).sum) (fun _ i => N - (intOf i).toNat)
  case atStart => exact ⟨0, Nat.zero_le _, rfl, rfl⟩
  case round =>
    obtain ⟨k, hk, rfl, rfl⟩ := hrel
    have hN8 : N ≤ 8 := by have := HIn.out.1; rw [HN.out] at this; exact this
    by_cases hlt : k < N
    · obtain ⟨x, hx⟩ : ∃ x, ys[k]? = some x := ⟨_, List.getElem?_eq_getElem (by rw [HN.out]; exact hlt)⟩
      obtain ⟨b, off, rfl, c0⟩ := I3.out.cellAt hx
      have hxb := HIn.out.2 x (List.mem_of_getElem? hx)
      have hsb := take_sum_in HIn.out.2 k
      have HS := Lib.hid (take_sum_succ hx)
      generalize (ys.take k).sum = s at *
      clear hx
      go_wp2
      go_round
      case rel => exact ⟨k + 1, by omega, by go_num, by rw [HS.out]⟩
      case measure => simp [intOf]; omega
    · obtain rfl : k = N := by omega
      have hfin : ys.take k = ys := List.take_of_length_le (by rw [HN.out]; exact Nat.le_refl _)
      rw [hfin]
      have hsb := take_sum_in HIn.out.2 k
      rw [hfin] at hsb
      obtain ⟨s, hs⟩ : ∃ s, ys.sum = s := ⟨_, rfl⟩
      have t2 : (E = 0 ∧ s = 8) ∨ E = 1 := by
        rcases HSum.out with ⟨h1, h2⟩ | h1
        · exact .inl ⟨h1, by rw [← hs, h2]⟩
        · exact .inr h1
      clear hfin
      have HV0 := Lib.hid hs
      rw [hs] at hsb ⊢
      clear hs
      by_cases hv0 : v < 0
      · have t3 : decide (v < 0) = true := decide_eq_true hv0
        clear hv0
        rcases t2 with ⟨rfl, rfl⟩ | rfl
        · go_wp2_with (go_at_call 11; refine (awake_any _).mono ?_; rintro e w' ⟨rfl, u9⟩; have U9 := Lib.hid u9; clear u9)
          go_ret
          exact ⟨rfl, U3.out.then U9.out⟩
        · go_wp2_with (go_at_call 11; refine (awake_any _).mono ?_; rintro e w' ⟨rfl, u9⟩; have U9 := Lib.hid u9; clear u9)
          go_ret
          exact ⟨rfl, U3.out.then U9.out⟩
      by_cases hv1 : 1125899906842624 < v
      · have t3 : decide (v < 0) = false := decide_eq_false hv0
        have t4 : decide ((1125899906842624 : Int) < v) = true := decide_eq_true hv1
        clear hv0 hv1
        rcases t2 with ⟨rfl, rfl⟩ | rfl
        · go_wp2_with (go_at_call 11; refine (awake_any _).mono ?_; rintro e w' ⟨rfl, u9⟩; have U9 := Lib.hid u9; clear u9)
          go_ret
          exact ⟨rfl, U3.out.then U9.out⟩
        · go_wp2_with (go_at_call 11; refine (awake_any _).mono ?_; rintro e w' ⟨rfl, u9⟩; have U9 := Lib.hid u9; clear u9)
          go_ret
          exact ⟨rfl, U3.out.then U9.out⟩
      · have v0 : 0 ≤ v := by omega
        have v1 : v ≤ 1125899906842624 := by omega
        have t3 : decide (v < 0) = false := decide_eq_false hv0
        have t4 : decide ((1125899906842624 : Int) < v) = false := decide_eq_false hv1
        have HS8 := Lib.hid (same8 v0 v1)
        clear hv0 hv1 v0 v1
        rcases t2 with ⟨rfl, rfl⟩ | rfl
        · go_wp2_with fail
          have bl : Ints (w3.alloc (.cells #[.int .i64 v, .int .i64 v, .int .i64 v, .int .i64 v, .int .i64 v, .int .i64 v, .int .i64 v, .int .i64 v] 3)) (.slice (some ⟨w3.heap.size, 0, none⟩) 8 8) (List.replicate 8 v) := full_ints (xs := List.replicate 8 v) (by simp) (heap_alloc_new w3 _)
          have ul := U3.out.then ((Upd.refl NoB w3).alloc (.cells #[.int .i64 v, .int .i64 v, .int .i64 v, .int .i64 v, .int .i64 v, .int .i64 v, .int .i64 v, .int .i64 v] 3))
          generalize w3.alloc (.cells #[.int .i64 v, .int .i64 v, .int .i64 v, .int .i64 v, .int .i64 v, .int .i64 v, .int .i64 v, .int .i64 v] 3) = w4 at *
          have U4 := Lib.hid ul; clear ul
          refine (Groups_any _ (List.replicate 8 v) w4 bl).mono ?_
          rw [HS8.out.1, HS8.out.2]
          rintro e w5 ⟨a5, n5, k5, rfl, r5, u5⟩
          obtain rfl : n5 = 1 := row_len r5
          have J5 := Lib.hid (show Ints w5 (.slice a5 1 k5) [8] from Ints.ofRow r5 (by decide)); have U5 := Lib.hid (U4.out.then u5)
          clear r5 u5 bl
          go_wp2_with fail
          have bl : Ints (w5.alloc (.cells #[.int .i64 8] 3)) (.slice (some ⟨w5.heap.size, 0, none⟩) 1 1) [8] := full_ints (xs := [8]) (by decide) (heap_alloc_new w5 _)
          have ul : Upd NoB w5 (w5.alloc (.cells #[.int .i64 8] 3)) := (Upd.refl _ _).alloc _
          generalize w5.alloc (.cells #[.int .i64 8] 3) = w6 at *
          refine (qints_any _ _ [8] [8] w6 (J5.out.later ul) bl).mono ?_
          rw [intsB_self]
          rintro e w7 ⟨rfl, n7, rfl⟩
          have U7 := Lib.hid (U5.out.then (upd_drewN ul n7))
          clear bl ul
          go_wp2_with (go_at_call 11; refine (awake_any _).mono ?_; rintro e w' ⟨rfl, u9⟩; have U9 := Lib.hid u9; clear u9)
          go_ret
          exact ⟨rfl, U7.out.then U9.out⟩
        · go_wp2_with fail
          have bl : Ints (w3.alloc (.cells #[.int .i64 v, .int .i64 v, .int .i64 v, .int .i64 v, .int .i64 v, .int .i64 v, .int .i64 v, .int .i64 v] 3)) (.slice (some ⟨w3.heap.size, 0, none⟩) 8 8) (List.replicate 8 v) := full_ints (xs := List.replicate 8 v) (by simp) (heap_alloc_new w3 _)
          have ul := U3.out.then ((Upd.refl NoB w3).alloc (.cells #[.int .i64 v, .int .i64 v, .int .i64 v, .int .i64 v, .int .i64 v, .int .i64 v, .int .i64 v, .int .i64 v] 3))
          generalize w3.alloc (.cells #[.int .i64 v, .int .i64 v, .int .i64 v, .int .i64 v, .int .i64 v, .int .i64 v, .int .i64 v, .int .i64 v] 3) = w4 at *
          have U4 := Lib.hid ul; clear ul
          refine (Groups_any _ (List.replicate 8 v) w4 bl).mono ?_
          rw [HS8.out.1, HS8.out.2]
          rintro e w5 ⟨a5, n5, k5, rfl, r5, u5⟩
          obtain rfl : n5 = 1 := row_len r5
          have J5 := Lib.hid (show Ints w5 (.slice a5 1 k5) [8] from Ints.ofRow r5 (by decide)); have U5 := Lib.hid (U4.out.then u5)
          clear r5 u5 bl
          go_wp2_with fail
          have bl : Ints (w5.alloc (.cells #[.int .i64 8] 3)) (.slice (some ⟨w5.heap.size, 0, none⟩) 1 1) [8] := full_ints (xs := [8]) (by decide) (heap_alloc_new w5 _)
          have ul : Upd NoB w5 (w5.alloc (.cells #[.int .i64 8] 3)) := (Upd.refl _ _).alloc _
          generalize w5.alloc (.cells #[.int .i64 8] 3) = w6 at *
          refine (qints_any _ _ [8] [8] w6 (J5.out.later ul) bl).mono ?_
          rw [intsB_self]
          rintro e w7 ⟨rfl, n7, rfl⟩
          have U7 := Lib.hid (U5.out.then (upd_drewN ul n7))
          clear bl ul
          go_wp2_with (go_at_call 11; refine (awake_any _).mono ?_; rintro e w' ⟨rfl, u9⟩; have U9 := Lib.hid u9; clear u9)
          go_ret
          exact ⟨rfl, U7.out.then U9.out⟩
end Go.Proofs.Ytmkbpocibpjjaaa
