/- block: the law of the samples that are known -/
import Derived.Test.YtmkbpocibpjjaaaLO
namespace Go.Proofs.Ytmkbpocibpjjaaa
open Go.RowKit Go.Shelf

theorem exact_all {fs : List Bool} {f t i : Nat} : (fr1 fs i ≤ ((i / 128 : Nat) : Int) ∧ ((i / 128 : Nat) : Int) ≤ fr2 fs i) ∧
    (((f : Int) ≤ fr1 fs i ∧ fr2 fs i < (t : Int)) ↔ (ex1 fs f t ≤ (i : Int) ∧ (i : Int) < ex2 fs f t)) := by
  have hA : fr1 fs i ≤ ((i / 128 : Nat) : Int) := by unfold fr1; cases decide (i % 128 < lapN fs (i / 128) / 2) <;> simp <;> omega
  have hB : ((i / 128 : Nat) : Int) ≤ fr2 fs i := by unfold fr2; cases decide (128 - ((lapN fs (i / 128 + 1) / 2 : Nat) : Int) ≤ ((i % 128 : Nat) : Int)) <;> simp <;> omega
  have h1 : (f : Int) ≤ fr1 fs i ↔ exLo fs f ≤ (i : Int) := by
    by_cases h : f ≤ i / 128
    · exact frA h
    · have : 128 * (f : Int) ≤ exLo fs f := by unfold exLo; omega
      constructor <;> intro hh <;> omega
  have h2 : fr2 fs i < (t : Int) ↔ (i : Int) < exHi fs t := by
    by_cases h : i / 128 < t
    · exact frB h
    · have : exHi fs t ≤ 128 * (t : Int) := by unfold exHi; omega
      constructor <;> intro hh <;> omega
  refine ⟨⟨hA, hB⟩, ?_⟩
  rw [h1, h2]
  unfold ex1 ex2
  by_cases hc : exHi fs t ≤ exLo fs f
  · rw [decide_eq_true hc, cond_true, cond_true]; constructor <;> intro hh <;> omega
  · rw [decide_eq_false hc, cond_false, cond_false]
theorem exact_bd {fs : List Bool} {f t : Nat} (ht : f ≤ t) : 0 ≤ ex1 fs f t ∧ ex1 fs f t ≤ ex2 fs f t ∧ ex2 fs f t ≤ 128 * (t : Int) ∧ (ex1 fs f t < ex2 fs f t ∨ ex1 fs f t = 128 * (f : Int)) := by
  unfold ex1 ex2
  by_cases hc : exHi fs t ≤ exLo fs f
  · rw [decide_eq_true hc, cond_true, cond_true]; omega
  · rw [decide_eq_false hc, cond_false, cond_false]
    have : 0 ≤ exLo fs f := by unfold exLo; omega
    have : exHi fs t ≤ 128 * (t : Int) := by unfold exHi; omega
    omega
theorem frE_in {fs : List Bool} {i : Nat} (hl : fs.length ≤ 64) (hi : i < 128 * fs.length) : frE fs (i : Int) = 0 ∧ frF fs (i : Int) = fr1 fs i ∧ frT fs (i : Int) = fr2 fs i := by
  have h : frE fs (i : Int) = 0 := by unfold frE; rw [if_neg (by omega), if_neg (by omega)]
  refine ⟨h, ?_, ?_⟩
  · unfold frF; rw [if_pos h, Int.toNat_natCast]
  · unfold frT; rw [if_pos h, Int.toNat_natCast]
set_option maxRecDepth 100000 in
set_option maxHeartbeats 4000000 in
theorem exact_law (v : Value) (fs : List Bool) (x y : Int) (w : World) (h : Bls w v fs) (hx : 0 ≤ x ∧ x ≤ 255) (hy : 0 ≤ y ∧ y ≤ 255) :
    Calls Try.prog 10 #[v, .agg #[.int .u8 x, .int .u8 y]] w fun e w' => e = .returned (.bool true) ∧ Upd NoB w w' := by
  obtain ⟨a, cap, rfl⟩ := h.form
  have H := Lib.hid h
  obtain ⟨L, hL⟩ : ∃ L, fs.length = L := ⟨_, rfl⟩
  have HL := Lib.hid hL
  rw [hL] at H ⊢
  obtain ⟨W, hW⟩ : ∃ W, W = w.alloc (.cells #[.int .u8 x, .int .u8 y] 46) := ⟨_, rfl⟩
  have u0 : Upd NoB w W := by rw [hW]; exact (Upd.refl _ _).alloc _
  have bw : W.heap[w.heap.size]? = some (.cells #[.int .u8 x, .int .u8 y] 46 (0, 0)) := by rw [hW]; exact heap_alloc_new w _
  have HW := Lib.hid hW; have U0 := Lib.hid u0
  have HX := Lib.hid (H.out.later u0)
  clear h hL hW u0
  by_cases h1 : 64 < L
  · have t1 : decide ((64 : Int) < (L : Int)) = true := decide_eq_true (by omega)
    clear h1 bw
    go_enter Try.func10, Try.ntmps10
    go_wp2_with fail
    rw [← HW.out]
    refine (awake_any W).mono ?_
    rintro e w' ⟨rfl, u9⟩
    have U9 := Lib.hid (U0.out.then u9); clear u9
    go_wp2_with fail
    go_ret
    exact ⟨rfl, U9.out⟩
  have t1 : decide ((64 : Int) < (L : Int)) = false := decide_eq_false (by omega)
  have hl : L ≤ 64 := by omega
  clear h1
  have hF0 := Int.emod_nonneg x (show (L : Int) + 1 ≠ 0 by omega)
  have hF1 := Int.emod_lt_of_pos x (show (0 : Int) < (L : Int) + 1 by omega)
  obtain ⟨F, hF⟩ := Int.eq_ofNat_of_zero_le hF0
  rw [hF] at hF1
  have hG0 := Int.emod_nonneg y (show (L : Int) - (F : Int) + 1 ≠ 0 by omega)
  have hG1 := Int.emod_lt_of_pos y (show (0 : Int) < (L : Int) - (F : Int) + 1 by omega)
  obtain ⟨G, hG⟩ := Int.eq_ofNat_of_zero_le hG0
  rw [hG] at hG1
  have hFL : F ≤ L := by omega
  have hGL : F + G ≤ L := by omega
  have n1 : ¬ ((L : Int) - (F : Int) + 1 = 0) := by omega
  clear hF0 hG0 hF1 hG1
  have d0 : (w.alloc (.cells #[.int .u8 x, .int .u8 y] 46)).cell? ⟨w.heap.size, 0, none⟩ = some (.int .u8 x) := by rw [← HW.out]; exact blk_cell bw 0
  have d1 : (w.alloc (.cells #[.int .u8 x, .int .u8 y] 46)).cell? ⟨w.heap.size, 1, none⟩ = some (.int .u8 y) := by rw [← HW.out]; exact blk_cell bw 1
  clear bw
  have hE0 : exE fs (F : Int) ((F : Int) + (G : Int)) = 0 := by unfold exE; rw [if_neg (by rw [HL.out]; omega), if_neg (by rw [HL.out]; omega)]
  have e1 : exF fs (F : Int) ((F : Int) + (G : Int)) = ex1 fs F (F + G) := by unfold exF; rw [if_pos hE0, Int.toNat_natCast, show ((F : Int) + (G : Int)).toNat = F + G by omega]
  have e2 : exL fs (F : Int) ((F : Int) + (G : Int)) = ex2 fs F (F + G) := by unfold exL; rw [if_pos hE0, Int.toNat_natCast, show ((F : Int) + (G : Int)).toNat = F + G by omega]
  have HEx := Lib.hid (Exact_any (.slice a L cap) fs (F : Int) ((F : Int) + (G : Int)) W HX.out)
  rw [e1, e2, hE0] at HEx
  have HAll := Lib.hid (fun i => exact_all (fs := fs) (f := F) (t := F + G) (i := i))
  obtain ⟨b0, b1, b2, b3⟩ := exact_bd (fs := fs) (f := F) (t := F + G) (by omega)
  have HFr := Lib.hid (fun (i : Nat) (hi : i < 128 * L) (w' : World) (u : Upd NoB W w') => Frames_any (.slice a L cap) fs (i : Int) w' (HX.out.later u))
  have HIn := Lib.hid (fun (i : Nat) (hi : i < 128 * L) => frE_in (fs := fs) (i := i) (by rw [HL.out]; exact hl) (by rw [HL.out]; exact hi))
  generalize ex1 fs F (F + G) = p at *
  generalize ex2 fs F (F + G) = q at *
  have z1 : decide (q < p) = false := decide_eq_false (by omega)
  have z2 : decide (p < 0) = false := decide_eq_false (by omega)
  have z3 : decide (128 * (L : Int) < q) = false := decide_eq_false (by omega)
  have hpq : q ≤ 8192 := by omega
  have hp8 : p ≤ 8192 := by omega
  clear e1 e2 hE0
  go_enter Try.func10, Try.ntmps10
  go_wp2_with fail
  rw [← HW.out]
  (with_reducible refine HEx.out.mono ?_)
  rintro e w1 ⟨rfl, u1⟩
  have U1 := Lib.hid u1; clear u1 d0 d1
  go_wp2_with fail
  go_loopw [10] (fun i wr => ∃ k : Nat, k ≤ 8192 ∧ i = .int .i64 k ∧ Upd NoB W wr) (fun i _ => 8192 - (intOf i).toNat)
  case atStart => exact ⟨128 * (F - 1), by omega, by go_num, U1.out⟩
  case round =>
    obtain ⟨k, hk, rfl, hu⟩ := hrel
    have HU := Lib.hid hu; clear hu
    obtain ⟨M, hM⟩ : ∃ M : Nat, min (L : Int) ((F : Int) + (G : Int) + 1) = (M : Int) := ⟨min L (F + G + 1), by omega⟩
    have hML : M ≤ L := by omega
    by_cases hlt : k < 128 * M
    · have hk8 : k < 128 * L := by omega
      have HF := Lib.hid (HFr.out k hk8 wr HU.out)
      obtain ⟨i1, i2, i3⟩ := HIn.out k hk8
      rw [i1, i2, i3] at HF
      obtain ⟨⟨j1, j2⟩, j3⟩ := HAll.out k
      obtain ⟨D, hD⟩ : ∃ D, k / 128 = D := ⟨_, rfl⟩
      have hDi : (k : Int) / 128 = (D : Int) := by omega
      rw [hD] at j1 j2
      generalize fr1 fs k = f1 at *
      generalize fr2 fs k = f2 at *
      have y0 : decide ((k : Int) < 128 * (M : Int)) = true := decide_eq_true (by omega)
      have y1 : decide ((D : Int) < f1) = false := decide_eq_false (by omega)
      have y2 : decide (f2 < (D : Int)) = false := decide_eq_false (by omega)
      have y3 : (decide ((F : Int) ≤ f1) && decide (f2 < (F : Int) + (G : Int))) = (decide (p ≤ (k : Int)) && decide ((k : Int) < q)) := by
        rw [← Bool.decide_and, ← Bool.decide_and]
        exact decide_eq_decide.2 j3
      obtain ⟨A, B, C, E, zA, zB, zC, zE, hz⟩ : ∃ A B C E : Bool, decide ((F : Int) ≤ f1) = A ∧ decide (f2 < (F : Int) + (G : Int)) = B ∧ decide (p ≤ (k : Int)) = C ∧ decide ((k : Int) < q) = E ∧ (A && B) = (C && E) := ⟨_, _, _, _, rfl, rfl, rfl, rfl, y3⟩
      clear i1 i2 i3 j1 j2 j3 hD y3
      cases A <;> cases B <;> cases C <;> cases E <;> first
        | exact absurd hz (by decide)
        | (clear hz
           go_wp2_with fail
           (with_reducible refine HF.out.mono ?_)
           rintro e w2 ⟨rfl, u2⟩
           have U2 := Lib.hid (HU.out.then u2); clear u2
           go_wp2_with fail
           go_roundw
           case rel => exact ⟨k + 1, by omega, by go_num, U2.out⟩
           case measure => simp [intOf]; omega)
    · have y0 : decide ((k : Int) < 128 * (M : Int)) = false := decide_eq_false (by omega)
      clear hlt
      by_cases hpq2 : p < q
      · have z4 : decide (p < q) = true := decide_eq_true hpq2
        clear hpq2
        go_wp2_with (go_at_call 11; refine (awake_any _).mono ?_; rintro e w' ⟨rfl, u9⟩; have U9 := Lib.hid u9; clear u9)
        go_ret
        exact ⟨rfl, (U0.out.then HU.out).then U9.out⟩
      · have z4 : decide (p < q) = false := decide_eq_false hpq2
        obtain rfl : p = 128 * (F : Int) := by omega
        clear hpq2
        go_wp2_with (go_at_call 11; refine (awake_any _).mono ?_; rintro e w' ⟨rfl, u9⟩; have U9 := Lib.hid u9; clear u9)
        go_ret
        exact ⟨rfl, (U0.out.then HU.out).then U9.out⟩
end Go.Proofs.Ytmkbpocibpjjaaa
