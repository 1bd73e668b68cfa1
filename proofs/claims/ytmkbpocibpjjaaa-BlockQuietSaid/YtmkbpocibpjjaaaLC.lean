/- block: the samples that are known, in the program and in the reference; lists of flags that are the same -/
import Derived.Test.YtmkbpocibpjjaaaLB
namespace Go.Proofs.Ytmkbpocibpjjaaa
open Go.RowKit Go.Shelf

def exLo (fs : List Bool) (f : Nat) : Int := 128 * (f : Int) + ((lapN fs f / 2 : Nat) : Int)
def exHi (fs : List Bool) (t : Nat) : Int := 128 * (t : Int) - ((lapN fs t / 2 : Nat) : Int)
def ex1 (fs : List Bool) (f t : Nat) : Int := bif decide (exHi fs t ≤ exLo fs f) then 128 * (f : Int) else exLo fs f
def ex2 (fs : List Bool) (f t : Nat) : Int := bif decide (exHi fs t ≤ exLo fs f) then 128 * (f : Int) else exHi fs t
def exE (fs : List Bool) (f t : Int) : Int := if 64 < fs.length then 2 else if f < 0 ∨ t < f ∨ (fs.length : Int) < t then 6 else 0
def exF (fs : List Bool) (f t : Int) : Int := if exE fs f t = 0 then ex1 fs f.toNat t.toNat else 0
def exL (fs : List Bool) (f t : Int) : Int := if exE fs f t = 0 then ex2 fs f.toNat t.toNat else 0
theorem ex_bad {fs : List Bool} {f t E : Int} (h : exE fs f t = E) (hE : E ≠ 0) : exF fs f t = 0 ∧ exL fs f t = 0 := by
  unfold exF exL
  rw [h, if_neg hE, if_neg hE]
  exact ⟨rfl, rfl⟩
theorem exE_ok {fs : List Bool} {f t : Int} (h : exE fs f t = 0) : fs.length ≤ 64 ∧ 0 ≤ f ∧ f ≤ t ∧ t ≤ (fs.length : Int) := by
  unfold exE at h
  split at h
  · omega
  · split at h <;> omega
theorem frA {fs : List Bool} {f i : Nat} (h : f ≤ i / 128) : (f : Int) ≤ fr1 fs i ↔ exLo fs f ≤ (i : Int) := by
  have hb := lapN_le fs f
  unfold fr1 exLo
  by_cases hq : i / 128 = f
  · rw [hq]
    generalize lapN fs f = l at *
    by_cases hc : i % 128 < l / 2
    · rw [show decide (i % 128 < l / 2) = true from decide_eq_true hc, cond_true]; omega
    · rw [show decide (i % 128 < l / 2) = false from decide_eq_false hc, cond_false]; omega
  · generalize lapN fs f = l at *
    generalize decide (i % 128 < lapN fs (i / 128) / 2) = z
    cases z
    · rw [cond_false]; omega
    · rw [cond_true]; omega
theorem frB {fs : List Bool} {t i : Nat} (h : i / 128 < t) : fr2 fs i < (t : Int) ↔ (i : Int) < exHi fs t := by
  have hb := lapN_le fs t
  unfold fr2 exHi
  by_cases hq : i / 128 + 1 = t
  · rw [hq]
    generalize lapN fs t = l at *
    by_cases hc : 128 - ((l / 2 : Nat) : Int) ≤ ((i % 128 : Nat) : Int)
    · rw [show decide (128 - ((l / 2 : Nat) : Int) ≤ ((i % 128 : Nat) : Int)) = true from decide_eq_true hc, cond_true]; omega
    · rw [show decide (128 - ((l / 2 : Nat) : Int) ≤ ((i % 128 : Nat) : Int)) = false from decide_eq_false hc, cond_false]; omega
  · generalize lapN fs t = l at *
    generalize decide (128 - ((lapN fs (i / 128 + 1) / 2 : Nat) : Int) ≤ ((i % 128 : Nat) : Int)) = z
    cases z
    · rw [cond_false]; omega
    · rw [cond_true]; omega
set_option maxRecDepth 100000 in
set_option maxHeartbeats 4000000 in
theorem Exact_any (v : Value) (fs : List Bool) (f t : Int) (w : World) (h : Bls w v fs) :
    Calls Try.prog 32 #[v, .int .i64 f, .int .i64 t] w fun e w' => e = .returned (.tuple #[.int .i64 (exF fs f t), .int .i64 (exL fs f t), .int .i64 (exE fs f t)]) ∧ Upd NoB w w' := by
  obtain ⟨a, cap, rfl⟩ := h.form
  have H := Lib.hid h
  have hlb := h.1
  obtain ⟨L, hL⟩ : ∃ L, fs.length = L := ⟨_, rfl⟩
  have HL := Lib.hid hL
  rw [hL] at H hlb ⊢
  clear h hL
  by_cases h1 : 64 < L
  · have hE : exE fs f t = 2 := if_pos (by rw [HL.out]; exact h1)
    obtain ⟨e1, e2⟩ := ex_bad hE (by decide)
    rw [e1, e2, hE]
    have T1 := Lib.hid (show decide ((64 : Int) < (L : Int)) = true from decide_eq_true (by omega))
    clear h1 hE e1 e2 hlb
    go_enter Try.func32, Try.ntmps32
    go_wp2_with (go_at_call 44; refine (fullb_any (.int .i64 0) _ _ _ _).mono ?_; rw [T1.out]; rintro e w' ⟨rfl, rfl⟩)
    go_ret3
    exact ⟨rfl, Upd.refl _ _⟩
  have hl : L ≤ 64 := by omega
  by_cases h2 : f < 0
  · have hE : exE fs f t = 6 := by unfold exE; rw [if_neg (by rw [HL.out]; exact h1), if_pos (.inl h2)]
    obtain ⟨e1, e2⟩ := ex_bad hE (by decide)
    rw [e1, e2, hE]
    have T1 := Lib.hid (show decide ((64 : Int) < (L : Int)) = false from decide_eq_false (by omega))
    have t2 : decide (f < 0) = true := decide_eq_true h2
    clear h1 h2 hE e1 e2 hlb
    go_enter Try.func32, Try.ntmps32
    go_wp2_with (go_at_call 44; refine (fullb_any (.int .i64 0) _ _ _ _).mono ?_; rw [T1.out]; rintro e w' ⟨rfl, rfl⟩)
    go_ret3
    exact ⟨rfl, Upd.refl _ _⟩
  have t2 : decide (f < 0) = false := decide_eq_false h2
  by_cases h3 : t < f
  · have hE : exE fs f t = 6 := by unfold exE; rw [if_neg (by rw [HL.out]; exact h1), if_pos (.inr (.inl h3))]
    obtain ⟨e1, e2⟩ := ex_bad hE (by decide)
    rw [e1, e2, hE]
    have T1 := Lib.hid (show decide ((64 : Int) < (L : Int)) = false from decide_eq_false (by omega))
    have t3 : decide (t < f) = true := decide_eq_true h3
    clear h1 h2 h3 hE e1 e2 hlb
    go_enter Try.func32, Try.ntmps32
    go_wp2_with (go_at_call 44; refine (fullb_any (.int .i64 0) _ _ _ _).mono ?_; rw [T1.out]; rintro e w' ⟨rfl, rfl⟩)
    go_ret3
    exact ⟨rfl, Upd.refl _ _⟩
  have t3 : decide (t < f) = false := decide_eq_false h3
  by_cases h4 : (L : Int) < t
  · have hE : exE fs f t = 6 := by unfold exE; rw [if_neg (by rw [HL.out]; exact h1), if_pos (.inr (.inr (by rw [HL.out]; exact h4)))]
    obtain ⟨e1, e2⟩ := ex_bad hE (by decide)
    rw [e1, e2, hE]
    have T1 := Lib.hid (show decide ((64 : Int) < (L : Int)) = false from decide_eq_false (by omega))
    have t4 : decide ((L : Int) < t) = true := decide_eq_true h4
    clear h1 h2 h3 h4 hE e1 e2 hlb
    go_enter Try.func32, Try.ntmps32
    go_wp2_with (go_at_call 44; refine (fullb_any (.int .i64 0) _ _ _ _).mono ?_; rw [T1.out]; rintro e w' ⟨rfl, rfl⟩)
    go_ret3
    exact ⟨rfl, Upd.refl _ _⟩
  have t4 : decide ((L : Int) < t) = false := decide_eq_false h4
  have hE : exE fs f t = 0 := by unfold exE; rw [if_neg (by rw [HL.out]; exact h1), if_neg (by rw [HL.out]; omega)]
  obtain ⟨f, rfl⟩ := Int.eq_ofNat_of_zero_le (show 0 ≤ f by omega)
  obtain ⟨t, rfl⟩ := Int.eq_ofNat_of_zero_le (show 0 ≤ t by omega)
  have e1 : exF fs (f : Int) (t : Int) = ex1 fs f t := by unfold exF; rw [if_pos hE, Int.toNat_natCast, Int.toNat_natCast]
  have e2 : exL fs (f : Int) (t : Int) = ex2 fs f t := by unfold exL; rw [if_pos hE, Int.toNat_natCast, Int.toNat_natCast]
  rw [e1, e2, hE]
  have hft : f ≤ t := by omega
  have htL : t ≤ L := by omega
  have t3n : decide (t < f) = false := decide_eq_false (by omega)
  have t4n : decide (L < t) = false := decide_eq_false (by omega)
  have T1 := Lib.hid (show decide ((64 : Int) < (L : Int)) = false from decide_eq_false (by omega))
  unfold ex1 ex2 exLo exHi
  have b1 := lapN_le fs f
  have b2 := lapN_le fs t
  obtain ⟨W, hW⟩ : ∃ W, W = w.alloc (.cells #[.slice a L cap] 27) := ⟨_, rfl⟩
  have u0 : Upd NoB w W := by rw [hW]; exact (Upd.refl _ _).alloc _
  have bw : W.heap[w.heap.size]? = some (.cells #[.slice a L cap] 27 (0, 0)) := by rw [hW]; exact heap_alloc_new w _
  have HC1 := Lib.hid (laps1_any w.heap.size (.slice a L cap) fs f W (blk_cell bw 0) (H.out.later u0) (by omega) (by rw [HL.out]; exact hl))
  have HC2 := Lib.hid (laps1_any w.heap.size (.slice a L cap) fs t W (blk_cell bw 0) (H.out.later u0) (by omega) (by rw [HL.out]; exact hl))
  have HW := Lib.hid hW; have U0 := Lib.hid u0
  clear hW u0 bw
  generalize lapN fs f = l1 at *
  generalize lapN fs t = l2 at *
  obtain ⟨h1', hh1⟩ : ∃ x, l1 / 2 = x := ⟨_, rfl⟩
  obtain ⟨h2', hh2⟩ : ∃ x, l2 / 2 = x := ⟨_, rfl⟩
  have d3 : (l1 : Int) / 2 = (h1' : Int) := by omega
  have d4 : (l2 : Int) / 2 = (h2' : Int) := by omega
  have b3 : h1' ≤ 64 := by omega
  have b4 : h2' ≤ 64 := by omega
  rw [hh1, hh2]
  have hf64 : f ≤ 64 := by omega
  have ht64 : t ≤ 64 := by omega
  clear hh1 hh2 e1 e2 hE h1 h2 h3 h4 hlb
  cases z1 : decide (128 * (t : Int) - (h2' : Int) ≤ 128 * (f : Int) + (h1' : Int)) <;>
    (go_enter Try.func32, Try.ntmps32
     go_wp2_with (first | (go_at_call 44; refine (fullb_any (.int .i64 0) _ _ _ _).mono ?_; rw [T1.out]; rintro e w' ⟨rfl, rfl⟩) | (go_at_call 48; refine (lapsOf_any _ _ ⟨_, _, _, rfl⟩).mono ?_; rintro e w' ⟨rfl, rfl⟩; rw [← HW.out]))
     (with_reducible refine HC1.out.mono ?_)
     rintro e w' ⟨rfl, rfl⟩
     go_wp2_with fail
     (with_reducible refine HC2.out.mono ?_)
     rintro e w' ⟨rfl, rfl⟩
     go_wp2_with fail
     go_ret3
     exact ⟨rfl, U0.out⟩)
/-- what the reference has found up to the sample i -/
def exR (lo hi f : Int) (i : Int) (F La : Int) (sm : Bool) : Prop := sm = decide (lo < i ∧ lo < hi) ∧ F = (if sm then lo else 128 * f) ∧ La = (if sm then min i hi else 128 * f)
theorem exR_start {lo hi f : Int} (h : 128 * f ≤ lo) : exR lo hi f (128 * f) (128 * f) (128 * f) false := by
  unfold exR
  refine ⟨(decide_eq_false (by omega)).symm, rfl, rfl⟩
theorem exR_good {lo hi f i F La : Int} {sm : Bool} (h : exR lo hi f i F La sm) (h1 : lo ≤ i) (h2 : i < hi) : exR lo hi f (i + 1) (bif sm then F else i) (i + 1) true := by
  obtain ⟨e1, e2, e3⟩ := h
  refine ⟨(decide_eq_true (by omega)).symm, ?_, ?_⟩
  · rw [if_pos rfl]
    cases sm with
    | true => rw [cond_true, e2, if_pos rfl]
    | false =>
      have := of_decide_eq_false e1.symm
      rw [cond_false]
      omega
  · rw [if_pos rfl]; omega
theorem exR_bad {lo hi f i F La : Int} {sm : Bool} (h : exR lo hi f i F La sm) (h1 : ¬ (lo ≤ i ∧ i < hi)) : exR lo hi f (i + 1) F La sm := by
  obtain ⟨e1, e2, e3⟩ := h
  cases sm with
  | true =>
    have := of_decide_eq_true e1.symm
    refine ⟨(decide_eq_true (by omega)).symm, e2, ?_⟩
    rw [e3, if_pos rfl, if_pos rfl]
    omega
  | false =>
    have := of_decide_eq_false e1.symm
    exact ⟨(decide_eq_false (by omega)).symm, e2, e3⟩
theorem exR_end {fs : List Bool} {f t : Nat} {F La : Int} {sm : Bool} (h : exR (exLo fs f) (exHi fs t) f (128 * (t : Int)) F La sm) : F = ex1 fs f t ∧ La = ex2 fs f t := by
  obtain ⟨e1, e2, e3⟩ := h
  have hh : exHi fs t ≤ 128 * (t : Int) := by unfold exHi; omega
  unfold ex1 ex2
  generalize exLo fs f = lo at *
  generalize exHi fs t = hi at *
  cases sm with
  | true =>
    have := of_decide_eq_true e1.symm
    rw [show decide (hi ≤ lo) = false from decide_eq_false (by omega), cond_false, cond_false, e2, e3, if_pos rfl, if_pos rfl]
    exact ⟨rfl, by omega⟩
  | false =>
    have := of_decide_eq_false e1.symm
    rw [show decide (hi ≤ lo) = true from decide_eq_true (by omega), cond_true, cond_true]
    exact ⟨e2, e3⟩
set_option maxRecDepth 100000 in
set_option maxHeartbeats 4000000 in
theorem rExact_any (v : Value) (fs : List Bool) (f t : Int) (w : World) (h : Bls w v fs) :
    Calls Try.prog 33 #[v, .int .i64 f, .int .i64 t] w fun e w' => e = .returned (.tuple #[.int .i64 (exF fs f t), .int .i64 (exL fs f t), .int .i64 (exE fs f t)]) ∧ Upd NoB w w' := by
  obtain ⟨a, cap, rfl⟩ := h.form
  have H := Lib.hid h
  have hlb := h.1
  obtain ⟨L, hL⟩ : ∃ L, fs.length = L := ⟨_, rfl⟩
  have HL := Lib.hid hL
  rw [hL] at H hlb ⊢
  clear h hL
  by_cases h1 : 64 < L
  · have hE : exE fs f t = 2 := if_pos (by rw [HL.out]; exact h1)
    obtain ⟨e1, e2⟩ := ex_bad hE (by decide)
    rw [e1, e2, hE]
    have T1 := Lib.hid (show decide ((64 : Int) < (L : Int)) = true from decide_eq_true (by omega))
    have t1 : decide ((64 : Int) < (L : Int)) = true := T1.out
    clear h1 hE e1 e2 hlb
    go_enter Try.func33, Try.ntmps33
    go_wp2_with fail
    go_ret3
    exact ⟨rfl, Upd.refl _ _⟩
  have hl : L ≤ 64 := by omega
  by_cases h2 : f < 0
  · have hE : exE fs f t = 6 := by unfold exE; rw [if_neg (by rw [HL.out]; exact h1), if_pos (.inl h2)]
    obtain ⟨e1, e2⟩ := ex_bad hE (by decide)
    rw [e1, e2, hE]
    have T1 := Lib.hid (show decide ((64 : Int) < (L : Int)) = false from decide_eq_false (by omega))
    have t1 : decide ((64 : Int) < (L : Int)) = false := T1.out
    have t2 : decide (f < 0) = true := decide_eq_true h2
    clear h1 h2 hE e1 e2 hlb
    go_enter Try.func33, Try.ntmps33
    go_wp2_with fail
    go_ret3
    exact ⟨rfl, Upd.refl _ _⟩
  have t2 : decide (f < 0) = false := decide_eq_false h2
  by_cases h3 : t < f
  · have hE : exE fs f t = 6 := by unfold exE; rw [if_neg (by rw [HL.out]; exact h1), if_pos (.inr (.inl h3))]
    obtain ⟨e1, e2⟩ := ex_bad hE (by decide)
    rw [e1, e2, hE]
    have T1 := Lib.hid (show decide ((64 : Int) < (L : Int)) = false from decide_eq_false (by omega))
    have t1 : decide ((64 : Int) < (L : Int)) = false := T1.out
    have t3 : decide (t < f) = true := decide_eq_true h3
    clear h1 h2 h3 hE e1 e2 hlb
    go_enter Try.func33, Try.ntmps33
    go_wp2_with fail
    go_ret3
    exact ⟨rfl, Upd.refl _ _⟩
  have t3 : decide (t < f) = false := decide_eq_false h3
  by_cases h4 : (L : Int) < t
  · have hE : exE fs f t = 6 := by unfold exE; rw [if_neg (by rw [HL.out]; exact h1), if_pos (.inr (.inr (by rw [HL.out]; exact h4)))]
    obtain ⟨e1, e2⟩ := ex_bad hE (by decide)
    rw [e1, e2, hE]
    have T1 := Lib.hid (show decide ((64 : Int) < (L : Int)) = false from decide_eq_false (by omega))
    have t1 : decide ((64 : Int) < (L : Int)) = false := T1.out
    have t4 : decide ((L : Int) < t) = true := decide_eq_true h4
    clear h1 h2 h3 h4 hE e1 e2 hlb
    go_enter Try.func33, Try.ntmps33
    go_wp2_with fail
    go_ret3
    exact ⟨rfl, Upd.refl _ _⟩
  have t4 : decide ((L : Int) < t) = false := decide_eq_false h4
  have hE : exE fs f t = 0 := by unfold exE; rw [if_neg (by rw [HL.out]; exact h1), if_neg (by rw [HL.out]; omega)]
  obtain ⟨f, rfl⟩ := Int.eq_ofNat_of_zero_le (show 0 ≤ f by omega)
  obtain ⟨t, rfl⟩ := Int.eq_ofNat_of_zero_le (show 0 ≤ t by omega)
  have e1 : exF fs (f : Int) (t : Int) = ex1 fs f t := by unfold exF; rw [if_pos hE, Int.toNat_natCast, Int.toNat_natCast]
  have e2 : exL fs (f : Int) (t : Int) = ex2 fs f t := by unfold exL; rw [if_pos hE, Int.toNat_natCast, Int.toNat_natCast]
  rw [e1, e2, hE]
  have hft : f ≤ t := by omega
  have htL : t ≤ L := by omega
  have t3n : decide (t < f) = false := decide_eq_false (by omega)
  have t4n : decide (L < t) = false := decide_eq_false (by omega)
  have T1 := Lib.hid (show decide ((64 : Int) < (L : Int)) = false from decide_eq_false (by omega))
  have t1 : decide ((64 : Int) < (L : Int)) = false := T1.out
  have hlo : 128 * (f : Int) ≤ exLo fs f := by unfold exLo; omega
  have HR := Lib.hid (fun (i : Nat) => rFrames_any (.slice a L cap) fs (i : Int) w H.out)
  have HOk := Lib.hid (fun (i : Nat) (h : i < 128 * L) => show frE fs (i : Int) = 0 by unfold frE; rw [if_neg (by rw [HL.out]; omega), if_neg (by rw [HL.out]; omega)])
  have HEnd := Lib.hid (fun (F La : Int) (sm : Bool) => exR_end (fs := fs) (f := f) (t := t) (F := F) (La := La) (sm := sm))
  have HFA := Lib.hid (fun (i : Nat) (h : f ≤ i / 128) => frA (fs := fs) h)
  have HFB := Lib.hid (fun (i : Nat) (h : i / 128 < t) => frB (fs := fs) h)
  have Hlo := Lib.hid hlo
  generalize exLo fs f = lo at *
  generalize exHi fs t = hi at *
  have hf64 : f ≤ 64 := by omega
  have ht64 : t ≤ 64 := by omega
  clear e1 e2 hE h1 h2 h3 h4 hlb hlo
  go_enter Try.func33, Try.ntmps33
  go_wp2_with fail
  go_loop [6, 7, 9, 10] (fun p q r i => ∃ (k : Nat) (F La : Int) (sm : Bool), 128 * f ≤ k ∧ k ≤ 128 * t ∧ i = .int .i64 k ∧ p = .int .i64 F ∧ q = .int .i64 La ∧ r = .bool sm ∧ Hid (exR lo hi f k F La sm)) (fun _ _ _ i => 128 * t - (intOf i).toNat)
  case atStart => exact ⟨128 * f, 128 * (f : Int), 128 * (f : Int), false, Nat.le_refl _, by omega, by simp, rfl, rfl, rfl, Lib.hid (by have := exR_start (hi := hi) Hlo.out; simpa using this)⟩
  case round =>
    obtain ⟨k, F, La, sm, hk1, hk2, rfl, rfl, rfl, rfl, HX⟩ := hrel
    by_cases hlt : k < 128 * t
    · have t9 : decide ((k : Int) < 128 * (t : Int)) = true := decide_eq_true (by omega)
      have HK := Lib.hid (HR.out k)
      have hok := HOk.out k (by omega)
      have ha := HFA.out k (by omega)
      have hb := HFB.out k (by omega)
      have hf1 : frF fs (k : Int) = fr1 fs k := by unfold frF; rw [if_pos hok, Int.toNat_natCast]
      have hf2 : frT fs (k : Int) = fr2 fs k := by unfold frT; rw [if_pos hok, Int.toNat_natCast]
      rw [hf1, hf2, hok] at HK
      generalize fr1 fs k = A at *
      generalize fr2 fs k = B at *
      clear hok hf1 hf2
      by_cases hA : (f : Int) ≤ A
      · have tA : decide ((f : Int) ≤ A) = true := decide_eq_true hA
        by_cases hB : B < (t : Int)
        · have tB : decide (B < (t : Int)) = true := decide_eq_true hB
          have HN := Lib.hid (exR_good HX.out (ha.1 hA) (hb.1 hB))
          clear hA hB ha hb
          cases sm <;>
            (go_wp2_with (go_at_call 31; refine HK.out.mono ?_; rintro e w' ⟨rfl, rfl⟩)
             go_round
             case rel => exact ⟨k + 1, _, _, _, by omega, by omega, by go_num, rfl, rfl, rfl, by have := HN.out; exact Lib.hid (by simpa using this)⟩
             case measure => simp [intOf]; omega)
        · have tB : decide (B < (t : Int)) = false := decide_eq_false hB
          have HN := Lib.hid (exR_bad HX.out (fun h => hB (hb.2 h.2)))
          clear hA hB ha hb
          go_wp2_with (go_at_call 31; refine HK.out.mono ?_; rintro e w' ⟨rfl, rfl⟩)
          go_round
          case rel => exact ⟨k + 1, _, _, _, by omega, by omega, by go_num, rfl, rfl, rfl, by have := HN.out; exact Lib.hid (by simpa using this)⟩
          case measure => simp [intOf]; omega
      · have tA : decide ((f : Int) ≤ A) = false := decide_eq_false hA
        have HN := Lib.hid (exR_bad HX.out (fun h => hA (ha.2 h.1)))
        clear hA ha hb
        go_wp2_with (go_at_call 31; refine HK.out.mono ?_; rintro e w' ⟨rfl, rfl⟩)
        go_round
        case rel => exact ⟨k + 1, _, _, _, by omega, by omega, by go_num, rfl, rfl, rfl, by have := HN.out; exact Lib.hid (by simpa using this)⟩
        case measure => simp [intOf]; omega
    · have hk9 : (k : Int) = 128 * (t : Int) := by omega
      have t9 : decide ((k : Int) < 128 * (t : Int)) = false := decide_eq_false (by omega)
      obtain ⟨e1, e2⟩ := HEnd.out F La sm (by have := HX.out; rwa [hk9] at this)
      clear hk9
      subst e1 e2
      go_wp2_with fail
      go_ret3
      exact ⟨rfl, Upd.refl _ _⟩
def blsB (xs ys : List Bool) : Bool := decide (xs = ys)
theorem blsB_self (xs : List Bool) : blsB xs xs = true := decide_eq_true rfl
theorem blsB_iff {xs ys : List Bool} : blsB xs ys = true ↔ xs = ys := decide_eq_true_iff
set_option maxRecDepth 100000 in
set_option maxHeartbeats 2000000 in
theorem rBools_any (sa sb : Value) (xs ys : List Bool) (w : World) (ha : Bls w sa xs) (hb : Bls w sb ys) :
    Calls Try.prog 19 #[sa, sb] w fun e w' => e = .returned (.bool (blsB xs ys)) ∧ ∃ n, w' = w.drewN n := by
  obtain ⟨a255, a, ca, rfl, _, ha⟩ := ha
  obtain ⟨b255, b, cb, rfl, _, hb⟩ := hb
  have HA := Lib.hid ha; clear ha
  have HB := Lib.hid hb; clear hb
  have B2 := Lib.hid b255; clear b255
  by_cases hlen : xs.length = ys.length
  · have hlb : ((xs.length : Int) != (ys.length : Int)) = false := by simp; omega
    have Hlen := Lib.hid hlen; clear hlen
    go_enter Try.func19, Try.ntmps19
    go_wp2_with fail
    go_loopw [13] (fun i wr => ∃ (k n : Nat), k ≤ xs.length ∧ i = .int .i64 k ∧ (∀ j, j < k → xs[j]? = ys[j]?) ∧ wr = w.drewN n) (fun i _ => xs.length - (intOf i).toNat)
    case atStart => exact ⟨0, 0, Nat.zero_le _, rfl, fun j hj => by omega, rfl⟩
    case round =>
      obtain ⟨k, n, hk, rfl, heq, rfl⟩ := hrel
      have Heq := Lib.hid heq; clear heq
      by_cases hlt : k < xs.length
      · have hltb : k < ys.length := by have := Hlen.out; omega
        rcases HA.out with hz | ⟨ba, oa, rfl, hca⟩
        · subst hz; simp at hlt
        rcases HB.out with hz | ⟨bb, ob, rfl, hcb⟩
        · subst hz; simp at hltb
        obtain ⟨x, g1⟩ : ∃ x, xs[k]? = some x := ⟨_, List.getElem?_eq_getElem hlt⟩
        obtain ⟨y, g2⟩ : ∃ y, ys[k]? = some y := ⟨_, List.getElem?_eq_getElem hltb⟩
        have d1 := hca k x g1
        have d2 := hcb k y g2
        have q1 : (k : Int) < xs.length := by omega
        have q2 : (k : Int) < ys.length := by omega
        have G1 := Lib.hid g1; clear g1
        have G2 := Lib.hid g2; clear g2
        clear hca hcb
        by_cases hxy : x = y
        · subst hxy
          cases x <;>
            (go_wp2
             go_quiet (fail)
             go_wp2
             go_roundw
             case rel =>
               refine ⟨k + 1, n + nq, by omega, by go_num, fun j hj => ?_, rfl⟩
               rcases Nat.lt_or_ge j k with h | h
               · exact Heq.out j h
               · obtain rfl : j = k := by omega
                 rw [G1.out, G2.out]
             case measure => simp [intOf]; omega)
        · have hf : blsB xs ys = false := decide_eq_false (fun e => by
            have h1 := G1.out; have h2 := G2.out
            rw [e, h2] at h1
            injection h1 with h1
            exact hxy h1.symm)
          have Hf := Lib.hid hf; clear hf
          cases x <;> cases y <;> first | exact absurd rfl hxy | skip
          all_goals
            clear hxy
            go_wp2
            go_quiet (fail)
            go_wp2
            go_ret
            exact ⟨by rw [Hf.out]; rfl, n + nq, by first | rfl | rw [World.drewN_drewN]⟩
      · obtain rfl : k = xs.length := by omega
        have hf : blsB xs ys = true := decide_eq_true (List.ext_getElem? fun j => by
          rcases Nat.lt_or_ge j xs.length with h | h
          · exact Heq.out j h
          · rw [List.getElem?_eq_none h, List.getElem?_eq_none (by have := Hlen.out; omega)])
        have Hf := Lib.hid hf; clear hf
        go_wp2
        go_ret
        exact ⟨by rw [Hf.out]; rfl, n, rfl⟩
  · have hlb : ((xs.length : Int) != (ys.length : Int)) = true := by simp; omega
    have hf : blsB xs ys = false := decide_eq_false (fun e => hlen (by rw [e]))
    have Hf := Lib.hid hf; clear hf hlen
    go_enter Try.func19, Try.ntmps19
    go_wp2
    go_ret
    exact ⟨by rw [Hf.out]; rfl, 0, rfl⟩

end Go.Proofs.Ytmkbpocibpjjaaa
