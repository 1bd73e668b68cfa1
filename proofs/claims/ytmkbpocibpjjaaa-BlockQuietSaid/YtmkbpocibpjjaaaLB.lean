/- block: the laps of the reference; what a sample hangs on, in the program and in the reference -/
import Derived.Test.YtmkbpocibpjjaaaLA
namespace Go.Proofs.Ytmkbpocibpjjaaa
open Go.RowKit Go.Shelf

theorem fullb_any (_v : Value) (n c : Nat) (a : Option Addr) (w : World) : Calls Try.prog 44 #[.slice a n c] w fun e w' => e = .returned (.bool (decide ((64 : Int) < (n : Int)))) ∧ w = w' := by
  go_enter Try.func44, Try.ntmps44
  go_wp2
  go_ret
  exact ⟨rfl, rfl⟩
theorem fulli_any (n c : Nat) (a : Option Addr) (w : World) : Calls Try.prog 50 #[.slice a n c] w fun e w' => e = .returned (.bool (decide ((64 : Int) < (n : Int)))) ∧ w = w' := by
  go_enter Try.func50, Try.ntmps50
  go_wp2
  go_ret
  exact ⟨rfl, rfl⟩
set_option maxRecDepth 100000 in
set_option maxHeartbeats 1000000 in
theorem rlap_any (v : Value) (fs : List Bool) (k : Nat) (w : World) (h : Bls w v fs) (hk : k ≤ 1000000) (_hl : fs.length ≤ 64) :
    Calls Try.prog 49 #[v, .int .i64 (k : Int)] w fun e w' => e = .returned (.int .i64 (lapN fs k : Nat)) ∧ w = w' := by
  obtain ⟨a, cap, rfl⟩ := h.form
  have H := Lib.hid h
  obtain ⟨L, hL⟩ : ∃ L, fs.length = L := ⟨_, rfl⟩
  have HL := Lib.hid hL
  rw [hL] at H ⊢
  clear h hL
  by_cases h0 : k = 0
  · subst h0
    rw [lapN_zero]
    go_enter Try.func49, Try.ntmps49
    go_wp2
    go_ret
    exact ⟨rfl, rfl⟩
  have t0 : decide ((k : Int) < 1) = false := decide_eq_false (by omega)
  have t0' : decide (k = 0) = false := decide_eq_false h0
  by_cases h1 : L ≤ k
  · rw [lapN_end fs (by rw [HL.out]; exact h1)]
    have t2 : decide (L ≤ k) = true := decide_eq_true h1
    clear h1 h0
    go_enter Try.func49, Try.ntmps49
    go_wp2
    go_ret
    exact ⟨rfl, rfl⟩
  have t2 : decide (L ≤ k) = false := decide_eq_false h1
  obtain ⟨m, rfl⟩ : ∃ m, k = m + 1 := ⟨k - 1, by omega⟩
  obtain ⟨x, hx⟩ : ∃ x, fs[m]? = some x := ⟨_, List.getElem?_eq_getElem (by rw [HL.out]; omega)⟩
  obtain ⟨y, hy⟩ : ∃ y, fs[m + 1]? = some y := ⟨_, List.getElem?_eq_getElem (by rw [HL.out]; omega)⟩
  obtain ⟨b, off, rfl, c0⟩ := H.out.cellAt hx
  obtain ⟨b', off', e, c1⟩ := H.out.cellAt hy
  cases e
  have hlap : lapN fs (m + 1) = if x || y then 16 else 128 := by
    unfold lapN
    rw [if_neg (by rw [HL.out]; omega), Nat.add_sub_cancel, getD_of hx, getD_of hy]
  have hlap' := Lib.hid hlap
  have es : ((m + 1 : Nat) : Int) - 1 = (m : Int) := by omega
  have q0 : (m : Int) < (L : Int) := by omega
  have q1 : ((m + 1 : Nat) : Int) < (L : Int) := by omega
  clear hlap hx hy h0 h1
  rw [hlap'.out]
  cases x <;> cases y <;>
    (go_enter Try.func49, Try.ntmps49
     go_wp2
     go_ret
     exact ⟨rfl, rfl⟩)
/-- the first and the last frame on which a sample hangs, and the error -/
def fr1 (fs : List Bool) (m : Nat) : Int := bif decide (m % 128 < lapN fs (m / 128) / 2) then ((m / 128 : Nat) : Int) - 1 else ((m / 128 : Nat) : Int)
def fr2 (fs : List Bool) (m : Nat) : Int := bif decide (128 - ((lapN fs (m / 128 + 1) / 2 : Nat) : Int) ≤ ((m % 128 : Nat) : Int)) then ((m / 128 : Nat) : Int) + 1 else ((m / 128 : Nat) : Int)
def frE (fs : List Bool) (i : Int) : Int := if 64 < fs.length then 2 else if i < 0 ∨ 128 * (fs.length : Int) ≤ i then 6 else 0
def frF (fs : List Bool) (i : Int) : Int := if frE fs i = 0 then fr1 fs i.toNat else 0
def frT (fs : List Bool) (i : Int) : Int := if frE fs i = 0 then fr2 fs i.toNat else 0
theorem fr_bad {fs : List Bool} {i E : Int} (h : frE fs i = E) (hE : E ≠ 0) : frF fs i = 0 ∧ frT fs i = 0 := by
  unfold frF frT
  rw [h, if_neg hE, if_neg hE]
  exact ⟨rfl, rfl⟩
theorem frE_ok {fs : List Bool} {i : Int} (h : frE fs i = 0) : fs.length ≤ 64 ∧ 0 ≤ i ∧ i < 128 * (fs.length : Int) := by
  unfold frE at h
  split at h
  · omega
  · split at h <;> omega
set_option maxRecDepth 100000 in
set_option maxHeartbeats 4000000 in
theorem Frames_any (v : Value) (fs : List Bool) (i : Int) (w : World) (h : Bls w v fs) :
    Calls Try.prog 30 #[v, .int .i64 i] w fun e w' => e = .returned (.tuple #[.int .i64 (frF fs i), .int .i64 (frT fs i), .int .i64 (frE fs i)]) ∧ Upd NoB w w' := by
  obtain ⟨a, cap, rfl⟩ := h.form
  have H := Lib.hid h
  have hlb := h.1
  obtain ⟨L, hL⟩ : ∃ L, fs.length = L := ⟨_, rfl⟩
  have HL := Lib.hid hL
  rw [hL] at H hlb ⊢
  clear h hL
  by_cases h1 : 64 < L
  · have hE : frE fs i = 2 := if_pos (by rw [HL.out]; exact h1)
    obtain ⟨e1, e2⟩ := fr_bad hE (by decide)
    rw [e1, e2, hE]
    have T1 := Lib.hid (show decide ((64 : Int) < (L : Int)) = true from decide_eq_true (by omega))
    clear h1 hE e1 e2 hlb
    go_enter Try.func30, Try.ntmps30
    go_wp2_with (go_at_call 44; refine (fullb_any (.int .i64 0) _ _ _ _).mono ?_; rw [T1.out]; rintro e w' ⟨rfl, rfl⟩)
    go_ret3
    exact ⟨rfl, Upd.refl _ _⟩
  have hl : L ≤ 64 := by omega
  by_cases h2 : i < 0
  · have hE : frE fs i = 6 := by unfold frE; rw [if_neg (by rw [HL.out]; exact h1), if_pos (.inl h2)]
    obtain ⟨e1, e2⟩ := fr_bad hE (by decide)
    rw [e1, e2, hE]
    have T1 := Lib.hid (show decide ((64 : Int) < (L : Int)) = false from decide_eq_false (by omega))
    have t2 : decide (i < 0) = true := decide_eq_true h2
    clear h1 h2 hE e1 e2 hlb
    go_enter Try.func30, Try.ntmps30
    go_wp2_with (go_at_call 44; refine (fullb_any (.int .i64 0) _ _ _ _).mono ?_; rw [T1.out]; rintro e w' ⟨rfl, rfl⟩)
    go_ret3
    exact ⟨rfl, Upd.refl _ _⟩
  have t2 : decide (i < 0) = false := decide_eq_false h2
  by_cases h3 : 128 * (L : Int) ≤ i
  · have hE : frE fs i = 6 := by unfold frE; rw [if_neg (by rw [HL.out]; exact h1), if_pos (.inr (by rw [HL.out]; exact h3))]
    obtain ⟨e1, e2⟩ := fr_bad hE (by decide)
    rw [e1, e2, hE]
    have T1 := Lib.hid (show decide ((64 : Int) < (L : Int)) = false from decide_eq_false (by omega))
    have t3 : decide (128 * (L : Int) ≤ i) = true := decide_eq_true h3
    clear h1 h2 h3 hE e1 e2 hlb
    go_enter Try.func30, Try.ntmps30
    go_wp2_with (go_at_call 44; refine (fullb_any (.int .i64 0) _ _ _ _).mono ?_; rw [T1.out]; rintro e w' ⟨rfl, rfl⟩)
    go_ret3
    exact ⟨rfl, Upd.refl _ _⟩
  have t3 : decide (128 * (L : Int) ≤ i) = false := decide_eq_false h3
  have hE : frE fs i = 0 := by unfold frE; rw [if_neg (by rw [HL.out]; exact h1), if_neg (by rw [HL.out]; omega)]
  obtain ⟨m, rfl⟩ := Int.eq_ofNat_of_zero_le (show 0 ≤ i by omega)
  have e1 : frF fs (m : Int) = fr1 fs m := by unfold frF; rw [if_pos hE, Int.toNat_natCast]
  have e2 : frT fs (m : Int) = fr2 fs m := by unfold frT; rw [if_pos hE, Int.toNat_natCast]
  rw [e1, e2, hE]
  unfold fr1 fr2
  obtain ⟨q, hq⟩ : ∃ q, m / 128 = q := ⟨_, rfl⟩
  obtain ⟨r, hr⟩ : ∃ r, m % 128 = r := ⟨_, rfl⟩
  have hml : m < 128 * L := by omega
  have d1 : (m : Int) / 128 = (q : Int) := by omega
  have d2 : (m : Int) % 128 = (r : Int) := by omega
  have hq64 : q < 64 := by omega
  have hr128 : r < 128 := by omega
  rw [hq, hr]
  have T1 := Lib.hid (show decide ((64 : Int) < (L : Int)) = false from decide_eq_false (by omega))
  have b1 := lapN_le fs q
  have b2 := lapN_le fs (q + 1)
  obtain ⟨W, hW⟩ : ∃ W, W = w.alloc (.cells #[.slice a L cap] 27) := ⟨_, rfl⟩
  have u0 : Upd NoB w W := by rw [hW]; exact (Upd.refl _ _).alloc _
  have bw : W.heap[w.heap.size]? = some (.cells #[.slice a L cap] 27 (0, 0)) := by rw [hW]; exact heap_alloc_new w _
  have HC1 := Lib.hid (laps1_any w.heap.size (.slice a L cap) fs q W (blk_cell bw 0) (H.out.later u0) (by omega) (by rw [HL.out]; exact hl))
  have HC2 := Lib.hid (laps1_any w.heap.size (.slice a L cap) fs (q + 1) W (blk_cell bw 0) (H.out.later u0) (by omega) (by rw [HL.out]; exact hl))
  have HW := Lib.hid hW; have U0 := Lib.hid u0
  clear hW u0 bw
  generalize lapN fs q = l1 at *
  generalize lapN fs (q + 1) = l2 at *
  obtain ⟨h1', hh1⟩ : ∃ x, l1 / 2 = x := ⟨_, rfl⟩
  obtain ⟨h2', hh2⟩ : ∃ x, l2 / 2 = x := ⟨_, rfl⟩
  have d3 : (l1 : Int) / 2 = (h1' : Int) := by omega
  have d4 : (l2 : Int) / 2 = (h2' : Int) := by omega
  have b3 : h1' ≤ 64 := by omega
  have b4 : h2' ≤ 64 := by omega
  rw [hh1, hh2]
  have eq1 : ((q + 1 : Nat) : Int) = (q : Int) + 1 := by omega
  rw [eq1] at HC2
  clear hq hr hh1 hh2 hml e1 e2 hE h1 h2 h3 hlb eq1
  cases z1 : decide (r < h1') <;> cases z2 : decide (128 - (h2' : Int) ≤ (r : Int)) <;>
    (go_enter Try.func30, Try.ntmps30
     go_wp2_with (first | (go_at_call 44; refine (fullb_any (.int .i64 0) _ _ _ _).mono ?_; rw [T1.out]; rintro e w' ⟨rfl, rfl⟩) | (go_at_call 48; refine (lapsOf_any _ _ ⟨_, _, _, rfl⟩).mono ?_; rintro e w' ⟨rfl, rfl⟩; rw [← HW.out]))
     (with_reducible refine HC1.out.mono ?_)
     rintro e w' ⟨rfl, rfl⟩
     go_wp2_with fail
     (with_reducible refine HC2.out.mono ?_)
     rintro e w' ⟨rfl, rfl⟩
     go_wp2_with fail
     go_ret3
     exact ⟨rfl, U0.out⟩)
set_option maxRecDepth 100000 in
set_option maxHeartbeats 4000000 in
theorem rFrames_any (v : Value) (fs : List Bool) (i : Int) (w : World) (h : Bls w v fs) :
    Calls Try.prog 31 #[v, .int .i64 i] w fun e w' => e = .returned (.tuple #[.int .i64 (frF fs i), .int .i64 (frT fs i), .int .i64 (frE fs i)]) ∧ w = w' := by
  obtain ⟨a, cap, rfl⟩ := h.form
  have H := Lib.hid h
  have hlb := h.1
  obtain ⟨L, hL⟩ : ∃ L, fs.length = L := ⟨_, rfl⟩
  have HL := Lib.hid hL
  rw [hL] at H hlb ⊢
  clear h hL
  by_cases h1 : 64 < L
  · have hE : frE fs i = 2 := if_pos (by rw [HL.out]; exact h1)
    obtain ⟨e1, e2⟩ := fr_bad hE (by decide)
    rw [e1, e2, hE]
    have T1 := Lib.hid (show decide ((64 : Int) < (L : Int)) = true from decide_eq_true (by omega))
    have t1 : decide ((64 : Int) < (L : Int)) = true := T1.out
    have t1n : decide (64 < L) = true := decide_eq_true (by omega)
    clear h1 hE e1 e2 hlb
    go_enter Try.func31, Try.ntmps31
    go_wp2_with fail
    go_ret3
    exact ⟨rfl, rfl⟩
  have hl : L ≤ 64 := by omega
  by_cases h2 : i < 0
  · have hE : frE fs i = 6 := by unfold frE; rw [if_neg (by rw [HL.out]; exact h1), if_pos (.inl h2)]
    obtain ⟨e1, e2⟩ := fr_bad hE (by decide)
    rw [e1, e2, hE]
    have T1 := Lib.hid (show decide ((64 : Int) < (L : Int)) = false from decide_eq_false (by omega))
    have t1 : decide ((64 : Int) < (L : Int)) = false := T1.out
    have t1n : decide (64 < L) = false := decide_eq_false (by omega)
    have t2 : decide (i < 0) = true := decide_eq_true h2
    clear h1 h2 hE e1 e2 hlb
    go_enter Try.func31, Try.ntmps31
    go_wp2_with fail
    go_ret3
    exact ⟨rfl, rfl⟩
  have t2 : decide (i < 0) = false := decide_eq_false h2
  by_cases h3 : 128 * (L : Int) ≤ i
  · have hE : frE fs i = 6 := by unfold frE; rw [if_neg (by rw [HL.out]; exact h1), if_pos (.inr (by rw [HL.out]; exact h3))]
    obtain ⟨e1, e2⟩ := fr_bad hE (by decide)
    rw [e1, e2, hE]
    have T1 := Lib.hid (show decide ((64 : Int) < (L : Int)) = false from decide_eq_false (by omega))
    have t1 : decide ((64 : Int) < (L : Int)) = false := T1.out
    have t1n : decide (64 < L) = false := decide_eq_false (by omega)
    have t3 : decide (128 * (L : Int) ≤ i) = true := decide_eq_true h3
    clear h1 h2 h3 hE e1 e2 hlb
    go_enter Try.func31, Try.ntmps31
    go_wp2_with fail
    go_ret3
    exact ⟨rfl, rfl⟩
  have t3 : decide (128 * (L : Int) ≤ i) = false := decide_eq_false h3
  have hE : frE fs i = 0 := by unfold frE; rw [if_neg (by rw [HL.out]; exact h1), if_neg (by rw [HL.out]; omega)]
  obtain ⟨m, rfl⟩ := Int.eq_ofNat_of_zero_le (show 0 ≤ i by omega)
  have e1 : frF fs (m : Int) = fr1 fs m := by unfold frF; rw [if_pos hE, Int.toNat_natCast]
  have e2 : frT fs (m : Int) = fr2 fs m := by unfold frT; rw [if_pos hE, Int.toNat_natCast]
  rw [e1, e2, hE]
  unfold fr1 fr2
  obtain ⟨q, hq⟩ : ∃ q, m / 128 = q := ⟨_, rfl⟩
  obtain ⟨r, hr⟩ : ∃ r, m % 128 = r := ⟨_, rfl⟩
  have hml : m < 128 * L := by omega
  have d1 : (m : Int) / 128 = (q : Int) := by omega
  have d2 : (m : Int) % 128 = (r : Int) := by omega
  have hq64 : q < 64 := by omega
  have hr128 : r < 128 := by omega
  rw [hq, hr]
  have T1 := Lib.hid (show decide ((64 : Int) < (L : Int)) = false from decide_eq_false (by omega))
  have t1n : decide (64 < L) = false := decide_eq_false (by omega)
  have b1 := lapN_le fs q
  have b2 := lapN_le fs (q + 1)
  have HC1 := Lib.hid (rlap_any (.slice a L cap) fs q w H.out (by omega) (by rw [HL.out]; exact hl))
  have HC2 := Lib.hid (rlap_any (.slice a L cap) fs (q + 1) w H.out (by omega) (by rw [HL.out]; exact hl))
  generalize lapN fs q = l1 at *
  generalize lapN fs (q + 1) = l2 at *
  obtain ⟨h1', hh1⟩ : ∃ x, l1 / 2 = x := ⟨_, rfl⟩
  obtain ⟨h2', hh2⟩ : ∃ x, l2 / 2 = x := ⟨_, rfl⟩
  have d3 : (l1 : Int) / 2 = (h1' : Int) := by omega
  have d4 : (l2 : Int) / 2 = (h2' : Int) := by omega
  have b3 : h1' ≤ 64 := by omega
  have b4 : h2' ≤ 64 := by omega
  rw [hh1, hh2]
  have eq1 : ((q + 1 : Nat) : Int) = (q : Int) + 1 := by omega
  rw [eq1] at HC2
  clear hq hr hh1 hh2 hml e1 e2 hE h1 h2 h3 hlb eq1
  cases z1 : decide (r < h1') <;> cases z2 : decide (128 - (h2' : Int) ≤ (r : Int)) <;>
    (go_enter Try.func31, Try.ntmps31
     go_wp2_with fail
     (with_reducible refine HC1.out.mono ?_)
     rintro e w' ⟨rfl, rfl⟩
     go_wp2_with fail
     (with_reducible refine HC2.out.mono ?_)
     rintro e w' ⟨rfl, rfl⟩
     go_wp2_with fail
     go_ret3
     exact ⟨rfl, rfl⟩)
end Go.Proofs.Ytmkbpocibpjjaaa
