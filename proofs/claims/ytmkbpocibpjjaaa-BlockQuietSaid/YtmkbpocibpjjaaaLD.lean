/- block: the least and the greatest of a list; which samples are right -/
import Derived.Test.YtmkbpocibpjjaaaLC
import Derived.Lib.MinMax
namespace Go.Proofs.Ytmkbpocibpjjaaa
open Go.RowKit Go.Shelf

/-- the least, the greatest of the elements 0, .., k -/
def mnT (xs : List Int) : Nat → Int
  | 0 => xs.getD 0 0
  | k + 1 => min (mnT xs k) (xs.getD (k + 1) 0)
def mxT (xs : List Int) : Nat → Int
  | 0 => xs.getD 0 0
  | k + 1 => max (mxT xs k) (xs.getD (k + 1) 0)
theorem mnT_lt (xs : List Int) (c : Int) : ∀ k, mnT xs k < c ↔ ∃ i, i ≤ k ∧ xs.getD i 0 < c
  | 0 => ⟨fun h => ⟨0, Nat.le_refl _, h⟩, fun ⟨i, hi, h⟩ => by
      have e : i = 0 := by omega
      rw [e] at h
      exact h⟩
  | k + 1 => by
    have ih := mnT_lt xs c k
    constructor
    · intro h
      by_cases h1 : mnT xs k < c
      · obtain ⟨i, hi, h2⟩ := ih.1 h1
        exact ⟨i, by omega, h2⟩
      · exact ⟨k + 1, Nat.le_refl _, by unfold mnT at h; omega⟩
    · rintro ⟨i, hi, h⟩
      unfold mnT
      by_cases h1 : i = k + 1
      · subst h1; omega
      · have := ih.2 ⟨i, by omega, h⟩
        omega
theorem mxT_gt (xs : List Int) (c : Int) : ∀ k, c < mxT xs k ↔ ∃ i, i ≤ k ∧ c < xs.getD i 0
  | 0 => ⟨fun h => ⟨0, Nat.le_refl _, h⟩, fun ⟨i, hi, h⟩ => by
      have e : i = 0 := by omega
      rw [e] at h
      exact h⟩
  | k + 1 => by
    have ih := mxT_gt xs c k
    constructor
    · intro h
      by_cases h1 : c < mxT xs k
      · obtain ⟨i, hi, h2⟩ := ih.1 h1
        exact ⟨i, by omega, h2⟩
      · exact ⟨k + 1, Nat.le_refl _, by unfold mxT at h; omega⟩
    · rintro ⟨i, hi, h⟩
      unfold mxT
      by_cases h1 : i = k + 1
      · subst h1; omega
      · have := ih.2 ⟨i, by omega, h⟩
        omega
theorem getD_ofI {xs : List Int} {k : Nat} {x : Int} (h : xs[k]? = some x) : xs.getD k 0 = x := by rw [List.getD_eq_getElem?_getD, h]; rfl
/-- all elements lie from lo to hi -/
def allIn (lo hi : Int) (xs : List Int) : Bool := xs.all fun v => decide (lo ≤ v ∧ v ≤ hi)
theorem allIn_yes {lo hi : Int} {xs : List Int} (h : allIn lo hi xs = true) {k : Nat} {x : Int} (hx : xs[k]? = some x) : lo ≤ x ∧ x ≤ hi :=
  of_decide_eq_true (List.all_eq_true.1 h x (List.mem_of_getElem? hx))
theorem allIn_not {lo hi : Int} {xs : List Int} {k : Nat} {x : Int} (hx : xs[k]? = some x) (h : ¬ (lo ≤ x ∧ x ≤ hi)) : allIn lo hi xs = false := by
  cases e : allIn lo hi xs with
  | false => rfl
  | true => exact absurd (allIn_yes e hx) h
theorem allIn_of {lo hi : Int} {xs : List Int} (h : ∀ (k : Nat) (x : Int), xs[k]? = some x → lo ≤ x ∧ x ≤ hi) : allIn lo hi xs = true := by
  unfold allIn
  rw [List.all_eq_true]
  intro x hx
  obtain ⟨k, hk⟩ := List.getElem?_of_mem hx
  exact decide_eq_true (h k x hk)
/-- the least and the greatest tell whether all lie there -/
theorem minmax_in {lo hi : Int} {xs : List Int} {n : Nat} (h : xs.length = n + 1) : allIn lo hi xs = true ↔ ¬ mnT xs n < lo ∧ ¬ hi < mxT xs n := by
  rw [mnT_lt, mxT_gt]
  constructor
  · intro ha
    constructor
    · rintro ⟨i, hi', hx⟩
      obtain ⟨x, hx0⟩ : ∃ x, xs[i]? = some x := ⟨_, List.getElem?_eq_getElem (by omega)⟩
      rw [getD_ofI hx0] at hx
      have := allIn_yes ha hx0
      omega
    · rintro ⟨i, hi', hx⟩
      obtain ⟨x, hx0⟩ : ∃ x, xs[i]? = some x := ⟨_, List.getElem?_eq_getElem (by omega)⟩
      rw [getD_ofI hx0] at hx
      have := allIn_yes ha hx0
      omega
  · rintro ⟨h1, h2⟩
    refine allIn_of fun k x hx => ?_
    have hk := (List.getElem?_eq_some_iff.1 hx).1
    constructor
    · rcases Int.lt_or_le x lo with h3 | h3
      · exact absurd ⟨k, by omega, by rw [getD_ofI hx]; exact h3⟩ h1
      · exact h3
    · rcases Int.lt_or_le hi x with h3 | h3
      · exact absurd ⟨k, by omega, by rw [getD_ofI hx]; exact h3⟩ h2
      · exact h3
set_option maxRecDepth 100000 in
set_option maxHeartbeats 1000000 in
theorem sMin_any (v : Value) (xs : List Int) (n : Nat) (w : World) (h : Ints w v xs) (hn : xs.length = n + 1) (hn2 : n ≤ 100000) :
    Calls Try.prog 51 #[v] w fun e w' => e = .returned (.int .i64 (mnT xs n)) ∧ w = w' := by
  obtain ⟨a, cap, rfl⟩ := h.form
  have H := Lib.hid h
  have HL := Lib.hid hn
  obtain ⟨L, hL⟩ : ∃ L, xs.length = L := ⟨_, rfl⟩
  rw [hL] at H hn ⊢
  have t0 : decide (L = 0) = false := decide_eq_false (by omega)
  have t0' : decide (L < 1) = false := decide_eq_false (by omega)
  have t0'' : decide ((L : Int) < 1) = false := decide_eq_false (by omega)
  clear h hL
  obtain ⟨x0, hx0⟩ : ∃ x, xs[0]? = some x := ⟨_, List.getElem?_eq_getElem (by rw [HL.out]; omega)⟩
  obtain ⟨b, off, rfl, c0⟩ := H.out.cellAt hx0
  rw [Nat.add_zero] at c0
  have q0 : (0 : Int) < (L : Int) := by omega
  have q0' : 0 < L := by omega
  have HnL := Lib.hid hn; clear hn
  have HS := Lib.hid (show mnT xs 0 = x0 from getD_ofI hx0)
  clear hx0
  go_enter Try.func51, Try.ntmps51
  go_wp2_with fail
  go_loop [3, 4] (fun m i => ∃ k : Nat, k ≤ n ∧ i = .int .i64 (k + 1 : Nat) ∧ m = .int .i64 (mnT xs k)) (fun _ i => n + 2 - (intOf i).toNat)
  case atStart => exact ⟨0, Nat.zero_le _, rfl, by rw [HS.out]⟩
  case round =>
    obtain ⟨k, hk, rfl, rfl⟩ := hrel
    by_cases hlt : k < n
    · obtain ⟨x, hx⟩ : ∃ x, xs[k + 1]? = some x := ⟨_, List.getElem?_eq_getElem (by rw [HL.out]; omega)⟩
      obtain ⟨b', off', e, c1⟩ := H.out.cellAt hx
      cases e
      have q1 : ((k + 1 : Nat) : Int) < (L : Int) := by have := HnL.out; omega
      have q2 : decide (k + 1 < L) = true := decide_eq_true (by omega)
      have HN := Lib.hid (show mnT xs (k + 1) = min (mnT xs k) x by rw [← getD_ofI hx]; rfl)
      generalize mnT xs k = m at *
      clear hx
      go_wp2
      go_round
      case rel => exact ⟨k + 1, by omega, by go_num, by rw [HN.out]⟩
      case measure => simp [intOf]; omega
    · obtain rfl : k = n := by omega
      have q1 : decide (((k + 1 : Nat) : Int) < (L : Int)) = false := decide_eq_false (by have := HnL.out; omega)
      have q2 : decide (k + 1 < L) = false := decide_eq_false (by have := HnL.out; omega)
      have q3 : decide ((k : Int) + 1 < (L : Int)) = false := decide_eq_false (by have := HnL.out; omega)
      go_wp2
      go_ret
      exact ⟨rfl, rfl⟩
set_option maxRecDepth 100000 in
set_option maxHeartbeats 1000000 in
theorem sMax_any (v : Value) (xs : List Int) (n : Nat) (w : World) (h : Ints w v xs) (hn : xs.length = n + 1) (hn2 : n ≤ 100000) :
    Calls Try.prog 52 #[v] w fun e w' => e = .returned (.int .i64 (mxT xs n)) ∧ w = w' := by
  obtain ⟨a, cap, rfl⟩ := h.form
  have H := Lib.hid h
  have HL := Lib.hid hn
  obtain ⟨L, hL⟩ : ∃ L, xs.length = L := ⟨_, rfl⟩
  rw [hL] at H hn ⊢
  have t0 : decide (L = 0) = false := decide_eq_false (by omega)
  have t0' : decide (L < 1) = false := decide_eq_false (by omega)
  have t0'' : decide ((L : Int) < 1) = false := decide_eq_false (by omega)
  clear h hL
  obtain ⟨x0, hx0⟩ : ∃ x, xs[0]? = some x := ⟨_, List.getElem?_eq_getElem (by rw [HL.out]; omega)⟩
  obtain ⟨b, off, rfl, c0⟩ := H.out.cellAt hx0
  rw [Nat.add_zero] at c0
  have q0 : (0 : Int) < (L : Int) := by omega
  have q0' : 0 < L := by omega
  have HnL := Lib.hid hn; clear hn
  have HS := Lib.hid (show mxT xs 0 = x0 from getD_ofI hx0)
  clear hx0
  go_enter Try.func52, Try.ntmps52
  go_wp2_with fail
  go_loop [3, 4] (fun m i => ∃ k : Nat, k ≤ n ∧ i = .int .i64 (k + 1 : Nat) ∧ m = .int .i64 (mxT xs k)) (fun _ i => n + 2 - (intOf i).toNat)
  case atStart => exact ⟨0, Nat.zero_le _, rfl, by rw [HS.out]⟩
  case round =>
    obtain ⟨k, hk, rfl, rfl⟩ := hrel
    by_cases hlt : k < n
    · obtain ⟨x, hx⟩ : ∃ x, xs[k + 1]? = some x := ⟨_, List.getElem?_eq_getElem (by rw [HL.out]; omega)⟩
      obtain ⟨b', off', e, c1⟩ := H.out.cellAt hx
      cases e
      have q1 : ((k + 1 : Nat) : Int) < (L : Int) := by have := HnL.out; omega
      have q2 : decide (k + 1 < L) = true := decide_eq_true (by omega)
      have HN := Lib.hid (show mxT xs (k + 1) = max (mxT xs k) x by rw [← getD_ofI hx]; rfl)
      generalize mxT xs k = m at *
      clear hx
      go_wp2
      go_round
      case rel => exact ⟨k + 1, by omega, by go_num, by rw [HN.out]⟩
      case measure => simp [intOf]; omega
    · obtain rfl : k = n := by omega
      have q1 : decide (((k + 1 : Nat) : Int) < (L : Int)) = false := decide_eq_false (by have := HnL.out; omega)
      have q2 : decide (k + 1 < L) = false := decide_eq_false (by have := HnL.out; omega)
      have q3 : decide ((k : Int) + 1 < (L : Int)) = false := decide_eq_false (by have := HnL.out; omega)
      go_wp2
      go_ret
      exact ⟨rfl, rfl⟩
set_option maxRecDepth 100000 in
set_option maxHeartbeats 2000000 in
theorem sEqual_any (sa sb : Value) (xs ys : List Int) (w : World) (ha : Ints w sa xs) (hb : Ints w sb ys) :
    Calls Try.prog 53 #[sa, sb] w fun e w' => e = .returned (.bool (intsB xs ys)) ∧ ∃ n, w' = w.drewN n := by
  obtain ⟨a255, a, ca, rfl, _, ha⟩ := ha
  obtain ⟨b255, b, cb, rfl, _, hb⟩ := hb
  have HA := Lib.hid ha; clear ha
  have HB := Lib.hid hb; clear hb
  have B2 := Lib.hid b255; clear b255
  by_cases hlen : xs.length = ys.length
  · have hlb : ((xs.length : Int) != (ys.length : Int)) = false := by simp; omega
    have Hlen := Lib.hid hlen; clear hlen
    go_enter Try.func53, Try.ntmps53
    go_wp2_with fail
    go_loopw [13] (fun i wr => ∃ (k n : Nat), k ≤ xs.length ∧ i = .int .i64 k ∧ (∀ j, j < k → xs[j]? = ys[j]?) ∧ wr = w.drewN n) (fun i _ => xs.length - (intOf i).toNat)
    case atStart => exact ⟨0, 0, Nat.zero_le _, rfl, fun j hj => by omega, rfl⟩
    case round =>
      obtain ⟨k, n, hk, rfl, heq, rfl⟩ := hrel
      have Heq := Lib.hid heq; clear heq
      by_cases hlt : k < xs.length
      · have hltb : k < ys.length := by have := Hlen.out; omega
        rcases HA.out with hz | ⟨ba, oa, rfl, hca⟩
        · subst hz; simp at hlt
        rcases HB.out with hz | ⟨bb, ob, rfl, hcb⟩
        · subst hz; simp at hltb
        obtain ⟨x, g1⟩ : ∃ x, xs[k]? = some x := ⟨_, List.getElem?_eq_getElem hlt⟩
        obtain ⟨y, g2⟩ : ∃ y, ys[k]? = some y := ⟨_, List.getElem?_eq_getElem hltb⟩
        have d1 := hca k x g1
        have d2 := hcb k y g2
        have q1 : (k : Int) < xs.length := by omega
        have q2 : (k : Int) < ys.length := by omega
        have G1 := Lib.hid g1; clear g1
        have G2 := Lib.hid g2; clear g2
        clear hca hcb
        by_cases hxy : x = y
        · subst hxy
          have hne : (x != x) = false := by simp
          go_wp2
          go_quiet (fail)
          go_wp2
          go_roundw
          case rel =>
            refine ⟨k + 1, n + nq, by omega, by go_num, fun j hj => ?_, rfl⟩
            rcases Nat.lt_or_ge j k with h | h
            · exact Heq.out j h
            · obtain rfl : j = k := by omega
              rw [G1.out, G2.out]
          case measure => simp [intOf]; omega
        · have hne : (x != y) = true := by simp; omega
          have hf : intsB xs ys = false := decide_eq_false (fun e => by
            have h1 := G1.out; have h2 := G2.out
            rw [e, h2] at h1
            injection h1 with h1
            exact hxy h1.symm)
          have Hf := Lib.hid hf; clear hf
          go_wp2
          go_quiet (fail)
          go_wp2
          go_ret
          exact ⟨by rw [Hf.out]; rfl, n + nq, by first | rfl | rw [World.drewN_drewN]⟩
      · obtain rfl : k = xs.length := by omega
        have hf : intsB xs ys = true := decide_eq_true (List.ext_getElem? fun j => by
          rcases Nat.lt_or_ge j xs.length with h | h
          · exact Heq.out j h
          · rw [List.getElem?_eq_none h, List.getElem?_eq_none (by have := Hlen.out; omega)])
        have Hf := Lib.hid hf; clear hf
        go_wp2
        go_ret
        exact ⟨by rw [Hf.out]; rfl, n, rfl⟩
  · have hlb : ((xs.length : Int) != (ys.length : Int)) = true := by simp; omega
    have hf : intsB xs ys = false := decide_eq_false (fun e => hlen (by rw [e]))
    have Hf := Lib.hid hf; clear hf hlen
    go_enter Try.func53, Try.ntmps53
    go_wp2
    go_ret
    exact ⟨by rw [Hf.out]; rfl, 0, rfl⟩

/-- the errors of samples -/
def ckE (xs : List Int) : Int := if xs.length % 128 ≠ 0 ∨ 8192 < xs.length then 1 else if allIn (-65536) 65536 xs then 0 else 6
theorem ckE_ok {xs : List Int} (h : ckE xs = 0) : xs.length % 128 = 0 ∧ xs.length ≤ 8192 ∧ allIn (-65536) 65536 xs = true := by
  unfold ckE at h
  split at h
  · omega
  · split at h
    · rename_i h1 h2; exact ⟨by omega, by omega, h2⟩
    · omega
theorem ckE_cases (xs : List Int) : ckE xs = 0 ∨ ckE xs = 1 ∨ ckE xs = 6 := by
  unfold ckE
  split
  · exact .inr (.inl rfl)
  · split
    · exact .inl rfl
    · exact .inr (.inr rfl)
set_option maxRecDepth 100000 in
set_option maxHeartbeats 2000000 in
theorem check_any (v : Value) (xs : List Int) (w : World) (h : Ints w v xs) : Calls Try.prog 39 #[v] w fun e w' => e = .returned (.int .i64 (ckE xs)) ∧ w = w' := by
  obtain ⟨a, cap, rfl⟩ := h.form
  have H := Lib.hid h
  have hlb := h.1
  obtain ⟨L, hL⟩ : ∃ L, xs.length = L := ⟨_, rfl⟩
  have HL := Lib.hid hL
  rw [hL] at H hlb ⊢
  clear h hL
  obtain ⟨r, hr⟩ : ∃ r, L % 128 = r := ⟨_, rfl⟩
  have er : (L : Int) % 128 = (r : Int) := by omega
  by_cases h1 : r = 0
  · subst h1
    by_cases h2 : 8192 < L
    · have hE := Lib.hid (show ckE xs = 1 from if_pos (.inr (by rw [HL.out]; exact h2)))
      rw [hE.out]
      have t1 : decide ((8192 : Int) < (L : Int)) = true := decide_eq_true (by omega)
      clear h2 hlb hr
      go_enter Try.func39, Try.ntmps39
      go_wp2
      go_ret
      exact ⟨rfl, rfl⟩
    have hE := Lib.hid (show ckE xs = if allIn (-65536) 65536 xs then 0 else 6 from if_neg (by rw [HL.out]; omega))
    rw [hE.out]
    have t1 : decide ((8192 : Int) < (L : Int)) = false := decide_eq_false (by omega)
    by_cases h3 : L = 0
    · subst h3
      have hx : xs = [] := List.eq_nil_of_length_eq_zero HL.out
      subst hx
      clear h2 hlb hr er
      go_enter Try.func39, Try.ntmps39
      go_wp2
      go_ret
      exact ⟨rfl, rfl⟩
    obtain ⟨n, hn⟩ : ∃ n, L = n + 1 := ⟨L - 1, by omega⟩
    have t3 : decide ((0 : Int) < (L : Int)) = true := decide_eq_true (by omega)
    have t3' : decide (0 < L) = true := decide_eq_true (by omega)
    have HMn := Lib.hid (sMin_any (.slice a L cap) xs n w H.out (by rw [HL.out]; exact hn) (by omega))
    have HMx := Lib.hid (sMax_any (.slice a L cap) xs n w H.out (by rw [HL.out]; exact hn) (by omega))
    have HI := Lib.hid (minmax_in (lo := -65536) (hi := 65536) (HL.out.trans hn))
    clear hn
    generalize mnT xs n = m1 at *
    generalize mxT xs n = m2 at *
    clear h2 h3 hlb hr
    by_cases g1 : m1 < -65536
    · rw [show allIn (-65536) 65536 xs = false by cases e : allIn (-65536) 65536 xs with | false => rfl | true => exact absurd g1 (HI.out.1 e).1]
      have s1 : decide (m1 < -65536) = true := decide_eq_true g1
      clear g1
      go_enter Try.func39, Try.ntmps39
      go_wp2_with (first | (go_at_call 51; refine HMn.out.mono ?_; rintro e w' ⟨rfl, rfl⟩) | (go_at_call 52; refine HMx.out.mono ?_; rintro e w' ⟨rfl, rfl⟩))
      go_ret
      exact ⟨rfl, rfl⟩
    have s1 : decide (m1 < -65536) = false := decide_eq_false g1
    by_cases g2 : 65536 < m2
    · rw [show allIn (-65536) 65536 xs = false by cases e : allIn (-65536) 65536 xs with | false => rfl | true => exact absurd g2 (HI.out.1 e).2]
      have s2 : decide ((65536 : Int) < m2) = true := decide_eq_true g2
      clear g1 g2
      go_enter Try.func39, Try.ntmps39
      go_wp2_with (first | (go_at_call 51; refine HMn.out.mono ?_; rintro e w' ⟨rfl, rfl⟩) | (go_at_call 52; refine HMx.out.mono ?_; rintro e w' ⟨rfl, rfl⟩))
      go_ret
      exact ⟨rfl, rfl⟩
    have s2 : decide ((65536 : Int) < m2) = false := decide_eq_false g2
    rw [HI.out.2 ⟨g1, g2⟩]
    clear g1 g2
    go_enter Try.func39, Try.ntmps39
    go_wp2_with (first | (go_at_call 51; refine HMn.out.mono ?_; rintro e w' ⟨rfl, rfl⟩) | (go_at_call 52; refine HMx.out.mono ?_; rintro e w' ⟨rfl, rfl⟩))
    go_ret
    exact ⟨rfl, rfl⟩
  · have hE := Lib.hid (show ckE xs = 1 from if_pos (.inl (by rw [HL.out]; omega)))
    rw [hE.out]
    have t0 : ((r : Int) != 0) = true := by rw [bne_iff_ne]; omega
    clear h1 hlb hr
    go_enter Try.func39, Try.ntmps39
    go_wp2
    go_ret
    exact ⟨rfl, rfl⟩
set_option maxRecDepth 100000 in
set_option maxHeartbeats 2000000 in
theorem within_any (v : Value) (xs : List Int) (w : World) (h : Ints w v xs) : Calls Try.prog 56 #[.int .i64 65536, v] w fun e w' => e = .returned (.bool (allIn (-65536) 65536 xs)) ∧ w = w' := by
  obtain ⟨a, cap, rfl⟩ := h.form
  have hb := h.1
  have H := Lib.hid h
  obtain ⟨L, hL⟩ : ∃ L, xs.length = L := ⟨_, rfl⟩
  have HL := Lib.hid hL
  rw [hL] at H hb ⊢
  clear h hL
  go_enter Try.func56, Try.ntmps56
  go_wp2_with fail
  go_loop [9] (fun i => ∃ k : Nat, k ≤ L ∧ i = .int .i64 k ∧ Hid (∀ (j : Nat) (x : Int), j < k → xs[j]? = some x → -65536 ≤ x ∧ x ≤ 65536)) (fun i => L - (intOf i).toNat)
  case atStart => exact ⟨0, Nat.zero_le _, rfl, Lib.hid (fun j x hj => by omega)⟩
  case round =>
    obtain ⟨k, hk, rfl, HN⟩ := hrel
    by_cases hlt : k < L
    · obtain ⟨x, hx⟩ : ∃ x, xs[k]? = some x := ⟨_, List.getElem?_eq_getElem (by rw [HL.out]; exact hlt)⟩
      obtain ⟨b, off, rfl, hc⟩ := H.out.cellAt hx
      by_cases g1 : x < -65536
      · have HE := Lib.hid (allIn_not (lo := -65536) (hi := 65536) hx (by omega))
        have s1 : decide (x < -65536) = true := decide_eq_true g1
        clear hx g1
        go_wp2
        go_ret
        rw [HE.out]
        exact ⟨rfl, rfl⟩
      have s1 : decide (x < -65536) = false := decide_eq_false g1
      by_cases g2 : 65536 < x
      · have HE := Lib.hid (allIn_not (lo := -65536) (hi := 65536) hx (by omega))
        have s2 : decide ((65536 : Int) < x) = true := decide_eq_true g2
        clear hx g1 g2
        go_wp2
        go_ret
        rw [HE.out]
        exact ⟨rfl, rfl⟩
      have s2 : decide ((65536 : Int) < x) = false := decide_eq_false g2
      have HM := Lib.hid (show ∀ (j : Nat) (y : Int), j < k + 1 → xs[j]? = some y → -65536 ≤ y ∧ y ≤ 65536 from fun j y hj hy => by
        by_cases e : j = k
        · subst e; rw [hx] at hy; cases hy; omega
        · exact HN.out j y (by omega) hy)
      clear hx g1 g2
      go_wp2
      go_round
      case rel => exact ⟨k + 1, by omega, by go_num, HM⟩
      case measure => simp [intOf]; omega
    · obtain rfl : k = L := by omega
      have HE := Lib.hid (show allIn (-65536) 65536 xs = true from allIn_of fun j x hx => HN.out j x (by have := (List.getElem?_eq_some_iff.1 hx).1; rw [HL.out] at this; exact this) hx)
      go_wp2
      go_ret
      rw [HE.out]
      exact ⟨rfl, rfl⟩
theorem Within_any (v : Value) (xs : List Int) (w : World) (h : Ints w v xs) : Calls Try.prog 38 #[.int .i64 65536, v] w fun e w' => e = .returned (.bool (allIn (-65536) 65536 xs)) ∧ w = w' := by
  have H := Lib.hid (within_any v xs w h)
  obtain ⟨a, cap, rfl⟩ := h.form
  clear h
  generalize allIn (-65536) 65536 xs = b at *
  go_enter Try.func38, Try.ntmps38
  go_wp2_with (go_at_call 56; refine H.out.mono ?_; rintro e w' ⟨rfl, rfl⟩)
  go_ret
  exact ⟨rfl, rfl⟩
set_option maxRecDepth 100000 in
set_option maxHeartbeats 2000000 in
theorem samples_any (v : Value) (xs : List Int) (w : World) (h : Ints w v xs) : Calls Try.prog 42 #[v] w fun e w' => e = .returned (.int .i64 (ckE xs)) ∧ w = w' := by
  have HWi := Lib.hid (Within_any v xs w h)
  obtain ⟨a, cap, rfl⟩ := h.form
  have hlb := h.1
  obtain ⟨L, hL⟩ : ∃ L, xs.length = L := ⟨_, rfl⟩
  have HL := Lib.hid hL
  rw [hL] at HWi hlb ⊢
  clear h hL
  obtain ⟨r, hr⟩ : ∃ r, L % 128 = r := ⟨_, rfl⟩
  have er : (L : Int) % 128 = (r : Int) := by omega
  by_cases h1 : r = 0
  · subst h1
    by_cases h2 : 8192 < L
    · have hE := Lib.hid (show ckE xs = 1 from if_pos (.inr (by rw [HL.out]; exact h2)))
      rw [hE.out]
      have t1 : decide ((8192 : Int) < (L : Int)) = true := decide_eq_true (by omega)
      clear h2 hlb hr
      go_enter Try.func42, Try.ntmps42
      go_wp2
      go_ret
      exact ⟨rfl, rfl⟩
    have hE := Lib.hid (show ckE xs = if allIn (-65536) 65536 xs then 0 else 6 from if_neg (by rw [HL.out]; omega))
    rw [hE.out]
    have t1 : decide ((8192 : Int) < (L : Int)) = false := decide_eq_false (by omega)
    clear h2 hlb hr
    cases hb : allIn (-65536) 65536 xs with
    | true =>
      have HB := Lib.hid hb; clear hb
      go_enter Try.func42, Try.ntmps42
      go_wp2_with (go_at_call 38; refine HWi.out.mono ?_; rw [HB.out]; rintro e w' ⟨rfl, rfl⟩)
      go_ret
      exact ⟨rfl, rfl⟩
    | false =>
      have HB := Lib.hid hb; clear hb
      go_enter Try.func42, Try.ntmps42
      go_wp2_with (go_at_call 38; refine HWi.out.mono ?_; rw [HB.out]; rintro e w' ⟨rfl, rfl⟩)
      go_ret
      exact ⟨rfl, rfl⟩
  · have hE := Lib.hid (show ckE xs = 1 from if_pos (.inl (by rw [HL.out]; omega)))
    rw [hE.out]
    have t0 : decide ((0 : Int) < (r : Int)) = true := decide_eq_true (by omega)
    have t0' : decide (0 < r) = true := decide_eq_true (by omega)
    clear h1 hlb hr
    go_enter Try.func42, Try.ntmps42
    go_wp2
    go_ret
    exact ⟨rfl, rfl⟩
end Go.Proofs.Ytmkbpocibpjjaaa
