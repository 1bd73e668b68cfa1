/- block: Laps, and that of the reference -/
import Derived.Test.YtmkbpocibpjjaaaLO
namespace Go.Proofs.Ytmkbpocibpjjaaa
open Go.RowKit Go.Shelf

/-- the laps between frames, the first n of them -/
def laL (fs : List Bool) (n : Nat) : List Int := (List.range n).map fun i => ((lapN fs (i + 1) : Nat) : Int)
theorem laL_length (fs : List Bool) (n : Nat) : (laL fs n).length = n := by simp [laL]
theorem laL_succ (fs : List Bool) (n : Nat) : laL fs (n + 1) = laL fs n ++ [((lapN fs (n + 1) : Nat) : Int)] := by simp [laL, List.range_succ]
def laE (fs : List Bool) : Int := if 64 < fs.length then 2 else 0
def laS (fs : List Bool) : List Int := if 64 < fs.length then [] else laL fs (fs.length - 1)
set_option maxRecDepth 100000 in
set_option maxHeartbeats 4000000 in
theorem Laps_any (v : Value) (fs : List Bool) (w : World) (h : Bls w v fs) : Calls Try.prog 26 #[v] w (EInts w (laS fs) (laE fs)) := by
  obtain ⟨a, cap, rfl⟩ := h.form
  have H := Lib.hid h
  have hlb := h.1
  obtain ⟨L, hL⟩ : ∃ L, fs.length = L := ⟨_, rfl⟩
  have HL := Lib.hid hL
  rw [hL] at H hlb ⊢
  clear h hL
  by_cases h1 : 64 < L
  · have HS := Lib.hid (show laS fs = [] from if_pos (by rw [HL.out]; exact h1))
    have HE := Lib.hid (show laE fs = 2 from if_pos (by rw [HL.out]; exact h1))
    rw [HS.out, HE.out]
    have T1 := Lib.hid (show decide ((64 : Int) < (L : Int)) = true from decide_eq_true (by omega))
    clear h1 hlb
    go_enter Try.func26, Try.ntmps26
    go_wp2_with (go_at_call 44; refine (fullb_any (.int .i64 0) _ _ _ _).mono ?_; rw [T1.out]; rintro e w' ⟨rfl, rfl⟩)
    go_ret2
    exact ⟨none, 0, 0, rfl, World.ownsRow_nil _ _ _ _, Upd.refl _ _⟩
  · have HS := Lib.hid (show laS fs = laL fs (L - 1) by unfold laS; rw [if_neg (by rw [HL.out]; exact h1), HL.out])
    have HE := Lib.hid (show laE fs = 0 from if_neg (by rw [HL.out]; exact h1))
    rw [HS.out, HE.out]
    obtain ⟨y, hy⟩ : ∃ y, L - 1 = y := ⟨_, rfl⟩
    have HY := Lib.hid (laL_length fs y)
    rw [hy]
    have T1 := Lib.hid (show decide ((64 : Int) < (L : Int)) = false from decide_eq_false (by omega))
    have hl : L ≤ 64 := by omega
    obtain ⟨W, hW⟩ : ∃ W, W = w.alloc (.cells #[.slice a L cap] 27) := ⟨_, rfl⟩
    have u0 : Upd NoB w W := by rw [hW]; exact (Upd.refl _ _).alloc _
    have bw : W.heap[w.heap.size]? = some (.cells #[.slice a L cap] 27 (0, 0)) := by rw [hW]; exact heap_alloc_new w _
    have HC := Lib.hid (fun (k : Nat) (hk : k ≤ 1000000) (w' : World) (u : Upd NoB W w') => laps1_any w.heap.size (.slice a L cap) fs k w' (u.cell (blk_cell bw 0) (noB _)) ((H.out.later u0).later u) hk (by rw [HL.out]; exact hl))
    have HW := Lib.hid hW; have U0 := Lib.hid u0
    clear hW u0 bw h1 hlb
    go_enter Try.func26, Try.ntmps26
    go_wp2_with (first | (go_at_call 44; refine (fullb_any (.int .i64 0) _ _ _ _).mono ?_; rw [T1.out]; rintro e w' ⟨rfl, rfl⟩) | (go_at_call 48; refine (lapsOf_any _ _ ⟨_, _, _, rfl⟩).mono ?_; rintro e w' ⟨rfl, rfl⟩; rw [← HW.out]))
    go_loopw [4, 6] (fun v i wr => ∃ k : Nat, k ≤ L ∧ i = .int .i64 (k + 1 : Nat) ∧ (k = 0 ∨ k + 1 ≤ L) ∧ wr.ownsRow W.heap.size 3 1 v k (i64s (laL fs k)) ∧ Upd NoB W wr) (fun _ i _ => L + 1 - (intOf i).toNat)
    case atStart => exact ⟨0, Nat.zero_le _, rfl, .inl rfl, World.ownsRow_nil _ _ _ _, Upd.refl _ _⟩
    case round =>
      obtain ⟨k, hk, rfl, hor, hown, hu⟩ := hrel
      obtain ⟨va, vc, rfl⟩ := row_form hown
      have HOw := Lib.hid hown; have HU := Lib.hid hu
      clear hown hu
      by_cases hlt : k + 1 < L
      · have HK := Lib.hid (HC.out (k + 1) (by omega) wr HU.out)
        have HT := Lib.hid (laL_succ fs k)
        have hlp := lapN_le fs (k + 1)
        generalize lapN fs (k + 1) = lp at *
        generalize laL fs k = ys at *
        have hbs := HU.out.size
        obtain ⟨z, hz⟩ : ∃ z, k + 1 = z := ⟨_, rfl⟩
        have HZ := Lib.hid hz
        rw [hz] at HK hlt ⊢
        have hkz : k ≤ z := by omega
        clear hz hor
        go_wp2_with fail
        refine HK.out.mono ?_
        rintro e w' ⟨rfl, rfl⟩
        go_wp2_with (at_builtin; refine wpList_push rfl (.tmp 17) (.tmp 21) rfl W.heap.size (.slice va k vc) k ys (lp : Int) rfl rfl HOw.out (by omega) hbs ?_; intro v' w' hown' u'; have R' := Lib.hid hown'; have U' := Lib.hid u'; clear hown' u')
        go_roundw
        case rel => exact ⟨z, by omega, by rw [← HZ.out]; go_num, .inr (by omega), by rw [← HZ.out, HT.out]; exact R'.out, upd_ge ((upd_ge' HU.out W.heap.size).trans U'.out (fun _ _ h => h))⟩
        case measure => simp [intOf]; omega
      · obtain rfl : k = y := by omega
        have t9 : decide (((k + 1 : Nat) : Int) < (L : Int)) = false := decide_eq_false (by omega)
        obtain ⟨z, hz⟩ : ∃ z, k + 1 = z := ⟨_, rfl⟩
        rw [hz] at t9 ⊢
        have t9n : decide (z < L) = false := decide_eq_false (by omega)
        clear hz hlt hor hk hy
        go_wp2_with fail
        go_ret2
        exact ⟨_, _, _, rfl, by rw [HY.out]; exact row_base HOw.out U0.out.size, U0.out.then HU.out⟩
set_option maxRecDepth 100000 in
set_option maxHeartbeats 4000000 in
theorem rLaps_any (v : Value) (fs : List Bool) (w : World) (h : Bls w v fs) : Calls Try.prog 27 #[v] w (EInts w (laS fs) (laE fs)) := by
  obtain ⟨a, cap, rfl⟩ := h.form
  have H := Lib.hid h
  have hlb := h.1
  obtain ⟨L, hL⟩ : ∃ L, fs.length = L := ⟨_, rfl⟩
  have HL := Lib.hid hL
  rw [hL] at H hlb ⊢
  clear h hL
  by_cases h1 : 64 < L
  · have HS := Lib.hid (show laS fs = [] from if_pos (by rw [HL.out]; exact h1))
    have HE := Lib.hid (show laE fs = 2 from if_pos (by rw [HL.out]; exact h1))
    rw [HS.out, HE.out]
    have t1 : decide ((64 : Int) < (L : Int)) = true := decide_eq_true (by omega)
    clear h1 hlb
    go_enter Try.func27, Try.ntmps27
    go_wp2_with fail
    go_ret2
    exact ⟨none, 0, 0, rfl, World.ownsRow_nil _ _ _ _, Upd.refl _ _⟩
  · have HS := Lib.hid (show laS fs = laL fs (L - 1) by unfold laS; rw [if_neg (by rw [HL.out]; exact h1), HL.out])
    have HE := Lib.hid (show laE fs = 0 from if_neg (by rw [HL.out]; exact h1))
    rw [HS.out, HE.out]
    obtain ⟨y, hy⟩ : ∃ y, L - 1 = y := ⟨_, rfl⟩
    have HY := Lib.hid (laL_length fs y)
    rw [hy]
    have t1 : decide ((64 : Int) < (L : Int)) = false := decide_eq_false (by omega)
    have hl : L ≤ 64 := by omega
    have HC := Lib.hid (fun (k : Nat) (hk : k ≤ 1000000) (w' : World) (u : Upd NoB w w') => rlap_any (.slice a L cap) fs k w' (H.out.later u) hk (by rw [HL.out]; exact hl))
    clear h1 hlb
    go_enter Try.func27, Try.ntmps27
    go_wp2_with fail
    go_loopw [4, 5] (fun v i wr => ∃ k : Nat, k ≤ L ∧ i = .int .i64 (k + 1 : Nat) ∧ (k = 0 ∨ k + 1 ≤ L) ∧ wr.ownsRow w.heap.size 3 1 v k (i64s (laL fs k)) ∧ Upd NoB w wr) (fun _ i _ => L + 1 - (intOf i).toNat)
    case atStart => exact ⟨0, Nat.zero_le _, rfl, .inl rfl, World.ownsRow_nil _ _ _ _, Upd.refl _ _⟩
    case round =>
      obtain ⟨k, hk, rfl, hor, hown, hu⟩ := hrel
      obtain ⟨va, vc, rfl⟩ := row_form hown
      have HOw := Lib.hid hown; have HU := Lib.hid hu
      clear hown hu
      by_cases hlt : k + 1 < L
      · have HK := Lib.hid (HC.out (k + 1) (by omega) wr HU.out)
        have HT := Lib.hid (laL_succ fs k)
        have hlp := lapN_le fs (k + 1)
        generalize lapN fs (k + 1) = lp at *
        generalize laL fs k = ys at *
        have hbs := HU.out.size
        obtain ⟨z, hz⟩ : ∃ z, k + 1 = z := ⟨_, rfl⟩
        have HZ := Lib.hid hz
        rw [hz] at HK hlt ⊢
        have hkz : k ≤ z := by omega
        clear hz hor
        go_wp2_with fail
        refine HK.out.mono ?_
        rintro e w' ⟨rfl, rfl⟩
        go_wp2_with (at_builtin; refine wpList_push rfl (.tmp 15) (.tmp 19) rfl w.heap.size (.slice va k vc) k ys (lp : Int) rfl rfl HOw.out (by omega) hbs ?_; intro v' w' hown' u'; have R' := Lib.hid hown'; have U' := Lib.hid u'; clear hown' u')
        go_roundw
        case rel => exact ⟨z, by omega, by rw [← HZ.out]; go_num, .inr (by omega), by rw [← HZ.out, HT.out]; exact R'.out, upd_ge ((upd_ge' HU.out w.heap.size).trans U'.out (fun _ _ h => h))⟩
        case measure => simp [intOf]; omega
      · obtain rfl : k = y := by omega
        have t9 : decide (((k + 1 : Nat) : Int) < (L : Int)) = false := decide_eq_false (by omega)
        obtain ⟨z, hz⟩ : ∃ z, k + 1 = z := ⟨_, rfl⟩
        rw [hz] at t9 ⊢
        have t9n : decide (z < L) = false := decide_eq_false (by omega)
        clear hz hlt hor hk hy
        go_wp2_with fail
        go_ret2
        exact ⟨_, _, _, rfl, by rw [HY.out]; exact HOw.out, HU.out⟩
end Go.Proofs.Ytmkbpocibpjjaaa
