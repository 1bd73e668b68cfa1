/- linear: the reference's Differ -/
import Derived.Test.YtopjjdfnnjgnlaaTUd
namespace Go.Proofs.Ytopjjdfnnjgnlaa
open Go.RowKit Go.Shelf

set_option maxRecDepth 100000 in
set_option maxHeartbeats 4000000 in
theorem rDiffer_any (sv : Value) (x : List Int) (k : Int) (w : World) (h : Ints w sv x) : Calls Try.prog 35 #[sv, .int .i64 k] w (EInts w (diS x k) (diE x k)) := by
  have HX := Lib.hid h
  have HC := Lib.hid (rlist_any sv x 2097152 w (by decide) h)
  by_cases hk : k < 0 ∨ 4 < k
  · have hE : diE x k = 1 := if_pos hk
    have hS : diS x k = [] := if_neg (by rw [hE]; decide)
    rw [hE, hS]
    obtain ⟨a, cap, rfl⟩ := h.form
    generalize x.length = L at *
    clear hE hS
    by_cases h1 : k < 0
    · have t1 : decide (k < 0) = true := decide_eq_true h1
      clear h hk h1
      go_enter Try.func35, Try.ntmps35
      go_wp2_with fail
      go_ret2
      exact ⟨none, 0, 0, rfl, World.ownsRow_nil _ _ _ _, Upd.refl _ _⟩
    · have t1 : decide (k < 0) = false := decide_eq_false h1
      have t2 : decide (4 < k) = true := decide_eq_true (by omega)
      clear h hk h1
      go_enter Try.func35, Try.ntmps35
      go_wp2_with fail
      go_ret2
      exact ⟨none, 0, 0, rfl, World.ownsRow_nil _ _ _ _, Upd.refl _ _⟩
  · have hE : diE x k = ckE 2097152 x := if_neg hk
    have t1 : decide (k < 0) = false := decide_eq_false (by omega)
    have t2 : decide (4 < k) = false := decide_eq_false (by omega)
    by_cases hc : ckE 2097152 x = 0
    · obtain ⟨hxl, hxi⟩ := ckE_ok hc
      obtain ⟨n, rfl⟩ : ∃ n : Nat, k = (n : Int) := ⟨k.toNat, by omega⟩
      have hn4 : n ≤ 4 := by omega
      have hS : diS x (n : Int) = difK n x := by
        have e : diS x (n : Int) = difK (n : Int).toNat x := if_pos (by rw [hE, hc])
        rw [e, Int.toNat_natCast]
      rw [hE, hc, hS]
      rw [hc] at HC
      have HDl := Lib.hid (fun i => difK_len i x)
      have HDi := Lib.hid (fun i (hi : i ≤ 4) => inM_mono (a := 2097152 * 2 ^ i) (b := 1099511627776) (by have := pow2_le hi; omega) (difK_in i hxi))
      have HDs := Lib.hid (fun i => (show difG 0 (difK i x) = difK (i + 1) x from rfl))
      have HD0 := Lib.hid (show difK 0 x = x from rfl)
      obtain ⟨a, cap, rfl⟩ := h.form
      obtain ⟨DK, hDK⟩ : ∃ DK : Nat → List Int, (fun i => difK i x) = DK := ⟨_, rfl⟩
      have hDKi : ∀ i, difK i x = DK i := fun i => by rw [← hDK]
      have HDl' := Lib.hid (fun i => (show (DK i).length = x.length by rw [← hDKi]; exact HDl.out i))
      have HDi' := Lib.hid (fun i (hi : i ≤ 4) => (show inM 1099511627776 (DK i) = true by rw [← hDKi]; exact HDi.out i hi))
      have HDs' := Lib.hid (fun i => (show difG 0 (DK i) = DK (i + 1) by rw [← hDKi, ← hDKi]; rfl))
      have HD0' := Lib.hid (show DK 0 = x by rw [← hDKi]; rfl)
      rw [hDKi n]
      obtain ⟨L, hL⟩ : ∃ L, x.length = L := ⟨_, rfl⟩
      rw [hL] at HX HC HDl' hxl ⊢
      have HL := Lib.hid hL
      clear h hk hE hc hxi hS HDl HDi HDs HD0 hDK hDKi hL
      go_enter Try.func35, Try.ntmps35
      go_wp2_with fail
      refine HC.out.mono ?_
      rintro e w1 ⟨rfl, rfl⟩
      go_wp2_with (at_builtin; refine wpList_copyI rfl _ _ rfl _ x rfl rfl HX.out ?_)
      intro v2 w2 r2 u2
      rw [HL.out] at r2
      have R2 := Lib.hid (show w2.ownsRow w.heap.size 3 1 v2 L (i64s (DK 0)) by rw [HD0'.out]; exact r2)
      have U2 := Lib.hid u2
      clear r2 u2
      go_wp2_with fail
      go_loopw [7, 23] (fun v i wr => ∃ j : Nat, j ≤ n ∧ i = .int .i64 j ∧ wr.ownsRow w.heap.size 3 1 v L (i64s (DK j)) ∧ Upd NoB w wr) (fun _ i _ => n - (intOf i).toNat)
      case atStart => exact ⟨0, Nat.zero_le _, rfl, R2.out, U2.out⟩
      case round =>
        obtain ⟨j, hj, rfl, hown, hu⟩ := hrel
        obtain ⟨va, vc, rfl⟩ := row_form hown
        have HO := Lib.hid hown; have HU := Lib.hid hu
        by_cases hlt : j < n
        · have HCall := Lib.hid (rdiff_any _ (DK j) wr (row_ints HO.out (HDl'.out j) (by omega)) (HDi'.out j (by omega)) (by rw [HDl'.out]; exact hxl))
          rw [HDs'.out] at HCall
          clear hown hu
          go_wp2_with fail
          refine HCall.out.mono ?_
          rintro e w5 ⟨v5, rfl, r5, u5⟩
          rw [HDl'.out] at r5
          obtain ⟨a5, c5, rfl⟩ := row_form r5
          have R5 := Lib.hid (row_base r5 HU.out.size); have U5 := Lib.hid (HU.out.then u5)
          clear r5 u5
          go_wp2_with fail
          go_roundw
          case rel => exact ⟨j + 1, by omega, by go_num, R5.out, U5.out⟩
          case measure => simp [intOf]; omega
        · obtain rfl : j = n := by omega
          clear hown hu hlt
          go_wp2_with fail
          go_ret2
          exact ⟨_, _, _, rfl, by rw [HDl'.out]; exact HO.out, HU.out⟩
    · have hS : diS x k = [] := if_neg (by rw [hE]; exact hc)
      rw [hS, hE]
      obtain ⟨C, hC⟩ : ∃ C, ckE 2097152 x = C := ⟨_, rfl⟩
      rw [hC] at HC hc ⊢
      have hc0 : (C == 0) = false := beq_eq_false_iff_ne.2 hc
      obtain ⟨a, cap, rfl⟩ := h.form
      generalize x.length = L at *
      clear h hk hE hc hS hC
      go_enter Try.func35, Try.ntmps35
      go_wp2_with fail
      refine HC.out.mono ?_
      rintro e w1 ⟨rfl, rfl⟩
      go_wp2_with fail
      go_ret2
      exact ⟨none, 0, 0, rfl, World.ownsRow_nil _ _ _ _, Upd.refl _ _⟩
end Go.Proofs.Ytopjjdfnnjgnlaa
