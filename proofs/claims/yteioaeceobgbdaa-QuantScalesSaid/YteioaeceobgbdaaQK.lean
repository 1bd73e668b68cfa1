/- quant: Least -/
import Derived.Test.YteioaeceobgbdaaQJ
namespace Go.Proofs.Yteioaeceobgbdaa
open Go.RowKit Go.Shelf

def lstV (xs : List Int) : Int := if ckQ 2097152 xs = 0 then ((lsN (mxL (xs.map szI)) : Nat) : Int) else 0
set_option maxRecDepth 100000 in
set_option maxHeartbeats 4000000 in
theorem Least_any (sv : Value) (xs : List Int) (w : World) (h : Ints w sv xs) : Calls Try.prog 27 #[sv] w fun e w' => e = .returned (.tuple #[.int .i64 (lstV xs), .int .i64 (ckQ 2097152 xs)]) ∧ Upd NoB w w' := by
  have HC := Lib.hid (checkList_any sv xs 2097152 w (by decide) h)
  by_cases hE : ckQ 2097152 xs = 0
  · obtain ⟨hl, hin⟩ := ckQ_ok hE
    have HS := Lib.hid (show lstV xs = ((lsN (mxL (xs.map szI)) : Nat) : Int) from if_pos hE)
    rw [HS.out, hE]
    rw [hE] at HC
    have HZ := Lib.hid (fun W (u : Upd NoB w W) => sizesOf_any sv xs W (h.later u) hl hin)
    have HG := Lib.hid (fun v W h => greatest_any v (xs.map szI) W h)
    have HLd := Lib.hid (fun W => (show Calls Try.prog 46 #[.int .i64 0] W fun e w' => ∃ b, e = .returned (.agg #[.int .i64 0, .int .i64 (stepN 0 : Nat), .pointer (some ⟨b, 0, none⟩)]) ∧ W.heap.size ≤ b ∧ Memo w' b ∧ Upd NoB W w' from ladderOf_any 0 W (by omega)))
    generalize xs.map szI = ys at *
    generalize mxL ys = g at *
    have HLs := Lib.hid (fun b B1 B2 W (h : Memo W b) hc hc2 h1 h2 => leastS_any 0 (stepN 0 : Nat) b B1 B2 g W h hc hc2 h1 h2)
    generalize lsN g = R at *
    generalize stepN 0 = t at *
    obtain ⟨a, cap, rfl⟩ := h.form
    generalize xs.length = L at *
    clear h hE hl hin HS
    go_enter Try.func27, Try.ntmps27
    go_wp2_with fail
    refine HC.out.mono ?_
    rintro e w1 ⟨rfl, u1⟩
    have U1 := Lib.hid u1
    clear u1
    go_wp2_with fail
    refine (HZ.out w1 U1.out).mono ?_
    rintro e w2 ⟨za, zc, rfl, i2, u2⟩
    have I2 := Lib.hid i2; have U2 := Lib.hid (U1.out.then u2)
    clear i2 u2
    go_wp2_with fail
    refine (HG.out _ _ I2.out).mono ?_
    rintro e w3 ⟨rfl, hw3⟩
    rw [hw3]
    clear hw3 w3
    go_wp2_with fail
    refine (HLd.out _).mono ?_
    rintro e w4 ⟨b, rfl, hb, m4, u4⟩
    have k2 := u4.heap (heap_alloc_new w2 (.cells #[.int .i64 g] 3)) (noB _)
    have ub : Upd NoB w2 (w2.alloc (.cells #[.int .i64 g] 3)) := (Upd.refl _ _).alloc _
    have U4 := Lib.hid ((U2.out.then ub).then u4)
    have hne2 : w2.heap.size ≠ b := by simp at hb; omega
    have HB := Lib.hid (show w.heap.size ≤ b from Nat.le_trans (U2.out.then ub).size hb)
    have u5 : Upd NoB w4 (w4.alloc (.cells #[.int .i64 0, .int .i64 (t : Nat), .pointer (some ⟨b, 0, none⟩)] 57)) := (Upd.refl _ _).alloc _
    have c5 := heap_alloc_new w4 (.cells #[.int .i64 0, .int .i64 (t : Nat), .pointer (some ⟨b, 0, none⟩)] 57)
    have HF := Lib.hid (HLs.out b w4.heap.size w2.heap.size _ (m4.later u5) c5 (blk_cell (u5.heap k2 (noB _)) 0) (by have := m4.lt; omega) hne2)
    have U5 := Lib.hid (U4.out.then u5)
    obtain ⟨⟨d0, d1, d2⟩, f0, f1, f2⟩ := cells3 c5
    clear hb m4 u4 k2 ub hne2 u5 c5
    go_wp2_with fail
    refine HF.out.mono ?_
    rintro e w6 ⟨rfl, m6, u6⟩
    have U6 := Lib.hid (U5.out.trans u6 (fun j hj e => by have := HB.out; have e : j = b := e; omega))
    clear m6 u6
    go_wp2_with fail
    go_ret2
    exact ⟨rfl, U6.out⟩
  · have HS := Lib.hid (show lstV xs = 0 from if_neg hE)
    rw [HS.out]
    generalize ckQ 2097152 xs = E at *
    obtain ⟨a, cap, rfl⟩ := h.form
    have t1 : (E != 0) = true := bne_iff_ne.2 hE
    generalize xs.length = L at *
    clear h hE
    go_enter Try.func27, Try.ntmps27
    go_wp2_with fail
    refine HC.out.mono ?_
    rintro e w1 ⟨rfl, u1⟩
    have U1 := Lib.hid u1
    clear u1
    go_wp2_with fail
    go_ret2
    exact ⟨rfl, U1.out⟩
end Go.Proofs.Yteioaeceobgbdaa
