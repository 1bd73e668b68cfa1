/- block: the law of Frames and Exact -/
import Derived.Test.YtmkbpocibpjjaaaLO
namespace Go.Proofs.Ytmkbpocibpjjaaa
open Go.RowKit Go.Shelf

set_option maxRecDepth 100000 in
set_option maxHeartbeats 4000000 in
theorem frames_law (v : Value) (fs : List Bool) (i x y : Int) (w : World) (h : Bls w v fs) :
    Calls Try.prog 6 #[v, .int .i64 i, .agg #[.int .i64 x, .int .i64 y]] w fun e w' => e = .returned (.bool true) ∧ Upd NoB w w' := by
  obtain ⟨a, cap, rfl⟩ := h.form
  have H := Lib.hid h
  obtain ⟨L, hL⟩ : ∃ L, fs.length = L := ⟨_, rfl⟩
  rw [hL] at H ⊢
  obtain ⟨W, hW⟩ : ∃ W, W = w.alloc (.cells #[.int .i64 x, .int .i64 y] 35) := ⟨_, rfl⟩
  have u0 : Upd NoB w W := by rw [hW]; exact (Upd.refl _ _).alloc _
  have bw : W.heap[w.heap.size]? = some (.cells #[.int .i64 x, .int .i64 y] 35 (0, 0)) := by rw [hW]; exact heap_alloc_new w _
  have HW := Lib.hid hW; have U0 := Lib.hid u0; have BW := Lib.hid bw
  have HX := Lib.hid (H.out.later u0)
  clear h hL hW u0 bw
  by_cases h1 : 100 < L
  · have t1 : decide ((100 : Int) < (L : Int)) = true := decide_eq_true (by omega)
    clear h1
    go_enter Try.func6, Try.ntmps6
    go_wp2_with fail
    rw [← HW.out]
    refine (awake_any W).mono ?_
    rintro e w' ⟨rfl, u9⟩
    have U9 := Lib.hid (U0.out.then u9); clear u9
    go_wp2_with fail
    go_ret
    exact ⟨rfl, U9.out⟩
  have t1 : decide ((100 : Int) < (L : Int)) = false := decide_eq_false (by omega)
  have HF1 := Lib.hid (Frames_any (.slice a L cap) fs i W HX.out)
  have HF2 := Lib.hid (fun w' (u : Upd NoB W w') => rFrames_any (.slice a L cap) fs i w' (HX.out.later u))
  have HE1 := Lib.hid (fun w' (u : Upd NoB W w') => Exact_any (.slice a L cap) fs x y w' (HX.out.later u))
  have HE2 := Lib.hid (fun w' (u : Upd NoB W w') => rExact_any (.slice a L cap) fs x y w' (HX.out.later u))
  generalize frF fs i = a1 at *
  generalize frT fs i = a2 at *
  generalize frE fs i = a3 at *
  generalize exF fs x y = a4 at *
  generalize exL fs x y = a5 at *
  generalize exE fs x y = a6 at *
  clear h1
  go_enter Try.func6, Try.ntmps6
  go_wp2_with fail
  rw [← HW.out]
  (with_reducible refine HF1.out.mono ?_)
  rintro e w1 ⟨rfl, u1⟩
  have U1 := Lib.hid u1; clear u1
  go_wp2_with fail
  (with_reducible refine (HF2.out w1 U1.out).mono ?_)
  rintro e w' ⟨rfl, rfl⟩
  have d0 : w1.cell? ⟨w.heap.size, 0, none⟩ = some (.int .i64 x) := blk_cell (U1.out.heap BW.out (noB _)) 0
  have d1 : w1.cell? ⟨w.heap.size, 1, none⟩ = some (.int .i64 y) := blk_cell (U1.out.heap BW.out (noB _)) 1
  go_wp2_with fail
  (with_reducible refine (HE1.out w1 U1.out).mono ?_)
  rintro e w2 ⟨rfl, u2⟩
  have U2 := Lib.hid (U1.out.then u2); clear u2 d0 d1
  have d0 : w2.cell? ⟨w.heap.size, 0, none⟩ = some (.int .i64 x) := blk_cell (U2.out.heap BW.out (noB _)) 0
  have d1 : w2.cell? ⟨w.heap.size, 1, none⟩ = some (.int .i64 y) := blk_cell (U2.out.heap BW.out (noB _)) 1
  go_wp2_with fail
  (with_reducible refine (HE2.out w2 U2.out).mono ?_)
  rintro e w3 ⟨rfl, u3⟩
  have U3 := Lib.hid (U2.out.then u3); clear u3 d0 d1
  go_wp2_with (go_at_call 11; refine (awake_any _).mono ?_; rintro e w' ⟨rfl, u9⟩; have U9 := Lib.hid u9; clear u9)
  go_ret
  exact ⟨rfl, (U0.out.then U3.out).then U9.out⟩
end Go.Proofs.Ytmkbpocibpjjaaa
