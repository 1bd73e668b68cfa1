/- calls of no writer and of no reader -/
import Derived.Test.YtdjaileeklhkmaaOpr
namespace Go.Proofs.Ytdjaileeklhkmaa
open Go.RowKit Go.Shelf

set_option maxRecDepth 100000 in
set_option maxHeartbeats 4000000 in
theorem lwrite_nil (x : OpD) (w : World) (hx : x.at w) :
    Calls Try.prog 14 #[.pointer none, x.val] w fun e w' => e = .returned (.int .i64 1) ∧ Upd NoB w w' := by
  obtain ⟨k, z, n, xsv, xz⟩ := x
  obtain ⟨sa, sc, hsv⟩ : ∃ sa sc, xsv = .slice sa xz.length sc := by obtain ⟨_, sa, sc, hsv, _⟩ := hx.2.1; exact ⟨sa, sc, hsv⟩
  subst hsv
  have hk : k ≤ 255 := hx.1
  have u1 : Upd NoB w (w.alloc (.cells #[.int .u8 k, .int .i64 z, .int .i64 n, .slice sa xz.length sc] 34)) := (Upd.refl _ _).alloc _
  have U1 := Lib.hid u1
  clear u1 hx
  change Calls _ _ #[.pointer none, .agg #[.int .u8 k, .int .i64 z, .int .i64 n, .slice sa xz.length sc]] w _
  have hkk : k % 6 = 0 ∨ k % 6 = 1 ∨ k % 6 = 2 ∨ k % 6 = 3 ∨ k % 6 = 4 ∨ k % 6 = 5 := by omega
  generalize hPost : (fun (e : Ending) (w' : World) => e = .returned (.int .i64 1) ∧ Upd NoB w w') = Post at *
  have HP := Lib.hid hPost; clear hPost
  rcases hkk with hq | hq | hq | hq | hq | hq
  · have t0 : (((k : Int) % 6) == 0) = true := beq_iff_eq.2 (by omega)
    clear hq
    go_enter Try.func14, Try.ntmps14
    go_wp2_with (go_at_call 45; refine (put_nil z n _).mono ?_; rintro e w2 ⟨rfl, rfl⟩)
    change Post (.returned (.int .i64 1)) _
    rw [← HP.out]
    exact ⟨rfl, U1.out⟩
  · have t0 : (((k : Int) % 6) == 0) = false := beq_eq_false_iff_ne.2 (by omega)
    have t1 : (((k : Int) % 6) == 1) = true := beq_iff_eq.2 (by omega)
    clear hq
    go_enter Try.func14, Try.ntmps14
    go_wp2_with (go_at_call 49; refine (signed_nil z n _).mono ?_; rintro e w2 ⟨rfl, rfl⟩)
    change Post (.returned (.int .i64 1)) _
    rw [← HP.out]
    exact ⟨rfl, U1.out⟩
  · have t0 : (((k : Int) % 6) == 0) = false := beq_eq_false_iff_ne.2 (by omega)
    have t1 : (((k : Int) % 6) == 1) = false := beq_eq_false_iff_ne.2 (by omega)
    have t2 : (((k : Int) % 6) == 2) = true := beq_iff_eq.2 (by omega)
    clear hq
    go_enter Try.func14, Try.ntmps14
    go_wp2_with (go_at_call 46; refine (unary_nil z _).mono ?_; rintro e w2 ⟨rfl, rfl⟩)
    change Post (.returned (.int .i64 1)) _
    rw [← HP.out]
    exact ⟨rfl, U1.out⟩
  · have t0 : (((k : Int) % 6) == 0) = false := beq_eq_false_iff_ne.2 (by omega)
    have t1 : (((k : Int) % 6) == 1) = false := beq_eq_false_iff_ne.2 (by omega)
    have t2 : (((k : Int) % 6) == 2) = false := beq_eq_false_iff_ne.2 (by omega)
    have t3 : (((k : Int) % 6) == 3) = true := beq_iff_eq.2 (by omega)
    clear hq
    go_enter Try.func14, Try.ntmps14
    go_wp2_with (go_at_call 48; refine (gamma_nil z _).mono ?_; rintro e w2 ⟨rfl, rfl⟩)
    change Post (.returned (.int .i64 1)) _
    rw [← HP.out]
    exact ⟨rfl, U1.out⟩
  · have t0 : (((k : Int) % 6) == 0) = false := beq_eq_false_iff_ne.2 (by omega)
    have t1 : (((k : Int) % 6) == 1) = false := beq_eq_false_iff_ne.2 (by omega)
    have t2 : (((k : Int) % 6) == 2) = false := beq_eq_false_iff_ne.2 (by omega)
    have t3 : (((k : Int) % 6) == 3) = false := beq_eq_false_iff_ne.2 (by omega)
    have t4 : (((k : Int) % 6) == 4) = true := beq_iff_eq.2 (by omega)
    clear hq
    go_enter Try.func14, Try.ntmps14
    go_wp2_with (go_at_call 47; refine (align_nil z _).mono ?_; rintro e w2 ⟨rfl, rfl⟩)
    change Post (.returned (.int .i64 1)) _
    rw [← HP.out]
    exact ⟨rfl, U1.out⟩
  · have t0 : (((k : Int) % 6) == 0) = false := beq_eq_false_iff_ne.2 (by omega)
    have t1 : (((k : Int) % 6) == 1) = false := beq_eq_false_iff_ne.2 (by omega)
    have t2 : (((k : Int) % 6) == 2) = false := beq_eq_false_iff_ne.2 (by omega)
    have t3 : (((k : Int) % 6) == 3) = false := beq_eq_false_iff_ne.2 (by omega)
    have t4 : (((k : Int) % 6) == 4) = false := beq_eq_false_iff_ne.2 (by omega)
    clear hq
    go_enter Try.func14, Try.ntmps14
    go_wp2_with (go_at_call 50; refine (append_nil sa xz.length sc n _).mono ?_; rintro e w2 ⟨rfl, rfl⟩)
    change Post (.returned (.int .i64 1)) _
    rw [← HP.out]
    exact ⟨rfl, U1.out⟩

set_option maxRecDepth 100000 in
set_option maxHeartbeats 4000000 in
theorem lread_nil (x : OpD) (w : World) (hx : x.at w) :
    Calls Try.prog 24 #[.pointer none, x.val] w fun e w' => e = .returned (.agg #[.int .i64 0, .slice none 0 0, .int .i64 (if x.k % 7 = 4 then 0 else 1), .int .i64 0, .int .i64 0]) ∧ Upd NoB w w' := by
  obtain ⟨k, z, n, xsv, xz⟩ := x
  obtain ⟨sa, sc, hsv⟩ : ∃ sa sc, xsv = .slice sa xz.length sc := by obtain ⟨_, sa, sc, hsv, _⟩ := hx.2.1; exact ⟨sa, sc, hsv⟩
  subst hsv
  have hk : k ≤ 255 := hx.1
  have u1 : Upd NoB w ((w.alloc (.cells #[.int .u8 k, .int .i64 z, .int .i64 n, .slice sa xz.length sc] 34)).alloc (.cells #[.int .i64 0, .slice none 0 0, .int .i64 0, .int .i64 0, .int .i64 0] 50)) := ((Upd.refl _ _).alloc _).alloc _
  have hc := heap_alloc_two w (.cells #[.int .u8 k, .int .i64 z, .int .i64 n, .slice sa xz.length sc] 34) (.cells #[.int .i64 0, .slice none 0 0, .int .i64 0, .int .i64 0, .int .i64 0] 50)
  have U1 := Lib.hid u1; have HC := Lib.hid hc
  clear u1 hx hc
  change Calls _ _ #[.pointer none, .agg #[.int .u8 k, .int .i64 z, .int .i64 n, .slice sa xz.length sc]] w _
  have hkk : k % 7 = 0 ∨ k % 7 = 1 ∨ k % 7 = 2 ∨ k % 7 = 3 ∨ k % 7 = 4 ∨ k % 7 = 5 ∨ k % 7 = 6 := by omega
  generalize hPost : (fun (e : Ending) (w' : World) => e = .returned (.agg #[.int .i64 0, .slice none 0 0, .int .i64 (if (OpD.mk k z n (.slice sa xz.length sc) xz).k % 7 = 4 then 0 else 1), .int .i64 0, .int .i64 0]) ∧ Upd NoB w w') = Post at *
  have HP := Lib.hid hPost; clear hPost
  rcases hkk with hq | hq | hq | hq | hq | hq | hq
  · have HQ := Lib.hid hq
    have t0 : (((k : Int) % 7) == 0) = true := beq_iff_eq.2 (by omega)
    clear hq
    go_enter Try.func24, Try.ntmps24
    go_wp2_with fail
    refine (get_nil n _).mono ?_
    rintro e w2 ⟨rfl, rfl⟩
    generalize (w.alloc (.cells #[.int .u8 k, .int .i64 z, .int .i64 n, .slice sa xz.length sc] 34)).alloc (.cells #[.int .i64 0, .slice none 0 0, .int .i64 0, .int .i64 0, .int .i64 0] 50) = w1 at *
    go_wp2_with (first | (go_at_call 26; refine (at_nil _).mono ?_; rintro e w2 ⟨rfl, rfl⟩) | (go_at_call 28; refine (left_nil _).mono ?_; rintro e w2 ⟨rfl, rfl⟩; have f0 := blk_cell HC.out 0; have f1 := blk_cell HC.out 1; have f2 := blk_cell HC.out 2; have f3 := blk_cell HC.out 3; have f4 := blk_cell HC.out 4; have g0 := blk_free HC.out 0; have g1 := blk_free HC.out 1; have g2 := blk_free HC.out 2; have g3 := blk_free HC.out 3; have g4 := blk_free HC.out 4))
    refine bodyPost_ret (results_cell_row rfl _ _ (w.heap.size + 1) 50 _ (0, 0) _ rfl (reply_heap w1 _ _ _ _ _ _ _ _ _ _ _ _ HC.out) Try.underlying50 rfl reply_size) rfl ?_
    rw [← HP.out]
    have hq := HQ.out
    have uf := reply_upd w1 (w.heap.size + 1) (.slice none 0 0) (.int .i64 0) (.int .i64 1) (.int .i64 0) (.int .i64 0)
    refine ⟨by simp [hq], U1.out.trans uf (fun i hi h => by exfalso; have h : i = w.heap.size + 1 := h; omega)⟩
  · have HQ := Lib.hid hq
    have t0 : (((k : Int) % 7) == 0) = false := beq_eq_false_iff_ne.2 (by omega)
    have t1 : (((k : Int) % 7) == 1) = true := beq_iff_eq.2 (by omega)
    clear hq
    go_enter Try.func24, Try.ntmps24
    go_wp2_with fail
    refine (rsigned_nil n _).mono ?_
    rintro e w2 ⟨rfl, rfl⟩
    generalize (w.alloc (.cells #[.int .u8 k, .int .i64 z, .int .i64 n, .slice sa xz.length sc] 34)).alloc (.cells #[.int .i64 0, .slice none 0 0, .int .i64 0, .int .i64 0, .int .i64 0] 50) = w1 at *
    go_wp2_with (first | (go_at_call 26; refine (at_nil _).mono ?_; rintro e w2 ⟨rfl, rfl⟩) | (go_at_call 28; refine (left_nil _).mono ?_; rintro e w2 ⟨rfl, rfl⟩; have f0 := blk_cell HC.out 0; have f1 := blk_cell HC.out 1; have f2 := blk_cell HC.out 2; have f3 := blk_cell HC.out 3; have f4 := blk_cell HC.out 4; have g0 := blk_free HC.out 0; have g1 := blk_free HC.out 1; have g2 := blk_free HC.out 2; have g3 := blk_free HC.out 3; have g4 := blk_free HC.out 4))
    refine bodyPost_ret (results_cell_row rfl _ _ (w.heap.size + 1) 50 _ (0, 0) _ rfl (reply_heap w1 _ _ _ _ _ _ _ _ _ _ _ _ HC.out) Try.underlying50 rfl reply_size) rfl ?_
    rw [← HP.out]
    have hq := HQ.out
    have uf := reply_upd w1 (w.heap.size + 1) (.slice none 0 0) (.int .i64 0) (.int .i64 1) (.int .i64 0) (.int .i64 0)
    refine ⟨by simp [hq], U1.out.trans uf (fun i hi h => by exfalso; have h : i = w.heap.size + 1 := h; omega)⟩
  · have HQ := Lib.hid hq
    have t0 : (((k : Int) % 7) == 0) = false := beq_eq_false_iff_ne.2 (by omega)
    have t1 : (((k : Int) % 7) == 1) = false := beq_eq_false_iff_ne.2 (by omega)
    have t2 : (((k : Int) % 7) == 2) = true := beq_iff_eq.2 (by omega)
    clear hq
    go_enter Try.func24, Try.ntmps24
    go_wp2_with fail
    refine (runary_nil n _).mono ?_
    rintro e w2 ⟨rfl, rfl⟩
    generalize (w.alloc (.cells #[.int .u8 k, .int .i64 z, .int .i64 n, .slice sa xz.length sc] 34)).alloc (.cells #[.int .i64 0, .slice none 0 0, .int .i64 0, .int .i64 0, .int .i64 0] 50) = w1 at *
    go_wp2_with (first | (go_at_call 26; refine (at_nil _).mono ?_; rintro e w2 ⟨rfl, rfl⟩) | (go_at_call 28; refine (left_nil _).mono ?_; rintro e w2 ⟨rfl, rfl⟩; have f0 := blk_cell HC.out 0; have f1 := blk_cell HC.out 1; have f2 := blk_cell HC.out 2; have f3 := blk_cell HC.out 3; have f4 := blk_cell HC.out 4; have g0 := blk_free HC.out 0; have g1 := blk_free HC.out 1; have g2 := blk_free HC.out 2; have g3 := blk_free HC.out 3; have g4 := blk_free HC.out 4))
    refine bodyPost_ret (results_cell_row rfl _ _ (w.heap.size + 1) 50 _ (0, 0) _ rfl (reply_heap w1 _ _ _ _ _ _ _ _ _ _ _ _ HC.out) Try.underlying50 rfl reply_size) rfl ?_
    rw [← HP.out]
    have hq := HQ.out
    have uf := reply_upd w1 (w.heap.size + 1) (.slice none 0 0) (.int .i64 0) (.int .i64 1) (.int .i64 0) (.int .i64 0)
    refine ⟨by simp [hq], U1.out.trans uf (fun i hi h => by exfalso; have h : i = w.heap.size + 1 := h; omega)⟩
  · have HQ := Lib.hid hq
    have t0 : (((k : Int) % 7) == 0) = false := beq_eq_false_iff_ne.2 (by omega)
    have t1 : (((k : Int) % 7) == 1) = false := beq_eq_false_iff_ne.2 (by omega)
    have t2 : (((k : Int) % 7) == 2) = false := beq_eq_false_iff_ne.2 (by omega)
    have t3 : (((k : Int) % 7) == 3) = true := beq_iff_eq.2 (by omega)
    clear hq
    go_enter Try.func24, Try.ntmps24
    go_wp2_with fail
    refine (rgamma_nil _).mono ?_
    rintro e w2 ⟨rfl, rfl⟩
    generalize (w.alloc (.cells #[.int .u8 k, .int .i64 z, .int .i64 n, .slice sa xz.length sc] 34)).alloc (.cells #[.int .i64 0, .slice none 0 0, .int .i64 0, .int .i64 0, .int .i64 0] 50) = w1 at *
    go_wp2_with (first | (go_at_call 26; refine (at_nil _).mono ?_; rintro e w2 ⟨rfl, rfl⟩) | (go_at_call 28; refine (left_nil _).mono ?_; rintro e w2 ⟨rfl, rfl⟩; have f0 := blk_cell HC.out 0; have f1 := blk_cell HC.out 1; have f2 := blk_cell HC.out 2; have f3 := blk_cell HC.out 3; have f4 := blk_cell HC.out 4; have g0 := blk_free HC.out 0; have g1 := blk_free HC.out 1; have g2 := blk_free HC.out 2; have g3 := blk_free HC.out 3; have g4 := blk_free HC.out 4))
    refine bodyPost_ret (results_cell_row rfl _ _ (w.heap.size + 1) 50 _ (0, 0) _ rfl (reply_heap w1 _ _ _ _ _ _ _ _ _ _ _ _ HC.out) Try.underlying50 rfl reply_size) rfl ?_
    rw [← HP.out]
    have hq := HQ.out
    have uf := reply_upd w1 (w.heap.size + 1) (.slice none 0 0) (.int .i64 0) (.int .i64 1) (.int .i64 0) (.int .i64 0)
    refine ⟨by simp [hq], U1.out.trans uf (fun i hi h => by exfalso; have h : i = w.heap.size + 1 := h; omega)⟩
  · have HQ := Lib.hid hq
    have t0 : (((k : Int) % 7) == 0) = false := beq_eq_false_iff_ne.2 (by omega)
    have t1 : (((k : Int) % 7) == 1) = false := beq_eq_false_iff_ne.2 (by omega)
    have t2 : (((k : Int) % 7) == 2) = false := beq_eq_false_iff_ne.2 (by omega)
    have t3 : (((k : Int) % 7) == 3) = false := beq_eq_false_iff_ne.2 (by omega)
    have t4 : (((k : Int) % 7) == 4) = true := beq_iff_eq.2 (by omega)
    clear hq
    go_enter Try.func24, Try.ntmps24
    go_wp2_with fail
    refine (ralign_nil _).mono ?_
    rintro e w2 ⟨rfl, rfl⟩
    generalize (w.alloc (.cells #[.int .u8 k, .int .i64 z, .int .i64 n, .slice sa xz.length sc] 34)).alloc (.cells #[.int .i64 0, .slice none 0 0, .int .i64 0, .int .i64 0, .int .i64 0] 50) = w1 at *
    go_wp2_with (first | (go_at_call 26; refine (at_nil _).mono ?_; rintro e w2 ⟨rfl, rfl⟩) | (go_at_call 28; refine (left_nil _).mono ?_; rintro e w2 ⟨rfl, rfl⟩; have f0 := blk_cell HC.out 0; have f1 := blk_cell HC.out 1; have f2 := blk_cell HC.out 2; have f3 := blk_cell HC.out 3; have f4 := blk_cell HC.out 4; have g0 := blk_free HC.out 0; have g1 := blk_free HC.out 1; have g2 := blk_free HC.out 2; have g3 := blk_free HC.out 3; have g4 := blk_free HC.out 4))
    refine bodyPost_ret (results_cell_row rfl _ _ (w.heap.size + 1) 50 _ (0, 0) _ rfl (reply_heap w1 _ _ _ _ _ _ _ _ _ _ _ _ HC.out) Try.underlying50 rfl reply_size) rfl ?_
    rw [← HP.out]
    have hq := HQ.out
    have uf := reply_upd w1 (w.heap.size + 1) (.slice none 0 0) (.int .i64 0) (.int .i64 0) (.int .i64 0) (.int .i64 0)
    refine ⟨by simp [hq], U1.out.trans uf (fun i hi h => by exfalso; have h : i = w.heap.size + 1 := h; omega)⟩
  · have HQ := Lib.hid hq
    have t0 : (((k : Int) % 7) == 0) = false := beq_eq_false_iff_ne.2 (by omega)
    have t1 : (((k : Int) % 7) == 1) = false := beq_eq_false_iff_ne.2 (by omega)
    have t2 : (((k : Int) % 7) == 2) = false := beq_eq_false_iff_ne.2 (by omega)
    have t3 : (((k : Int) % 7) == 3) = false := beq_eq_false_iff_ne.2 (by omega)
    have t4 : (((k : Int) % 7) == 4) = false := beq_eq_false_iff_ne.2 (by omega)
    have t5 : (((k : Int) % 7) == 5) = true := beq_iff_eq.2 (by omega)
    clear hq
    go_enter Try.func24, Try.ntmps24
    go_wp2_with fail
    refine (take_nil n _).mono ?_
    rintro e w2 ⟨rfl, rfl⟩
    generalize (w.alloc (.cells #[.int .u8 k, .int .i64 z, .int .i64 n, .slice sa xz.length sc] 34)).alloc (.cells #[.int .i64 0, .slice none 0 0, .int .i64 0, .int .i64 0, .int .i64 0] 50) = w1 at *
    go_wp2_with (first | (go_at_call 26; refine (at_nil _).mono ?_; rintro e w2 ⟨rfl, rfl⟩) | (go_at_call 28; refine (left_nil _).mono ?_; rintro e w2 ⟨rfl, rfl⟩; have f0 := blk_cell HC.out 0; have f1 := blk_cell HC.out 1; have f2 := blk_cell HC.out 2; have f3 := blk_cell HC.out 3; have f4 := blk_cell HC.out 4; have g0 := blk_free HC.out 0; have g1 := blk_free HC.out 1; have g2 := blk_free HC.out 2; have g3 := blk_free HC.out 3; have g4 := blk_free HC.out 4))
    refine bodyPost_ret (results_cell_row rfl _ _ (w.heap.size + 1) 50 _ (0, 0) _ rfl (reply_heap w1 _ _ _ _ _ _ _ _ _ _ _ _ HC.out) Try.underlying50 rfl reply_size) rfl ?_
    rw [← HP.out]
    have hq := HQ.out
    have uf := reply_upd w1 (w.heap.size + 1) (.slice none 0 0) (.int .i64 0) (.int .i64 1) (.int .i64 0) (.int .i64 0)
    refine ⟨by simp [hq], U1.out.trans uf (fun i hi h => by exfalso; have h : i = w.heap.size + 1 := h; omega)⟩
  · have HQ := Lib.hid hq
    have t0 : (((k : Int) % 7) == 0) = false := beq_eq_false_iff_ne.2 (by omega)
    have t1 : (((k : Int) % 7) == 1) = false := beq_eq_false_iff_ne.2 (by omega)
    have t2 : (((k : Int) % 7) == 2) = false := beq_eq_false_iff_ne.2 (by omega)
    have t3 : (((k : Int) % 7) == 3) = false := beq_eq_false_iff_ne.2 (by omega)
    have t4 : (((k : Int) % 7) == 4) = false := beq_eq_false_iff_ne.2 (by omega)
    have t5 : (((k : Int) % 7) == 5) = false := beq_eq_false_iff_ne.2 (by omega)
    clear hq
    go_enter Try.func24, Try.ntmps24
    go_wp2_with fail
    refine (seek_nil n _).mono ?_
    rintro e w2 ⟨rfl, rfl⟩
    generalize (w.alloc (.cells #[.int .u8 k, .int .i64 z, .int .i64 n, .slice sa xz.length sc] 34)).alloc (.cells #[.int .i64 0, .slice none 0 0, .int .i64 0, .int .i64 0, .int .i64 0] 50) = w1 at *
    go_wp2_with (first | (go_at_call 26; refine (at_nil _).mono ?_; rintro e w2 ⟨rfl, rfl⟩) | (go_at_call 28; refine (left_nil _).mono ?_; rintro e w2 ⟨rfl, rfl⟩; have f0 := blk_cell HC.out 0; have f1 := blk_cell HC.out 1; have f2 := blk_cell HC.out 2; have f3 := blk_cell HC.out 3; have f4 := blk_cell HC.out 4; have g0 := blk_free HC.out 0; have g1 := blk_free HC.out 1; have g2 := blk_free HC.out 2; have g3 := blk_free HC.out 3; have g4 := blk_free HC.out 4))
    refine bodyPost_ret (results_cell_row rfl _ _ (w.heap.size + 1) 50 _ (0, 0) _ rfl (reply_heap w1 _ _ _ _ _ _ _ _ _ _ _ _ HC.out) Try.underlying50 rfl reply_size) rfl ?_
    rw [← HP.out]
    have hq := HQ.out
    have uf := reply_upd w1 (w.heap.size + 1) (.slice none 0 0) (.int .i64 0) (.int .i64 1) (.int .i64 0) (.int .i64 0)
    refine ⟨by simp [hq], U1.out.trans uf (fun i hi h => by exfalso; have h : i = w.heap.size + 1 := h; omega)⟩
end Go.Proofs.Ytdjaileeklhkmaa
