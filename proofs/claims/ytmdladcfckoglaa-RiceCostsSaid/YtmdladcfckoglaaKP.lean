/- rice: Order, and the reference's -/
import Derived.Test.YtmdladcfckoglaaKO
namespace Go.Proofs.Ytmdladcfckoglaa
open Go.RowKit Go.Shelf

set_option maxRecDepth 100000 in
set_option maxHeartbeats 2000000 in
theorem layoutOf_any (xv : Value) (xs : List Int) (w : World) (h : Ints w xv xs) (hn : NumL xs) :
    Calls Try.prog 60 #[xv] w fun e w' => ∃ a n c, e = .returned (.agg #[.int .i64 (ord xs : Nat), .slice a n c, .int .i64 (whole xs (ord xs) : Nat)]) ∧ Upd NoB w w' := by
  obtain ⟨xa, cap, rfl⟩ := h.form
  obtain ⟨W, hW⟩ : ∃ W, W = (w.alloc (.cells #[.int .i64 0, .slice none 0 0, .int .i64 0] 76)).alloc (.cells #[.slice xa xs.length cap] 27) := ⟨_, rfl⟩
  have u0 : Upd NoB w W := by rw [hW]; exact ((Upd.refl _ _).alloc _).alloc _
  have b0 : W.heap[w.heap.size]? = some (.cells #[.int .i64 0, .slice none 0 0, .int .i64 0] 76 (0, 0)) := by rw [hW]; exact heap_alloc2_old w _ _
  have b1 : W.heap[w.heap.size + 1]? = some (.cells #[.slice xa xs.length cap] 27 (0, 0)) := by rw [hW]; exact heap_alloc2_new w _ _
  have HL := Lib.hid (leastL_any (w.heap.size + 1) xa cap xs W hn (h.later u0) (blk_cell b1 0))
  have HLay := Lib.hid (fun w' => layouts_any xa xs.length cap w')
  have HW := Lib.hid hW; have U0 := Lib.hid u0; have B0 := Lib.hid b0
  clear h hn hW u0 b0 b1
  generalize xs.length = L at *
  obtain ⟨z, hz⟩ : ∃ z, whole xs (ord xs) = z := ⟨_, rfl⟩
  obtain ⟨o, ho⟩ : ∃ o, ord xs = o := ⟨_, rfl⟩
  rw [hz, ho] at HL ⊢
  clear hz ho
  go_enter Try.func60, Try.ntmps60
  go_wp2_with fail
  refine (HLay.out _).mono ?_
  rintro e w1 ⟨rfl, rfl⟩
  go_wp2_with fail
  rw [← HW.out]
  refine HL.out.mono ?_
  rintro e w2 ⟨a, n, c, rfl, u2⟩
  have c2 := u2.heap B0.out (noB _)
  obtain ⟨d0, d1, d2⟩ := cells3 c2
  have f0 := blk_free c2 0
  have f1 := blk_free c2 1
  have f2 := blk_free c2 2
  have C2 := Lib.hid c2; have U2 := Lib.hid (U0.out.then u2)
  clear c2 u2
  go_wp2
  have hheap : (((w2.setCell ⟨w.heap.size, 0, none⟩ (.int .i64 (o : Nat))).setCell ⟨w.heap.size, 1, none⟩ (.slice a n c)).setCell ⟨w.heap.size, 2, none⟩ (.int .i64 (z : Nat))).heap[w.heap.size]? = some (.cells #[.int .i64 (o : Nat), .slice a n c, .int .i64 (z : Nat)] 76 (0, 0)) :=
    block_set (block_set (block_set C2.out _) _) _
  refine bodyPost_ret (results_cell_row rfl _ _ w.heap.size 76 _ (0, 0) _ rfl hheap Try.underlying76 rfl (by kernel_rfl)) rfl ⟨a, n, c, rfl, ?_⟩
  have hall : Upd (fun k => w.heap.size ≤ k) w (((w2.setCell ⟨w.heap.size, 0, none⟩ (.int .i64 (o : Nat))).setCell ⟨w.heap.size, 1, none⟩ (.slice a n c)).setCell ⟨w.heap.size, 2, none⟩ (.int .i64 (z : Nat))) :=
    ((((U2.out.mono (T := fun k => w.heap.size ≤ k) (fun _ _ h => h.elim))).setCell (p := ⟨w.heap.size, 0, none⟩) _ (fun _ => Nat.le_refl _)).setCell (p := ⟨w.heap.size, 1, none⟩) _ (fun _ => Nat.le_refl _)).setCell (p := ⟨w.heap.size, 2, none⟩) _ (fun _ => Nat.le_refl _)
  exact hall.mono (fun k hk h => by omega)
def ordK (xs : List Int) : Int := if listE xs = 0 then (ord xs : Int) else 0
def ordC (xs : List Int) : Int := if listE xs = 0 then (whole xs (ord xs) : Int) else 0
set_option maxRecDepth 100000 in
set_option maxHeartbeats 2000000 in
theorem Order_any (xv : Value) (xs : List Int) (w : World) (h : Ints w xv xs) : Calls Try.prog 21 #[xv] w fun e w' => e = .returned (.tuple #[.int .i64 (ordK xs), .int .i64 (ordC xs), .int .i64 (listE xs)]) ∧ Upd NoB w w' := by
  have HCk := Lib.hid (kcheck_any xv xs w h)
  by_cases h0 : listE xs = 0
  · have HK := Lib.hid (show ordK xs = (ord xs : Nat) from if_pos h0)
    have HS := Lib.hid (show ordC xs = (whole xs (ord xs) : Nat) from if_pos h0)
    have HL := Lib.hid (layoutOf_any xv xs w h (NumL.ofE h0))
    have H0 := Lib.hid h0
    clear h0 h
    rw [HS.out, HK.out, H0.out]
    rw [H0.out] at HCk
    generalize whole xs (ord xs) = z at *
    generalize ord xs = o at *
    go_enter Try.func21, Try.ntmps21
    go_wp2_with (first | (go_at_call 54; refine HCk.out.mono ?_; rintro e w' ⟨rfl, rfl⟩))
    refine HL.out.mono ?_
    rintro e w2 ⟨a, n, c, rfl, u2⟩
    have U2 := Lib.hid u2; clear u2
    obtain ⟨W3, hW3⟩ : ∃ W3, W3 = w2.alloc (.cells #[.int .i64 (o : Nat), .slice a n c, .int .i64 (z : Nat)] 76) := ⟨_, rfl⟩
    have b3 : W3.heap[w2.heap.size]? = some (.cells #[.int .i64 (o : Nat), .slice a n c, .int .i64 (z : Nat)] 76 (0, 0)) := by rw [hW3]; exact heap_alloc_new w2 _
    have U3 := Lib.hid (show Upd NoB w W3 by rw [hW3]; exact U2.out.alloc _)
    have HW3 := Lib.hid hW3
    obtain ⟨d0, d1, d2⟩ := cells3 b3
    clear hW3 b3
    go_wp2_with fail
    rw [← HW3.out]
    go_quiet (fail)
    go_wp2
    go_ret3
    exact ⟨rfl, upd_drewN U3.out _⟩
  · have HK := Lib.hid (show ordK xs = 0 from if_neg h0)
    have HS := Lib.hid (show ordC xs = 0 from if_neg h0)
    have t : (listE xs != 0) = true := by simpa using h0
    clear h0 h
    rw [HS.out, HK.out]
    generalize listE xs = E at *
    go_enter Try.func21, Try.ntmps21
    go_wp2_with (go_at_call 54; refine HCk.out.mono ?_; rintro e w' ⟨rfl, rfl⟩)
    go_ret3
    exact ⟨rfl, Upd.refl _ _⟩
end Go.Proofs.Ytmdladcfckoglaa
