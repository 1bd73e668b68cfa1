/- a call of the reference's reader, as the law has it -/
import Derived.Test.YtdjaileeklhkmaaRG
namespace Go.Proofs.Ytdjaileeklhkmaa
open Go.RowKit Go.Shelf

def readQ (x : OpD) (bs : List Nat) (at_ : Nat) : Int × List Nat × Int × Nat :=
  if x.k % 7 = 0 then ((getQ bs at_ x.n).1, [], (getQ bs at_ x.n).2.1, (getQ bs at_ x.n).2.2)
  else if x.k % 7 = 1 then ((sgnQ bs at_ x.n).1, [], (sgnQ bs at_ x.n).2.1, (sgnQ bs at_ x.n).2.2)
  else if x.k % 7 = 2 then ((unaQ bs at_ x.n).1, [], (unaQ bs at_ x.n).2.1, (unaQ bs at_ x.n).2.2)
  else if x.k % 7 = 3 then ((gamQ bs at_).1, [], (gamQ bs at_).2.1, (gamQ bs at_).2.2)
  else if x.k % 7 = 4 then ((alnN bs.length at_ : Nat), [], 0, at_ + alnN bs.length at_)
  else if x.k % 7 = 5 then (0, (takeQ bs at_ x.n).1, (takeQ bs at_ x.n).2.1, (takeQ bs at_ x.n).2.2)
  else (0, [], (seekR bs.length at_ x.n).1, (seekR bs.length at_ x.n).2)
def LQRes (b : Nat) (sv : Value) (bs : List Nat) (w : World) (r : Int × List Nat × Int × Nat) (e : Ending) (w' : World) : Prop :=
  ∃ bv, e = .returned (.agg #[.int .i64 r.1, bv, .int .i64 r.2.2.1, .int .i64 r.2.2.2, .int .i64 ((bs.length : Int) - r.2.2.2)]) ∧ Row8 w' bv r.2.1 ∧ newB w bv ∧ QAt w' b sv bs r.2.2.2 ∧ Upd (fun k => k = b) w w'
theorem lqres_end {w w1 w3 wf : World} {b : Nat} {sv bv : Value} {bs out : List Nat} {at_ p : Nat} (h0 : QAt w b sv bs at_) (hsz : w1.heap.size = w.heap.size + 2) (u1 : Upd NoB w w1) (u3 : Upd (fun k => k = b) w1 w3) (r3 : QAt w3 b sv bs p)
    (hrow : Row8 w3 bv out) (hnew : newB w1 bv) (uf : Upd (fun k => k = w.heap.size + 1) w3 wf) : Row8 wf bv out ∧ newB w bv ∧ QAt wf b sv bs p ∧ Upd (fun k => k = b) w wf := by
  have hb := lt_of_block h0.1
  refine ⟨⟨uf.row hrow.1 (fun k hk e => ?_), hrow.2⟩, fun k hk => ?_, r3.upd uf (fun k hk e => ?_), ((u1.mono (T := fun k => k = b) (fun _ _ h => h.elim)).trans u3 (fun _ _ h => h)).trans uf (fun i hi e => ?_)⟩
  · have := hnew k hk; omega
  · have := hnew k hk; omega
  · subst e
    rcases hk with hk | ⟨hz, hk⟩
    · omega
    · obtain ⟨c, t, fr, hc⟩ := h0.2.1.lt hz _ hk
      have := lt_of_block hc; omega
  · omega

set_option maxRecDepth 100000 in
set_option maxHeartbeats 4000000 in
theorem lasked_any (x : OpD) (b : Nat) (sv : Value) (bs : List Nat) (at_ : Nat) (w : World) (h : QAt w b sv bs at_) (hx : x.k ≤ 255) :
    Calls Try.prog 25 #[.pointer (some ⟨b, 0, none⟩), x.val] w fun e w' => LQRes b sv bs w (readQ x bs at_) e w' := by
  obtain ⟨k, z, n, xv, xs⟩ := x
  have hk : k ≤ 255 := hx
  obtain ⟨w1, hw1⟩ : ∃ w1, w1 = (w.alloc (.cells #[.int .u8 k, .int .i64 z, .int .i64 n, xv] 34)).alloc (.cells #[.int .i64 0, .slice none 0 0, .int .i64 0, .int .i64 0, .int .i64 0] 50) := ⟨_, rfl⟩
  have u1 : Upd NoB w w1 := by rw [hw1]; exact ((Upd.refl _ _).alloc _).alloc _
  have hR := h.upd u1 (fun k _ => noB k)
  have hc : w1.heap[w.heap.size + 1]? = some (.cells #[.int .i64 0, .slice none 0 0, .int .i64 0, .int .i64 0, .int .i64 0] 50 (0, 0)) := by
    rw [hw1]; exact heap_alloc_two w _ _
  have ho : w1.heap[w.heap.size]? = some (.cells #[.int .u8 k, .int .i64 z, .int .i64 n, xv] 34 (0, 0)) := by
    rw [hw1]; exact ((Upd.refl NoB (w.alloc (.cells #[.int .u8 k, .int .i64 z, .int .i64 n, xv] 34))).alloc _).heap (heap_alloc_new w _) (noB _)
  have c0 := blk_cell ho 0
  have c2 := blk_cell ho 2
  have hW1 := Lib.hid hw1
  have Hlt := Lib.hid (lt_of_block h.1)
  have H0 := Lib.hid h
  have Hsz := Lib.hid (show w1.heap.size = w.heap.size + 2 by rw [hw1]; exact size_two w _ _)
  have HR := Lib.hid hR; have HC := Lib.hid hc; have U1 := Lib.hid u1
  clear hR hc ho u1 h
  change Calls _ _ #[.pointer (some ⟨b, 0, none⟩), .agg #[.int .u8 k, .int .i64 z, .int .i64 n, xv]] w _
  have hkk : k % 7 = 0 ∨ k % 7 = 1 ∨ k % 7 = 2 ∨ k % 7 = 3 ∨ k % 7 = 4 ∨ k % 7 = 5 ∨ k % 7 = 6 := by omega
  generalize hPost : (fun e w' => LQRes b sv bs w (readQ ⟨k, z, n, xv, xs⟩ bs at_) e w') = Post at *
  have HP := Lib.hid hPost; clear hPost
  rcases hkk with hq | hq | hq | hq | hq | hq | hq
  · have HQ := Lib.hid hq
    have t0 : (((k : Int) % 7) == 0) = true := beq_iff_eq.2 (by omega)
    clear hq hw1
    go_enter Try.func25, Try.ntmps25
    go_wp2_with fail
    rw [← hW1.out]
    refine (qget_any b sv bs at_ n w1 HR.out).mono ?_
    rintro e w2 ⟨rfl, r2, u2⟩
    obtain ⟨n2, hn2⟩ : ∃ n2, n2 = (getQ bs at_ n).1 := ⟨_, rfl⟩
    obtain ⟨e2, he2⟩ : ∃ e2, e2 = (getQ bs at_ n).2.1 := ⟨_, rfl⟩
    obtain ⟨p2, hp2⟩ : ∃ p2, p2 = (getQ bs at_ n).2.2 := ⟨_, rfl⟩
    rw [← hp2] at r2
    rw [← hn2, ← he2]
    have HN := Lib.hid hn2; have HE := Lib.hid he2; have HPp := Lib.hid hp2
    clear hn2 he2 hp2
    have hne : w.heap.size + 1 ≠ b := by have := Hlt.out; omega
    have C2 := Lib.hid (u2.heap HC.out hne)
    have R2 := Lib.hid r2; have U2 := Lib.hid u2
    clear r2 u2 hne
    go_wp2_with fail
    refine (qat_any b p2 w2 R2.out.c1).mono ?_
    rintro e w2' ⟨rfl, rfl⟩
    go_wp2_with fail
    refine (qleft_any b sv bs p2 w2 R2.out).mono ?_
    rintro e w3 ⟨rfl, m3, rfl⟩
    have C3 := (show (w2.drewN m3).heap[w.heap.size + 1]? = _ from C2.out)
    have R3 := Lib.hid (R2.out.drewN m3)
    have U3 := Lib.hid (upd_drewN U2.out m3)
    have B3 := Lib.hid (row8_nil (w2.drewN m3))
    clear C2 R2 U2
    generalize w2.drewN m3 = w3 at *
    have f0 := blk_cell C3 0
    have f1 := blk_cell C3 1
    have f2 := blk_cell C3 2
    have f3 := blk_cell C3 3
    have f4 := blk_cell C3 4
    have g0 := blk_free C3 0
    have g1 := blk_free C3 1
    have g2 := blk_free C3 2
    have g3 := blk_free C3 3
    have g4 := blk_free C3 4
    have HC3 := Lib.hid C3; clear C3
    go_wp2_with fail
    refine bodyPost_ret (results_cell_row rfl _ _ (w.heap.size + 1) 50 _ (0, 0) _ rfl (reply_heap w3 _ _ _ _ _ _ _ _ _ _ _ _ HC3.out) Try.underlying50 rfl reply_size) rfl ?_
    rw [← HP.out]
    obtain ⟨q1, q2, q3, q4⟩ := lqres_end H0.out Hsz.out U1.out U3.out R3.out B3.out (newB_nil _) (reply_upd w3 _ _ _ _ _ _)
    have hq := HQ.out
    have er : readQ ⟨k, z, n, xv, xs⟩ bs at_ = (n2, [], e2, p2) := by simp [readQ, hq, HN.out, HE.out, HPp.out]
    show LQRes b sv bs w (readQ ⟨k, z, n, xv, xs⟩ bs at_) _ _
    rw [er]
    exact ⟨_, rfl, q1, q2, q3, q4⟩
  · have HQ := Lib.hid hq
    have t0 : (((k : Int) % 7) == 0) = false := beq_eq_false_iff_ne.2 (by omega)
    have t1 : (((k : Int) % 7) == 1) = true := beq_iff_eq.2 (by omega)
    clear hq hw1
    go_enter Try.func25, Try.ntmps25
    go_wp2_with fail
    rw [← hW1.out]
    refine (qsigned_any b sv bs at_ n w1 HR.out).mono ?_
    rintro e w2 ⟨rfl, r2, u2⟩
    obtain ⟨n2, hn2⟩ : ∃ n2, n2 = (sgnQ bs at_ n).1 := ⟨_, rfl⟩
    obtain ⟨e2, he2⟩ : ∃ e2, e2 = (sgnQ bs at_ n).2.1 := ⟨_, rfl⟩
    obtain ⟨p2, hp2⟩ : ∃ p2, p2 = (sgnQ bs at_ n).2.2 := ⟨_, rfl⟩
    rw [← hp2] at r2
    rw [← hn2, ← he2]
    have HN := Lib.hid hn2; have HE := Lib.hid he2; have HPp := Lib.hid hp2
    clear hn2 he2 hp2
    have hne : w.heap.size + 1 ≠ b := by have := Hlt.out; omega
    have C2 := Lib.hid (u2.heap HC.out hne)
    have R2 := Lib.hid r2; have U2 := Lib.hid u2
    clear r2 u2 hne
    go_wp2_with fail
    refine (qat_any b p2 w2 R2.out.c1).mono ?_
    rintro e w2' ⟨rfl, rfl⟩
    go_wp2_with fail
    refine (qleft_any b sv bs p2 w2 R2.out).mono ?_
    rintro e w3 ⟨rfl, m3, rfl⟩
    have C3 := (show (w2.drewN m3).heap[w.heap.size + 1]? = _ from C2.out)
    have R3 := Lib.hid (R2.out.drewN m3)
    have U3 := Lib.hid (upd_drewN U2.out m3)
    have B3 := Lib.hid (row8_nil (w2.drewN m3))
    clear C2 R2 U2
    generalize w2.drewN m3 = w3 at *
    have f0 := blk_cell C3 0
    have f1 := blk_cell C3 1
    have f2 := blk_cell C3 2
    have f3 := blk_cell C3 3
    have f4 := blk_cell C3 4
    have g0 := blk_free C3 0
    have g1 := blk_free C3 1
    have g2 := blk_free C3 2
    have g3 := blk_free C3 3
    have g4 := blk_free C3 4
    have HC3 := Lib.hid C3; clear C3
    go_wp2_with fail
    refine bodyPost_ret (results_cell_row rfl _ _ (w.heap.size + 1) 50 _ (0, 0) _ rfl (reply_heap w3 _ _ _ _ _ _ _ _ _ _ _ _ HC3.out) Try.underlying50 rfl reply_size) rfl ?_
    rw [← HP.out]
    obtain ⟨q1, q2, q3, q4⟩ := lqres_end H0.out Hsz.out U1.out U3.out R3.out B3.out (newB_nil _) (reply_upd w3 _ _ _ _ _ _)
    have hq := HQ.out
    have er : readQ ⟨k, z, n, xv, xs⟩ bs at_ = (n2, [], e2, p2) := by simp [readQ, hq, HN.out, HE.out, HPp.out]
    show LQRes b sv bs w (readQ ⟨k, z, n, xv, xs⟩ bs at_) _ _
    rw [er]
    exact ⟨_, rfl, q1, q2, q3, q4⟩
  · have HQ := Lib.hid hq
    have t0 : (((k : Int) % 7) == 0) = false := beq_eq_false_iff_ne.2 (by omega)
    have t1 : (((k : Int) % 7) == 1) = false := beq_eq_false_iff_ne.2 (by omega)
    have t2 : (((k : Int) % 7) == 2) = true := beq_iff_eq.2 (by omega)
    clear hq hw1
    go_enter Try.func25, Try.ntmps25
    go_wp2_with fail
    rw [← hW1.out]
    refine (qunary_any b sv bs at_ n w1 HR.out).mono ?_
    rintro e w2 ⟨rfl, r2, u2⟩
    obtain ⟨n2, hn2⟩ : ∃ n2, n2 = (unaQ bs at_ n).1 := ⟨_, rfl⟩
    obtain ⟨e2, he2⟩ : ∃ e2, e2 = (unaQ bs at_ n).2.1 := ⟨_, rfl⟩
    obtain ⟨p2, hp2⟩ : ∃ p2, p2 = (unaQ bs at_ n).2.2 := ⟨_, rfl⟩
    rw [← hp2] at r2
    rw [← hn2, ← he2]
    have HN := Lib.hid hn2; have HE := Lib.hid he2; have HPp := Lib.hid hp2
    clear hn2 he2 hp2
    have hne : w.heap.size + 1 ≠ b := by have := Hlt.out; omega
    have C2 := Lib.hid (u2.heap HC.out hne)
    have R2 := Lib.hid r2; have U2 := Lib.hid u2
    clear r2 u2 hne
    go_wp2_with fail
    refine (qat_any b p2 w2 R2.out.c1).mono ?_
    rintro e w2' ⟨rfl, rfl⟩
    go_wp2_with fail
    refine (qleft_any b sv bs p2 w2 R2.out).mono ?_
    rintro e w3 ⟨rfl, m3, rfl⟩
    have C3 := (show (w2.drewN m3).heap[w.heap.size + 1]? = _ from C2.out)
    have R3 := Lib.hid (R2.out.drewN m3)
    have U3 := Lib.hid (upd_drewN U2.out m3)
    have B3 := Lib.hid (row8_nil (w2.drewN m3))
    clear C2 R2 U2
    generalize w2.drewN m3 = w3 at *
    have f0 := blk_cell C3 0
    have f1 := blk_cell C3 1
    have f2 := blk_cell C3 2
    have f3 := blk_cell C3 3
    have f4 := blk_cell C3 4
    have g0 := blk_free C3 0
    have g1 := blk_free C3 1
    have g2 := blk_free C3 2
    have g3 := blk_free C3 3
    have g4 := blk_free C3 4
    have HC3 := Lib.hid C3; clear C3
    go_wp2_with fail
    refine bodyPost_ret (results_cell_row rfl _ _ (w.heap.size + 1) 50 _ (0, 0) _ rfl (reply_heap w3 _ _ _ _ _ _ _ _ _ _ _ _ HC3.out) Try.underlying50 rfl reply_size) rfl ?_
    rw [← HP.out]
    obtain ⟨q1, q2, q3, q4⟩ := lqres_end H0.out Hsz.out U1.out U3.out R3.out B3.out (newB_nil _) (reply_upd w3 _ _ _ _ _ _)
    have hq := HQ.out
    have er : readQ ⟨k, z, n, xv, xs⟩ bs at_ = (n2, [], e2, p2) := by simp [readQ, hq, HN.out, HE.out, HPp.out]
    show LQRes b sv bs w (readQ ⟨k, z, n, xv, xs⟩ bs at_) _ _
    rw [er]
    exact ⟨_, rfl, q1, q2, q3, q4⟩
  · have HQ := Lib.hid hq
    have t0 : (((k : Int) % 7) == 0) = false := beq_eq_false_iff_ne.2 (by omega)
    have t1 : (((k : Int) % 7) == 1) = false := beq_eq_false_iff_ne.2 (by omega)
    have t2 : (((k : Int) % 7) == 2) = false := beq_eq_false_iff_ne.2 (by omega)
    have t3 : (((k : Int) % 7) == 3) = true := beq_iff_eq.2 (by omega)
    clear hq hw1
    go_enter Try.func25, Try.ntmps25
    go_wp2_with fail
    rw [← hW1.out]
    refine (qgamma_any b sv bs at_ w1 HR.out).mono ?_
    rintro e w2 ⟨rfl, r2, u2⟩
    obtain ⟨n2, hn2⟩ : ∃ n2, n2 = (gamQ bs at_).1 := ⟨_, rfl⟩
    obtain ⟨e2, he2⟩ : ∃ e2, e2 = (gamQ bs at_).2.1 := ⟨_, rfl⟩
    obtain ⟨p2, hp2⟩ : ∃ p2, p2 = (gamQ bs at_).2.2 := ⟨_, rfl⟩
    rw [← hp2] at r2
    rw [← hn2, ← he2]
    have HN := Lib.hid hn2; have HE := Lib.hid he2; have HPp := Lib.hid hp2
    clear hn2 he2 hp2
    have hne : w.heap.size + 1 ≠ b := by have := Hlt.out; omega
    have C2 := Lib.hid (u2.heap HC.out hne)
    have R2 := Lib.hid r2; have U2 := Lib.hid u2
    clear r2 u2 hne
    go_wp2_with fail
    refine (qat_any b p2 w2 R2.out.c1).mono ?_
    rintro e w2' ⟨rfl, rfl⟩
    go_wp2_with fail
    refine (qleft_any b sv bs p2 w2 R2.out).mono ?_
    rintro e w3 ⟨rfl, m3, rfl⟩
    have C3 := (show (w2.drewN m3).heap[w.heap.size + 1]? = _ from C2.out)
    have R3 := Lib.hid (R2.out.drewN m3)
    have U3 := Lib.hid (upd_drewN U2.out m3)
    have B3 := Lib.hid (row8_nil (w2.drewN m3))
    clear C2 R2 U2
    generalize w2.drewN m3 = w3 at *
    have f0 := blk_cell C3 0
    have f1 := blk_cell C3 1
    have f2 := blk_cell C3 2
    have f3 := blk_cell C3 3
    have f4 := blk_cell C3 4
    have g0 := blk_free C3 0
    have g1 := blk_free C3 1
    have g2 := blk_free C3 2
    have g3 := blk_free C3 3
    have g4 := blk_free C3 4
    have HC3 := Lib.hid C3; clear C3
    go_wp2_with fail
    refine bodyPost_ret (results_cell_row rfl _ _ (w.heap.size + 1) 50 _ (0, 0) _ rfl (reply_heap w3 _ _ _ _ _ _ _ _ _ _ _ _ HC3.out) Try.underlying50 rfl reply_size) rfl ?_
    rw [← HP.out]
    obtain ⟨q1, q2, q3, q4⟩ := lqres_end H0.out Hsz.out U1.out U3.out R3.out B3.out (newB_nil _) (reply_upd w3 _ _ _ _ _ _)
    have hq := HQ.out
    have er : readQ ⟨k, z, n, xv, xs⟩ bs at_ = (n2, [], e2, p2) := by simp [readQ, hq, HN.out, HE.out, HPp.out]
    show LQRes b sv bs w (readQ ⟨k, z, n, xv, xs⟩ bs at_) _ _
    rw [er]
    exact ⟨_, rfl, q1, q2, q3, q4⟩
  · have HQ := Lib.hid hq
    have t0 : (((k : Int) % 7) == 0) = false := beq_eq_false_iff_ne.2 (by omega)
    have t1 : (((k : Int) % 7) == 1) = false := beq_eq_false_iff_ne.2 (by omega)
    have t2 : (((k : Int) % 7) == 2) = false := beq_eq_false_iff_ne.2 (by omega)
    have t3 : (((k : Int) % 7) == 3) = false := beq_eq_false_iff_ne.2 (by omega)
    have t4 : (((k : Int) % 7) == 4) = true := beq_iff_eq.2 (by omega)
    clear hq hw1
    go_enter Try.func25, Try.ntmps25
    go_wp2_with fail
    rw [← hW1.out]
    refine (qalign_any b sv bs at_ w1 HR.out).mono ?_
    rintro e w2 ⟨rfl, r2, u2⟩
    obtain ⟨n2, hn2⟩ : ∃ n2 : Nat, n2 = alnN bs.length at_ := ⟨_, rfl⟩
    obtain ⟨p2, hp2⟩ : ∃ p2, p2 = at_ + alnN bs.length at_ := ⟨_, rfl⟩
    rw [← hp2] at r2
    rw [← hn2]
    have HN := Lib.hid hn2; have HPp := Lib.hid hp2
    clear hn2 hp2
    have hne : w.heap.size + 1 ≠ b := by have := Hlt.out; omega
    have C2 := Lib.hid (u2.heap HC.out hne)
    have R2 := Lib.hid r2; have U2 := Lib.hid u2
    clear r2 u2 hne
    go_wp2_with fail
    refine (qat_any b p2 w2 R2.out.c1).mono ?_
    rintro e w2' ⟨rfl, rfl⟩
    go_wp2_with fail
    refine (qleft_any b sv bs p2 w2 R2.out).mono ?_
    rintro e w3 ⟨rfl, m3, rfl⟩
    have C3 := (show (w2.drewN m3).heap[w.heap.size + 1]? = _ from C2.out)
    have R3 := Lib.hid (R2.out.drewN m3)
    have U3 := Lib.hid (upd_drewN U2.out m3)
    have B3 := Lib.hid (row8_nil (w2.drewN m3))
    clear C2 R2 U2
    generalize w2.drewN m3 = w3 at *
    have f0 := blk_cell C3 0
    have f1 := blk_cell C3 1
    have f2 := blk_cell C3 2
    have f3 := blk_cell C3 3
    have f4 := blk_cell C3 4
    have g0 := blk_free C3 0
    have g1 := blk_free C3 1
    have g2 := blk_free C3 2
    have g3 := blk_free C3 3
    have g4 := blk_free C3 4
    have HC3 := Lib.hid C3; clear C3
    go_wp2_with fail
    refine bodyPost_ret (results_cell_row rfl _ _ (w.heap.size + 1) 50 _ (0, 0) _ rfl (reply_heap w3 _ _ _ _ _ _ _ _ _ _ _ _ HC3.out) Try.underlying50 rfl reply_size) rfl ?_
    rw [← HP.out]
    obtain ⟨q1, q2, q3, q4⟩ := lqres_end H0.out Hsz.out U1.out U3.out R3.out B3.out (newB_nil _) (reply_upd w3 _ _ _ _ _ _)
    have hq := HQ.out
    have er : readQ ⟨k, z, n, xv, xs⟩ bs at_ = ((n2 : Int), [], 0, p2) := by simp [readQ, hq, HN.out, HPp.out]
    show LQRes b sv bs w (readQ ⟨k, z, n, xv, xs⟩ bs at_) _ _
    rw [er]
    exact ⟨_, rfl, q1, q2, q3, q4⟩
  · have HQ := Lib.hid hq
    have t0 : (((k : Int) % 7) == 0) = false := beq_eq_false_iff_ne.2 (by omega)
    have t1 : (((k : Int) % 7) == 1) = false := beq_eq_false_iff_ne.2 (by omega)
    have t2 : (((k : Int) % 7) == 2) = false := beq_eq_false_iff_ne.2 (by omega)
    have t3 : (((k : Int) % 7) == 3) = false := beq_eq_false_iff_ne.2 (by omega)
    have t4 : (((k : Int) % 7) == 4) = false := beq_eq_false_iff_ne.2 (by omega)
    have t5 : (((k : Int) % 7) == 5) = true := beq_iff_eq.2 (by omega)
    clear hq hw1
    go_enter Try.func25, Try.ntmps25
    go_wp2_with fail
    rw [← hW1.out]
    refine (qtake_any b sv bs at_ n w1 HR.out).mono ?_
    rintro e w2 ⟨bv, rfl, row2, new2, r2, u2⟩
    obtain ⟨ba, bc, rfl⟩ := row8_slice row2
    obtain ⟨o2, ho2⟩ : ∃ o2, o2 = (takeQ bs at_ n).1 := ⟨_, rfl⟩
    rw [← ho2] at row2 new2 ⊢
    obtain ⟨e2, he2⟩ : ∃ e2, e2 = (takeQ bs at_ n).2.1 := ⟨_, rfl⟩
    obtain ⟨p2, hp2⟩ : ∃ p2, p2 = (takeQ bs at_ n).2.2 := ⟨_, rfl⟩
    rw [← hp2] at r2
    rw [← he2]
    have HO := Lib.hid ho2; have HE := Lib.hid he2; have HPp := Lib.hid hp2
    have B2 := Lib.hid row2; have HB := Lib.hid new2
    clear ho2 he2 hp2 row2 new2
    have hne : w.heap.size + 1 ≠ b := by have := Hlt.out; omega
    have C2 := Lib.hid (u2.heap HC.out hne)
    have R2 := Lib.hid r2; have U2 := Lib.hid u2
    clear r2 u2 hne
    go_wp2_with fail
    refine (qat_any b p2 w2 R2.out.c1).mono ?_
    rintro e w2' ⟨rfl, rfl⟩
    go_wp2_with fail
    refine (qleft_any b sv bs p2 w2 R2.out).mono ?_
    rintro e w3 ⟨rfl, m3, rfl⟩
    have C3 := (show (w2.drewN m3).heap[w.heap.size + 1]? = _ from C2.out)
    have R3 := Lib.hid (R2.out.drewN m3)
    have U3 := Lib.hid (upd_drewN U2.out m3)
    have B3 := Lib.hid (show Row8 (w2.drewN m3) (.slice ba o2.length bc) o2 from B2.out)
    clear C2 R2 U2
    generalize w2.drewN m3 = w3 at *
    have f0 := blk_cell C3 0
    have f1 := blk_cell C3 1
    have f2 := blk_cell C3 2
    have f3 := blk_cell C3 3
    have f4 := blk_cell C3 4
    have g0 := blk_free C3 0
    have g1 := blk_free C3 1
    have g2 := blk_free C3 2
    have g3 := blk_free C3 3
    have g4 := blk_free C3 4
    have HC3 := Lib.hid C3; clear C3
    go_wp2_with fail
    refine bodyPost_ret (results_cell_row rfl _ _ (w.heap.size + 1) 50 _ (0, 0) _ rfl (reply_heap w3 _ _ _ _ _ _ _ _ _ _ _ _ HC3.out) Try.underlying50 rfl reply_size) rfl ?_
    rw [← HP.out]
    obtain ⟨q1, q2, q3, q4⟩ := lqres_end H0.out Hsz.out U1.out U3.out R3.out B3.out HB.out (reply_upd w3 _ _ _ _ _ _)
    have hq := HQ.out
    have er : readQ ⟨k, z, n, xv, xs⟩ bs at_ = (0, o2, e2, p2) := by simp [readQ, hq, HO.out, HE.out, HPp.out]
    show LQRes b sv bs w (readQ ⟨k, z, n, xv, xs⟩ bs at_) _ _
    rw [er]
    exact ⟨_, rfl, q1, q2, q3, q4⟩
  · have HQ := Lib.hid hq
    have t0 : (((k : Int) % 7) == 0) = false := beq_eq_false_iff_ne.2 (by omega)
    have t1 : (((k : Int) % 7) == 1) = false := beq_eq_false_iff_ne.2 (by omega)
    have t2 : (((k : Int) % 7) == 2) = false := beq_eq_false_iff_ne.2 (by omega)
    have t3 : (((k : Int) % 7) == 3) = false := beq_eq_false_iff_ne.2 (by omega)
    have t4 : (((k : Int) % 7) == 4) = false := beq_eq_false_iff_ne.2 (by omega)
    have t5 : (((k : Int) % 7) == 5) = false := beq_eq_false_iff_ne.2 (by omega)
    clear hq hw1
    go_enter Try.func25, Try.ntmps25
    go_wp2_with fail
    rw [← hW1.out]
    refine (qseek_any b sv bs at_ n w1 HR.out).mono ?_
    rintro e w2 ⟨rfl, r2, u2⟩
    obtain ⟨e2, he2⟩ : ∃ e2, e2 = (seekR bs.length at_ n).1 := ⟨_, rfl⟩
    obtain ⟨p2, hp2⟩ : ∃ p2, p2 = (seekR bs.length at_ n).2 := ⟨_, rfl⟩
    rw [← hp2] at r2
    rw [← he2]
    have HE := Lib.hid he2; have HPp := Lib.hid hp2
    clear he2 hp2
    have hne : w.heap.size + 1 ≠ b := by have := Hlt.out; omega
    have C2 := Lib.hid (u2.heap HC.out hne)
    have R2 := Lib.hid r2; have U2 := Lib.hid u2
    clear r2 u2 hne
    go_wp2_with fail
    refine (qat_any b p2 w2 R2.out.c1).mono ?_
    rintro e w2' ⟨rfl, rfl⟩
    go_wp2_with fail
    refine (qleft_any b sv bs p2 w2 R2.out).mono ?_
    rintro e w3 ⟨rfl, m3, rfl⟩
    have C3 := (show (w2.drewN m3).heap[w.heap.size + 1]? = _ from C2.out)
    have R3 := Lib.hid (R2.out.drewN m3)
    have U3 := Lib.hid (upd_drewN U2.out m3)
    have B3 := Lib.hid (row8_nil (w2.drewN m3))
    clear C2 R2 U2
    generalize w2.drewN m3 = w3 at *
    have f0 := blk_cell C3 0
    have f1 := blk_cell C3 1
    have f2 := blk_cell C3 2
    have f3 := blk_cell C3 3
    have f4 := blk_cell C3 4
    have g0 := blk_free C3 0
    have g1 := blk_free C3 1
    have g2 := blk_free C3 2
    have g3 := blk_free C3 3
    have g4 := blk_free C3 4
    have HC3 := Lib.hid C3; clear C3
    go_wp2_with fail
    refine bodyPost_ret (results_cell_row rfl _ _ (w.heap.size + 1) 50 _ (0, 0) _ rfl (reply_heap w3 _ _ _ _ _ _ _ _ _ _ _ _ HC3.out) Try.underlying50 rfl reply_size) rfl ?_
    rw [← HP.out]
    obtain ⟨q1, q2, q3, q4⟩ := lqres_end H0.out Hsz.out U1.out U3.out R3.out B3.out (newB_nil _) (reply_upd w3 _ _ _ _ _ _)
    have hq := HQ.out
    have er : readQ ⟨k, z, n, xv, xs⟩ bs at_ = (0, [], e2, p2) := by simp [readQ, hq, HE.out, HPp.out]
    show LQRes b sv bs w (readQ ⟨k, z, n, xv, xs⟩ bs at_) _ _
    rw [er]
    exact ⟨_, rfl, q1, q2, q3, q4⟩
end Go.Proofs.Ytdjaileeklhkmaa
