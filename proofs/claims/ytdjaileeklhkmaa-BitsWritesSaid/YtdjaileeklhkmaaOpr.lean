/- a call of a reader, as the law has it -/
import Derived.Test.YtdjaileeklhkmaaOp
namespace Go.Proofs.Ytdjaileeklhkmaa
open Go.RowKit Go.Shelf

/-- What a call of a reader returns: the number, the bytes, the error, the position. -/
def readR (x : OpD) (zs : List Nat) (cnt at_ : Nat) : Int × List Nat × Int × Nat :=
  if x.k % 7 = 0 then ((getR zs cnt at_ x.n).1, [], (getR zs cnt at_ x.n).2.1, (getR zs cnt at_ x.n).2.2)
  else if x.k % 7 = 1 then ((sgnR zs cnt at_ x.n).1, [], (sgnR zs cnt at_ x.n).2.1, (sgnR zs cnt at_ x.n).2.2)
  else if x.k % 7 = 2 then ((unaR zs cnt at_ x.n).1, [], (unaR zs cnt at_ x.n).2.1, (unaR zs cnt at_ x.n).2.2)
  else if x.k % 7 = 3 then ((gamR zs cnt at_).1, [], (gamR zs cnt at_).2.1, (gamR zs cnt at_).2.2)
  else if x.k % 7 = 4 then ((alnN cnt at_ : Nat), [], 0, at_ + alnN cnt at_)
  else if x.k % 7 = 5 then (0, (takeOut zs cnt at_ x.n).1, (takeOut zs cnt at_ x.n).2.1, (takeOut zs cnt at_ x.n).2.2)
  else (0, [], (seekR cnt at_ x.n).1, (seekR cnt at_ x.n).2)
def replyV (n : Int) (bv : Value) (err : Int) (at_ left : Int) : Value := .agg #[.int .i64 n, bv, .int .i64 err, .int .i64 at_, .int .i64 left]
def LRes (b : Nat) (sv : Value) (zs : List Nat) (cnt : Nat) (w : World) (r : Int × List Nat × Int × Nat) (e : Ending) (w' : World) : Prop :=
  ∃ bv, e = .returned (.agg #[.int .i64 r.1, bv, .int .i64 r.2.2.1, .int .i64 r.2.2.2, .int .i64 ((cnt : Int) - r.2.2.2)]) ∧ Row8 w' bv r.2.1 ∧ newB w bv ∧ RAt w' b sv zs cnt r.2.2.2 ∧ Upd (fun k => k = b) w w'

theorem reply_heap (w3 : World) (g : Nat) (T : TypeId) (v0 v1 v2 v3 v4 bv n e p q : Value) (hC : w3.heap[g]? = some (.cells #[v0, v1, v2, v3, v4] T (0, 0))) :
    (((((w3.setCell ⟨g, 0, none⟩ n).setCell ⟨g, 1, none⟩ bv).setCell ⟨g, 2, none⟩ e).setCell ⟨g, 3, none⟩ p).setCell ⟨g, 4, none⟩ q).heap[g]? = some (.cells #[n, bv, e, p, q] T (0, 0)) :=
  block_set (block_set (block_set (block_set (block_set hC n) bv) e) p) q
theorem reply_upd (w3 : World) (g : Nat) (bv n e p q : Value) : Upd (fun k => k = g) w3 (((((w3.setCell ⟨g, 0, none⟩ n).setCell ⟨g, 1, none⟩ bv).setCell ⟨g, 2, none⟩ e).setCell ⟨g, 3, none⟩ p).setCell ⟨g, 4, none⟩ q) := by
  refine Upd.setCell (S := fun k => k = g) ?_ _ (fun _ => rfl)
  refine Upd.setCell (S := fun k => k = g) ?_ _ (fun _ => rfl)
  refine Upd.setCell (S := fun k => k = g) ?_ _ (fun _ => rfl)
  refine Upd.setCell (S := fun k => k = g) ?_ _ (fun _ => rfl)
  exact Upd.setCell (S := fun k => k = g) (Upd.refl _ w3) _ (fun _ => rfl)
theorem size_two (w : World) (o1 o2 : Obj) : ((w.alloc o1).alloc o2).heap.size = w.heap.size + 2 := by
  show ((w.heap.push o1).push o2).size = _
  rw [Array.size_push, Array.size_push]
theorem reply_size : (Try.prog.info? 50).map (·.size) = some 5 := by kernel_rfl
theorem lres_end {w w1 w3 wf : World} {b : Nat} {sv bv : Value} {zs out : List Nat} {cnt at_ p : Nat} (h0 : RAt w b sv zs cnt at_) (hsz : w1.heap.size = w.heap.size + 2) (u1 : Upd NoB w w1) (u3 : Upd (fun k => k = b) w1 w3) (r3 : RAt w3 b sv zs cnt p)
    (hrow : Row8 w3 bv out) (hnew : newB w1 bv) (uf : Upd (fun k => k = w.heap.size + 1) w3 wf) : Row8 wf bv out ∧ newB w bv ∧ RAt wf b sv zs cnt p ∧ Upd (fun k => k = b) w wf := by
  have hb := lt_of_block h0.1
  refine ⟨⟨uf.row hrow.1 (fun k hk e => ?_), hrow.2⟩, fun k hk => ?_, r3.upd uf (fun k hk e => ?_), ((u1.mono (T := fun k => k = b) (fun _ _ h => h.elim)).trans u3 (fun _ _ h => h)).trans uf (fun i hi e => ?_)⟩
  · have := hnew k hk; omega
  · have := hnew k hk; omega
  · subst e
    rcases hk with hk | ⟨hz, hk⟩
    · omega
    · obtain ⟨c, t, fr, hc⟩ := h0.2.1.lt hz _ hk
      have := lt_of_block hc; omega
  · omega
theorem heap_alloc_two (w : World) (o1 o2 : Obj) : ((w.alloc o1).alloc o2).heap[w.heap.size + 1]? = some o2 := by
  have h := heap_alloc_new (w.alloc o1) o2
  have e : (w.alloc o1).heap.size = w.heap.size + 1 := Array.size_push ..
  rwa [e] at h

set_option maxRecDepth 100000 in
set_option maxHeartbeats 4000000 in
theorem lread_any (x : OpD) (b : Nat) (sv : Value) (zs : List Nat) (cnt at_ : Nat) (w : World) (h : RAt w b sv zs cnt at_) (hsep : zs ≠ [] → sv.ownBlock ≠ some b) (hx : x.k ≤ 255) :
    Calls Try.prog 24 #[.pointer (some ⟨b, 0, none⟩), x.val] w fun e w' => LRes b sv zs cnt w (readR x zs cnt at_) e w' := by
  obtain ⟨k, z, n, xv, xs⟩ := x
  have hk : k ≤ 255 := hx
  obtain ⟨w1, hw1⟩ : ∃ w1, w1 = (w.alloc (.cells #[.int .u8 k, .int .i64 z, .int .i64 n, xv] 34)).alloc (.cells #[.int .i64 0, .slice none 0 0, .int .i64 0, .int .i64 0, .int .i64 0] 50) := ⟨_, rfl⟩
  have u1 : Upd NoB w w1 := by rw [hw1]; exact ((Upd.refl _ _).alloc _).alloc _
  have hR := h.upd u1 (fun k _ => noB k)
  have hc : w1.heap[w.heap.size + 1]? = some (.cells #[.int .i64 0, .slice none 0 0, .int .i64 0, .int .i64 0, .int .i64 0] 50 (0, 0)) := by
    rw [hw1]; exact heap_alloc_two w _ _
  have ho : w1.heap[w.heap.size]? = some (.cells #[.int .u8 k, .int .i64 z, .int .i64 n, xv] 34 (0, 0)) := by
    rw [hw1]; exact ((Upd.refl NoB (w.alloc (.cells #[.int .u8 k, .int .i64 z, .int .i64 n, xv] 34))).alloc _).heap (heap_alloc_new w _) (noB _)
  have c0 := blk_cell ho 0
  have c2 := blk_cell ho 2
  have hW1 := Lib.hid hw1
  have Hlt := Lib.hid (lt_of_block h.1)
  have H0 := Lib.hid h
  have Hsz := Lib.hid (show w1.heap.size = w.heap.size + 2 by rw [hw1]; exact size_two w _ _)
  have HR := Lib.hid hR; have HC := Lib.hid hc; have U1 := Lib.hid u1; have HS := Lib.hid hsep
  clear hR hc ho u1 hsep h
  change Calls _ _ #[.pointer (some ⟨b, 0, none⟩), .agg #[.int .u8 k, .int .i64 z, .int .i64 n, xv]] w _
  have hkk : k % 7 = 0 ∨ k % 7 = 1 ∨ k % 7 = 2 ∨ k % 7 = 3 ∨ k % 7 = 4 ∨ k % 7 = 5 ∨ k % 7 = 6 := by omega
  generalize hPost : (fun e w' => LRes b sv zs cnt w (readR ⟨k, z, n, xv, xs⟩ zs cnt at_) e w') = Post at *
  have HP := Lib.hid hPost; clear hPost
  rcases hkk with hq | hq | hq | hq | hq | hq | hq
  · have HQ := Lib.hid hq
    have t0 : (((k : Int) % 7) == 0) = true := beq_iff_eq.2 (by omega)
    clear hq hw1
    go_enter Try.func24, Try.ntmps24
    go_wp2_with fail
    rw [← hW1.out]
    refine (get_any b sv zs cnt at_ n w1 HR.out HS.out).mono ?_
    rintro e w2 ⟨rfl, r2, u2⟩
    obtain ⟨n2, hn2⟩ : ∃ n2, n2 = (getR zs cnt at_ n).1 := ⟨_, rfl⟩
    obtain ⟨e2, he2⟩ : ∃ e2, e2 = (getR zs cnt at_ n).2.1 := ⟨_, rfl⟩
    obtain ⟨p2, hp2⟩ : ∃ p2, p2 = (getR zs cnt at_ n).2.2 := ⟨_, rfl⟩
    rw [← hp2] at r2
    rw [← hn2, ← he2]
    have HN := Lib.hid hn2; have HE := Lib.hid he2; have HPp := Lib.hid hp2
    clear hn2 he2 hp2
    have hne : w.heap.size + 1 ≠ b := by have := Hlt.out; omega
    have C2 := Lib.hid (u2.heap HC.out hne)
    have R2 := Lib.hid r2; have U2 := Lib.hid u2
    clear r2 u2 hne
    go_wp2_with fail
    refine (at_any b p2 w2 R2.out.c2).mono ?_
    rintro e w2' ⟨rfl, rfl⟩
    go_wp2_with fail
    refine (left_any b cnt p2 w2 R2.out.c1 R2.out.c2 R2.out.2.2.2.2.1 R2.out.2.2.2.1).mono ?_
    rintro e w3 ⟨rfl, rfl⟩
    have C3 := (show w2.drew.heap[w.heap.size + 1]? = _ from C2.out)
    have R3 := Lib.hid (R2.out.drew)
    have U3 := Lib.hid (U2.out.drew)
    have B3 := Lib.hid (row8_nil w2.drew)
    clear C2 R2 U2
    generalize w2.drew = w3 at *
    have f0 := blk_cell C3 0
    have f1 := blk_cell C3 1
    have f2 := blk_cell C3 2
    have f3 := blk_cell C3 3
    have f4 := blk_cell C3 4
    have g0 := blk_free C3 0
    have g1 := blk_free C3 1
    have g2 := blk_free C3 2
    have g3 := blk_free C3 3
    have g4 := blk_free C3 4
    have HC3 := Lib.hid C3; clear C3
    go_wp2_with fail
    refine bodyPost_ret (results_cell_row rfl _ _ (w.heap.size + 1) 50 _ (0, 0) _ rfl (reply_heap w3 _ _ _ _ _ _ _ _ _ _ _ _ HC3.out) Try.underlying50 rfl reply_size) rfl ?_
    rw [← HP.out]
    obtain ⟨q1, q2, q3, q4⟩ := lres_end H0.out Hsz.out U1.out U3.out R3.out B3.out (newB_nil _) (reply_upd w3 _ _ _ _ _ _)
    have hq := HQ.out
    have er : readR ⟨k, z, n, xv, xs⟩ zs cnt at_ = (n2, [], e2, p2) := by simp [readR, hq, HN.out, HE.out, HPp.out]
    show LRes b sv zs cnt w (readR ⟨k, z, n, xv, xs⟩ zs cnt at_) _ _
    rw [er]
    exact ⟨_, rfl, q1, q2, q3, q4⟩
  · have HQ := Lib.hid hq
    have t0 : (((k : Int) % 7) == 0) = false := beq_eq_false_iff_ne.2 (by omega)
    have t1 : (((k : Int) % 7) == 1) = true := beq_iff_eq.2 (by omega)
    clear hq hw1
    go_enter Try.func24, Try.ntmps24
    go_wp2_with fail
    rw [← hW1.out]
    refine (rsigned_any b sv zs cnt at_ n w1 HR.out HS.out).mono ?_
    rintro e w2 ⟨rfl, r2, u2⟩
    obtain ⟨n2, hn2⟩ : ∃ n2, n2 = (sgnR zs cnt at_ n).1 := ⟨_, rfl⟩
    obtain ⟨e2, he2⟩ : ∃ e2, e2 = (sgnR zs cnt at_ n).2.1 := ⟨_, rfl⟩
    obtain ⟨p2, hp2⟩ : ∃ p2, p2 = (sgnR zs cnt at_ n).2.2 := ⟨_, rfl⟩
    rw [← hp2] at r2
    rw [← hn2, ← he2]
    have HN := Lib.hid hn2; have HE := Lib.hid he2; have HPp := Lib.hid hp2
    clear hn2 he2 hp2
    have hne : w.heap.size + 1 ≠ b := by have := Hlt.out; omega
    have C2 := Lib.hid (u2.heap HC.out hne)
    have R2 := Lib.hid r2; have U2 := Lib.hid u2
    clear r2 u2 hne
    go_wp2_with fail
    refine (at_any b p2 w2 R2.out.c2).mono ?_
    rintro e w2' ⟨rfl, rfl⟩
    go_wp2_with fail
    refine (left_any b cnt p2 w2 R2.out.c1 R2.out.c2 R2.out.2.2.2.2.1 R2.out.2.2.2.1).mono ?_
    rintro e w3 ⟨rfl, rfl⟩
    have C3 := (show w2.drew.heap[w.heap.size + 1]? = _ from C2.out)
    have R3 := Lib.hid (R2.out.drew)
    have U3 := Lib.hid (U2.out.drew)
    have B3 := Lib.hid (row8_nil w2.drew)
    clear C2 R2 U2
    generalize w2.drew = w3 at *
    have f0 := blk_cell C3 0
    have f1 := blk_cell C3 1
    have f2 := blk_cell C3 2
    have f3 := blk_cell C3 3
    have f4 := blk_cell C3 4
    have g0 := blk_free C3 0
    have g1 := blk_free C3 1
    have g2 := blk_free C3 2
    have g3 := blk_free C3 3
    have g4 := blk_free C3 4
    have HC3 := Lib.hid C3; clear C3
    go_wp2_with fail
    refine bodyPost_ret (results_cell_row rfl _ _ (w.heap.size + 1) 50 _ (0, 0) _ rfl (reply_heap w3 _ _ _ _ _ _ _ _ _ _ _ _ HC3.out) Try.underlying50 rfl reply_size) rfl ?_
    rw [← HP.out]
    obtain ⟨q1, q2, q3, q4⟩ := lres_end H0.out Hsz.out U1.out U3.out R3.out B3.out (newB_nil _) (reply_upd w3 _ _ _ _ _ _)
    have hq := HQ.out
    have er : readR ⟨k, z, n, xv, xs⟩ zs cnt at_ = (n2, [], e2, p2) := by simp [readR, hq, HN.out, HE.out, HPp.out]
    show LRes b sv zs cnt w (readR ⟨k, z, n, xv, xs⟩ zs cnt at_) _ _
    rw [er]
    exact ⟨_, rfl, q1, q2, q3, q4⟩
  · have HQ := Lib.hid hq
    have t0 : (((k : Int) % 7) == 0) = false := beq_eq_false_iff_ne.2 (by omega)
    have t1 : (((k : Int) % 7) == 1) = false := beq_eq_false_iff_ne.2 (by omega)
    have t2 : (((k : Int) % 7) == 2) = true := beq_iff_eq.2 (by omega)
    clear hq hw1
    go_enter Try.func24, Try.ntmps24
    go_wp2_with fail
    rw [← hW1.out]
    refine (runary_any b sv zs cnt at_ n w1 HR.out HS.out).mono ?_
    rintro e w2 ⟨rfl, r2, u2⟩
    obtain ⟨n2, hn2⟩ : ∃ n2, n2 = (unaR zs cnt at_ n).1 := ⟨_, rfl⟩
    obtain ⟨e2, he2⟩ : ∃ e2, e2 = (unaR zs cnt at_ n).2.1 := ⟨_, rfl⟩
    obtain ⟨p2, hp2⟩ : ∃ p2, p2 = (unaR zs cnt at_ n).2.2 := ⟨_, rfl⟩
    rw [← hp2] at r2
    rw [← hn2, ← he2]
    have HN := Lib.hid hn2; have HE := Lib.hid he2; have HPp := Lib.hid hp2
    clear hn2 he2 hp2
    have hne : w.heap.size + 1 ≠ b := by have := Hlt.out; omega
    have C2 := Lib.hid (u2.heap HC.out hne)
    have R2 := Lib.hid r2; have U2 := Lib.hid u2
    clear r2 u2 hne
    go_wp2_with fail
    refine (at_any b p2 w2 R2.out.c2).mono ?_
    rintro e w2' ⟨rfl, rfl⟩
    go_wp2_with fail
    refine (left_any b cnt p2 w2 R2.out.c1 R2.out.c2 R2.out.2.2.2.2.1 R2.out.2.2.2.1).mono ?_
    rintro e w3 ⟨rfl, rfl⟩
    have C3 := (show w2.drew.heap[w.heap.size + 1]? = _ from C2.out)
    have R3 := Lib.hid (R2.out.drew)
    have U3 := Lib.hid (U2.out.drew)
    have B3 := Lib.hid (row8_nil w2.drew)
    clear C2 R2 U2
    generalize w2.drew = w3 at *
    have f0 := blk_cell C3 0
    have f1 := blk_cell C3 1
    have f2 := blk_cell C3 2
    have f3 := blk_cell C3 3
    have f4 := blk_cell C3 4
    have g0 := blk_free C3 0
    have g1 := blk_free C3 1
    have g2 := blk_free C3 2
    have g3 := blk_free C3 3
    have g4 := blk_free C3 4
    have HC3 := Lib.hid C3; clear C3
    go_wp2_with fail
    refine bodyPost_ret (results_cell_row rfl _ _ (w.heap.size + 1) 50 _ (0, 0) _ rfl (reply_heap w3 _ _ _ _ _ _ _ _ _ _ _ _ HC3.out) Try.underlying50 rfl reply_size) rfl ?_
    rw [← HP.out]
    obtain ⟨q1, q2, q3, q4⟩ := lres_end H0.out Hsz.out U1.out U3.out R3.out B3.out (newB_nil _) (reply_upd w3 _ _ _ _ _ _)
    have hq := HQ.out
    have er : readR ⟨k, z, n, xv, xs⟩ zs cnt at_ = (n2, [], e2, p2) := by simp [readR, hq, HN.out, HE.out, HPp.out]
    show LRes b sv zs cnt w (readR ⟨k, z, n, xv, xs⟩ zs cnt at_) _ _
    rw [er]
    exact ⟨_, rfl, q1, q2, q3, q4⟩
  · have HQ := Lib.hid hq
    have t0 : (((k : Int) % 7) == 0) = false := beq_eq_false_iff_ne.2 (by omega)
    have t1 : (((k : Int) % 7) == 1) = false := beq_eq_false_iff_ne.2 (by omega)
    have t2 : (((k : Int) % 7) == 2) = false := beq_eq_false_iff_ne.2 (by omega)
    have t3 : (((k : Int) % 7) == 3) = true := beq_iff_eq.2 (by omega)
    clear hq hw1
    go_enter Try.func24, Try.ntmps24
    go_wp2_with fail
    rw [← hW1.out]
    refine (rgamma_any b sv zs cnt at_ w1 HR.out HS.out).mono ?_
    rintro e w2 ⟨rfl, r2, u2⟩
    obtain ⟨n2, hn2⟩ : ∃ n2, n2 = (gamR zs cnt at_).1 := ⟨_, rfl⟩
    obtain ⟨e2, he2⟩ : ∃ e2, e2 = (gamR zs cnt at_).2.1 := ⟨_, rfl⟩
    obtain ⟨p2, hp2⟩ : ∃ p2, p2 = (gamR zs cnt at_).2.2 := ⟨_, rfl⟩
    rw [← hp2] at r2
    rw [← hn2, ← he2]
    have HN := Lib.hid hn2; have HE := Lib.hid he2; have HPp := Lib.hid hp2
    clear hn2 he2 hp2
    have hne : w.heap.size + 1 ≠ b := by have := Hlt.out; omega
    have C2 := Lib.hid (u2.heap HC.out hne)
    have R2 := Lib.hid r2; have U2 := Lib.hid u2
    clear r2 u2 hne
    go_wp2_with fail
    refine (at_any b p2 w2 R2.out.c2).mono ?_
    rintro e w2' ⟨rfl, rfl⟩
    go_wp2_with fail
    refine (left_any b cnt p2 w2 R2.out.c1 R2.out.c2 R2.out.2.2.2.2.1 R2.out.2.2.2.1).mono ?_
    rintro e w3 ⟨rfl, rfl⟩
    have C3 := (show w2.drew.heap[w.heap.size + 1]? = _ from C2.out)
    have R3 := Lib.hid (R2.out.drew)
    have U3 := Lib.hid (U2.out.drew)
    have B3 := Lib.hid (row8_nil w2.drew)
    clear C2 R2 U2
    generalize w2.drew = w3 at *
    have f0 := blk_cell C3 0
    have f1 := blk_cell C3 1
    have f2 := blk_cell C3 2
    have f3 := blk_cell C3 3
    have f4 := blk_cell C3 4
    have g0 := blk_free C3 0
    have g1 := blk_free C3 1
    have g2 := blk_free C3 2
    have g3 := blk_free C3 3
    have g4 := blk_free C3 4
    have HC3 := Lib.hid C3; clear C3
    go_wp2_with fail
    refine bodyPost_ret (results_cell_row rfl _ _ (w.heap.size + 1) 50 _ (0, 0) _ rfl (reply_heap w3 _ _ _ _ _ _ _ _ _ _ _ _ HC3.out) Try.underlying50 rfl reply_size) rfl ?_
    rw [← HP.out]
    obtain ⟨q1, q2, q3, q4⟩ := lres_end H0.out Hsz.out U1.out U3.out R3.out B3.out (newB_nil _) (reply_upd w3 _ _ _ _ _ _)
    have hq := HQ.out
    have er : readR ⟨k, z, n, xv, xs⟩ zs cnt at_ = (n2, [], e2, p2) := by simp [readR, hq, HN.out, HE.out, HPp.out]
    show LRes b sv zs cnt w (readR ⟨k, z, n, xv, xs⟩ zs cnt at_) _ _
    rw [er]
    exact ⟨_, rfl, q1, q2, q3, q4⟩
  · have HQ := Lib.hid hq
    have t0 : (((k : Int) % 7) == 0) = false := beq_eq_false_iff_ne.2 (by omega)
    have t1 : (((k : Int) % 7) == 1) = false := beq_eq_false_iff_ne.2 (by omega)
    have t2 : (((k : Int) % 7) == 2) = false := beq_eq_false_iff_ne.2 (by omega)
    have t3 : (((k : Int) % 7) == 3) = false := beq_eq_false_iff_ne.2 (by omega)
    have t4 : (((k : Int) % 7) == 4) = true := beq_iff_eq.2 (by omega)
    clear hq hw1
    go_enter Try.func24, Try.ntmps24
    go_wp2_with fail
    rw [← hW1.out]
    refine (ralign_any b sv zs cnt at_ w1 HR.out HS.out).mono ?_
    rintro e w2 ⟨rfl, r2, u2⟩
    obtain ⟨n2, hn2⟩ : ∃ n2 : Nat, n2 = alnN cnt at_ := ⟨_, rfl⟩
    obtain ⟨p2, hp2⟩ : ∃ p2, p2 = at_ + alnN cnt at_ := ⟨_, rfl⟩
    rw [← hp2] at r2
    rw [← hn2]
    have HN := Lib.hid hn2; have HPp := Lib.hid hp2
    clear hn2 hp2
    have hne : w.heap.size + 1 ≠ b := by have := Hlt.out; omega
    have C2 := Lib.hid (u2.heap HC.out hne)
    have R2 := Lib.hid r2; have U2 := Lib.hid u2
    clear r2 u2 hne
    go_wp2_with fail
    refine (at_any b p2 w2 R2.out.c2).mono ?_
    rintro e w2' ⟨rfl, rfl⟩
    go_wp2_with fail
    refine (left_any b cnt p2 w2 R2.out.c1 R2.out.c2 R2.out.2.2.2.2.1 R2.out.2.2.2.1).mono ?_
    rintro e w3 ⟨rfl, rfl⟩
    have C3 := (show w2.drew.heap[w.heap.size + 1]? = _ from C2.out)
    have R3 := Lib.hid (R2.out.drew)
    have U3 := Lib.hid (U2.out.drew)
    have B3 := Lib.hid (row8_nil w2.drew)
    clear C2 R2 U2
    generalize w2.drew = w3 at *
    have f0 := blk_cell C3 0
    have f1 := blk_cell C3 1
    have f2 := blk_cell C3 2
    have f3 := blk_cell C3 3
    have f4 := blk_cell C3 4
    have g0 := blk_free C3 0
    have g1 := blk_free C3 1
    have g2 := blk_free C3 2
    have g3 := blk_free C3 3
    have g4 := blk_free C3 4
    have HC3 := Lib.hid C3; clear C3
    go_wp2_with fail
    refine bodyPost_ret (results_cell_row rfl _ _ (w.heap.size + 1) 50 _ (0, 0) _ rfl (reply_heap w3 _ _ _ _ _ _ _ _ _ _ _ _ HC3.out) Try.underlying50 rfl reply_size) rfl ?_
    rw [← HP.out]
    obtain ⟨q1, q2, q3, q4⟩ := lres_end H0.out Hsz.out U1.out U3.out R3.out B3.out (newB_nil _) (reply_upd w3 _ _ _ _ _ _)
    have hq := HQ.out
    have er : readR ⟨k, z, n, xv, xs⟩ zs cnt at_ = ((n2 : Int), [], 0, p2) := by simp [readR, hq, HN.out, HPp.out]
    show LRes b sv zs cnt w (readR ⟨k, z, n, xv, xs⟩ zs cnt at_) _ _
    rw [er]
    exact ⟨_, rfl, q1, q2, q3, q4⟩
  · have HQ := Lib.hid hq
    have t0 : (((k : Int) % 7) == 0) = false := beq_eq_false_iff_ne.2 (by omega)
    have t1 : (((k : Int) % 7) == 1) = false := beq_eq_false_iff_ne.2 (by omega)
    have t2 : (((k : Int) % 7) == 2) = false := beq_eq_false_iff_ne.2 (by omega)
    have t3 : (((k : Int) % 7) == 3) = false := beq_eq_false_iff_ne.2 (by omega)
    have t4 : (((k : Int) % 7) == 4) = false := beq_eq_false_iff_ne.2 (by omega)
    have t5 : (((k : Int) % 7) == 5) = true := beq_iff_eq.2 (by omega)
    clear hq hw1
    go_enter Try.func24, Try.ntmps24
    go_wp2_with fail
    rw [← hW1.out]
    refine (take_any b sv zs cnt at_ n w1 HR.out HS.out).mono ?_
    rintro e w2 ⟨bv, rfl, row2, new2, r2, u2⟩
    obtain ⟨ba, bc, rfl⟩ := row8_slice row2
    obtain ⟨o2, ho2⟩ : ∃ o2, o2 = (takeOut zs cnt at_ n).1 := ⟨_, rfl⟩
    rw [← ho2] at row2 new2 ⊢
    obtain ⟨e2, he2⟩ : ∃ e2, e2 = (takeOut zs cnt at_ n).2.1 := ⟨_, rfl⟩
    obtain ⟨p2, hp2⟩ : ∃ p2, p2 = (takeOut zs cnt at_ n).2.2 := ⟨_, rfl⟩
    rw [← hp2] at r2
    rw [← he2]
    have HO := Lib.hid ho2; have HE := Lib.hid he2; have HPp := Lib.hid hp2
    have B2 := Lib.hid row2; have HB := Lib.hid new2
    clear ho2 he2 hp2 row2 new2
    have hne : w.heap.size + 1 ≠ b := by have := Hlt.out; omega
    have C2 := Lib.hid (u2.heap HC.out hne)
    have R2 := Lib.hid r2; have U2 := Lib.hid u2
    clear r2 u2 hne
    go_wp2_with fail
    refine (at_any b p2 w2 R2.out.c2).mono ?_
    rintro e w2' ⟨rfl, rfl⟩
    go_wp2_with fail
    refine (left_any b cnt p2 w2 R2.out.c1 R2.out.c2 R2.out.2.2.2.2.1 R2.out.2.2.2.1).mono ?_
    rintro e w3 ⟨rfl, rfl⟩
    have C3 := (show w2.drew.heap[w.heap.size + 1]? = _ from C2.out)
    have R3 := Lib.hid (R2.out.drew)
    have U3 := Lib.hid (U2.out.drew)
    have B3 := Lib.hid (show Row8 w2.drew (.slice ba o2.length bc) o2 from B2.out)
    clear C2 R2 U2
    generalize w2.drew = w3 at *
    have f0 := blk_cell C3 0
    have f1 := blk_cell C3 1
    have f2 := blk_cell C3 2
    have f3 := blk_cell C3 3
    have f4 := blk_cell C3 4
    have g0 := blk_free C3 0
    have g1 := blk_free C3 1
    have g2 := blk_free C3 2
    have g3 := blk_free C3 3
    have g4 := blk_free C3 4
    have HC3 := Lib.hid C3; clear C3
    go_wp2_with fail
    refine bodyPost_ret (results_cell_row rfl _ _ (w.heap.size + 1) 50 _ (0, 0) _ rfl (reply_heap w3 _ _ _ _ _ _ _ _ _ _ _ _ HC3.out) Try.underlying50 rfl reply_size) rfl ?_
    rw [← HP.out]
    obtain ⟨q1, q2, q3, q4⟩ := lres_end H0.out Hsz.out U1.out U3.out R3.out B3.out HB.out (reply_upd w3 _ _ _ _ _ _)
    have hq := HQ.out
    have er : readR ⟨k, z, n, xv, xs⟩ zs cnt at_ = (0, o2, e2, p2) := by simp [readR, hq, HO.out, HE.out, HPp.out]
    show LRes b sv zs cnt w (readR ⟨k, z, n, xv, xs⟩ zs cnt at_) _ _
    rw [er]
    exact ⟨_, rfl, q1, q2, q3, q4⟩
  · have HQ := Lib.hid hq
    have t0 : (((k : Int) % 7) == 0) = false := beq_eq_false_iff_ne.2 (by omega)
    have t1 : (((k : Int) % 7) == 1) = false := beq_eq_false_iff_ne.2 (by omega)
    have t2 : (((k : Int) % 7) == 2) = false := beq_eq_false_iff_ne.2 (by omega)
    have t3 : (((k : Int) % 7) == 3) = false := beq_eq_false_iff_ne.2 (by omega)
    have t4 : (((k : Int) % 7) == 4) = false := beq_eq_false_iff_ne.2 (by omega)
    have t5 : (((k : Int) % 7) == 5) = false := beq_eq_false_iff_ne.2 (by omega)
    clear hq hw1
    go_enter Try.func24, Try.ntmps24
    go_wp2_with fail
    rw [← hW1.out]
    refine (seek_any b sv zs cnt at_ n w1 HR.out HS.out).mono ?_
    rintro e w2 ⟨rfl, r2, u2⟩
    obtain ⟨e2, he2⟩ : ∃ e2, e2 = (seekR cnt at_ n).1 := ⟨_, rfl⟩
    obtain ⟨p2, hp2⟩ : ∃ p2, p2 = (seekR cnt at_ n).2 := ⟨_, rfl⟩
    rw [← hp2] at r2
    rw [← he2]
    have HE := Lib.hid he2; have HPp := Lib.hid hp2
    clear he2 hp2
    have hne : w.heap.size + 1 ≠ b := by have := Hlt.out; omega
    have C2 := Lib.hid (u2.heap HC.out hne)
    have R2 := Lib.hid r2; have U2 := Lib.hid u2
    clear r2 u2 hne
    go_wp2_with fail
    refine (at_any b p2 w2 R2.out.c2).mono ?_
    rintro e w2' ⟨rfl, rfl⟩
    go_wp2_with fail
    refine (left_any b cnt p2 w2 R2.out.c1 R2.out.c2 R2.out.2.2.2.2.1 R2.out.2.2.2.1).mono ?_
    rintro e w3 ⟨rfl, rfl⟩
    have C3 := (show w2.drew.heap[w.heap.size + 1]? = _ from C2.out)
    have R3 := Lib.hid (R2.out.drew)
    have U3 := Lib.hid (U2.out.drew)
    have B3 := Lib.hid (row8_nil w2.drew)
    clear C2 R2 U2
    generalize w2.drew = w3 at *
    have f0 := blk_cell C3 0
    have f1 := blk_cell C3 1
    have f2 := blk_cell C3 2
    have f3 := blk_cell C3 3
    have f4 := blk_cell C3 4
    have g0 := blk_free C3 0
    have g1 := blk_free C3 1
    have g2 := blk_free C3 2
    have g3 := blk_free C3 3
    have g4 := blk_free C3 4
    have HC3 := Lib.hid C3; clear C3
    go_wp2_with fail
    refine bodyPost_ret (results_cell_row rfl _ _ (w.heap.size + 1) 50 _ (0, 0) _ rfl (reply_heap w3 _ _ _ _ _ _ _ _ _ _ _ _ HC3.out) Try.underlying50 rfl reply_size) rfl ?_
    rw [← HP.out]
    obtain ⟨q1, q2, q3, q4⟩ := lres_end H0.out Hsz.out U1.out U3.out R3.out B3.out (newB_nil _) (reply_upd w3 _ _ _ _ _ _)
    have hq := HQ.out
    have er : readR ⟨k, z, n, xv, xs⟩ zs cnt at_ = (0, [], e2, p2) := by simp [readR, hq, HE.out, HPp.out]
    show LRes b sv zs cnt w (readR ⟨k, z, n, xv, xs⟩ zs cnt at_) _ _
    rw [er]
    exact ⟨_, rfl, q1, q2, q3, q4⟩
end Go.Proofs.Ytdjaileeklhkmaa
