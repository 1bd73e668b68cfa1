/- rice: the law of Get -/
import Derived.Test.YtmdladcfckoglaaKX
import Derived.Deep.RegionHeld3
namespace Go.Proofs.Ytmdladcfckoglaa
open Go.RowKit Go.Shelf

/-- Both readers at one place. -/
def Both (p q : Nat) (rv qv : Value) (zs : List Nat) (cnt at_ : Nat) (w : World) : Prop := RAt w p rv zs cnt at_ ∧ QAt w q qv (bitsOf zs 0 cnt) at_
/-- What parts them: blocks. -/
structure Part (p q : Nat) (rv qv : Value) (zs : List Nat) (cnt : Nat) : Prop where
  pq : p ≠ q
  rp : zs ≠ [] → rv.ownBlock ≠ some p
  rq : zs ≠ [] → rv.ownBlock ≠ some q
  qp : bitsOf zs 0 cnt ≠ [] → qv.ownBlock ≠ some p
theorem Both.later {p q : Nat} {rv qv : Value} {zs : List Nat} {cnt at_ : Nat} {w w' : World} (h : Both p q rv qv zs cnt at_ w) (u : Upd NoB w w') : Both p q rv qv zs cnt at_ w' :=
  ⟨h.1.upd u (fun k _ => noB k), h.2.upd u (fun k _ => noB k)⟩

theorem keep4 {W w5 : World} {g : Nat} {c0 c1 c2 c3 : Value} {T : TypeId} {S : Nat → Prop} (h : W.heap[g]? = some (.cells #[c0, c1, c2, c3] T (0, 0))) (t : Upd S W w5) (hn : ¬ S g) :
    w5.cell? ⟨g, 0, none⟩ = some c0 ∧ w5.cell? ⟨g, 1, none⟩ = some c1 ∧ w5.cell? ⟨g, 2, none⟩ = some c2 ∧ w5.cell? ⟨g, 3, none⟩ = some c3 := by
  have h5 := t.heap h hn
  exact ⟨blk_cell h5 0, blk_cell h5 1, blk_cell h5 2, blk_cell h5 3⟩
theorem two_not {p q n : Nat} (hp : p < n) (hq : q < n) : ¬ (fun k => k = p ∨ k = q) n := by
  show ¬ (n = p ∨ n = q); omega
theorem two_not' {p q n : Nat} (hp : n < p) (hq : n < q) : ¬ (fun k => k = p ∨ k = q) n := by
  show ¬ (n = p ∨ n = q); omega
theorem q_5 {W w5 : World} {p q : Nat} {rv qv : Value} {zs : List Nat} {cnt at_ : Nat} (h : QAt W q qv (bitsOf zs 0 cnt) at_) (u : Upd (fun k => k = p) W w5) (hp : Part p q rv qv zs cnt) : QAt w5 q qv (bitsOf zs 0 cnt) at_ :=
  h.upd u (fun k hk (e : k = p) => by
    rcases hk with rfl | ⟨hz, hk⟩
    · exact hp.pq e.symm
    · exact hp.qp hz (by rw [hk, e]))
theorem both_p {W w5 : World} {p q : Nat} {rv qv : Value} {zs : List Nat} {cnt at_ : Nat} (h : Both p q rv qv zs cnt at_ W) (u : Upd (fun k => k = q) W w5) (hp : Part p q rv qv zs cnt) : RAt w5 p rv zs cnt at_ :=
  h.1.upd u (fun k hk (e : k = q) => by
    rcases hk with rfl | ⟨hz, hk⟩
    · exact hp.pq e
    · exact hp.rq hz (by rw [hk, e]))
theorem both_6 {w5 w6 : World} {p q : Nat} {rv qv : Value} {zs : List Nat} {cnt at_ : Nat} (h : RAt w5 p rv zs cnt at_) (h6 : QAt w6 q qv (bitsOf zs 0 cnt) at_) (u : Upd (fun k => k = q) w5 w6) (hp : Part p q rv qv zs cnt) : Both p q rv qv zs cnt at_ w6 :=
  ⟨h.upd u (fun k hk (e : k = q) => by
    rcases hk with rfl | ⟨hz, hk⟩
    · exact hp.pq e
    · exact hp.rq hz (by rw [hk, e])), h6⟩

set_option maxRecDepth 100000 in
set_option maxHeartbeats 8000000 in
theorem gets_law (sv : Value) (zs : List Nat) (x y k : Int) (w : World) (hs : Bytes w sv zs) (hzl : zs.length ≤ 140737488355328) :
    Calls Try.prog 6 #[sv, .agg #[.int .i64 x, .int .i64 y], .int .i64 k] w fun e w' => e = .returned (.bool true) ∧ Upd NoB w w' := by
  obtain ⟨sa, sc, rfl⟩ : ∃ a c, sv = .slice a zs.length c := by obtain ⟨_, a, c, e, _⟩ := hs; exact ⟨a, c, e⟩
  obtain ⟨W, hW⟩ : ∃ W, W = w.alloc (.cells #[.int .i64 x, .int .i64 y] 45) := ⟨_, rfl⟩
  have b0 : W.heap[w.heap.size]? = some (.cells #[.int .i64 x, .int .i64 y] 45 (0, 0)) := by rw [hW]; exact heap_alloc_new w _
  have u0 : Upd NoB w W := by rw [hW]; exact (Upd.refl _ _).alloc _
  have HS := Lib.hid (bytes_later hs u0)
  have HW := Lib.hid hW; have B0 := Lib.hid b0; have U0 := Lib.hid u0
  have d0 : W.cell? ⟨w.heap.size, 0, none⟩ = some (.int .i64 x) := blk_cell b0 0
  obtain ⟨Z, hZ⟩ : ∃ Z, zs.length = Z := ⟨_, rfl⟩
  have HZ := Lib.hid hZ
  rw [hZ] at HS hzl ⊢
  clear hs hW b0 u0 hZ
  by_cases h1 : 400 < Z
  · have t1 : decide ((400 : Int) < (Z : Int)) = true := decide_eq_true (by omega)
    clear h1
    go_enter Try.func6, Try.ntmps6
    go_wp2_with fail
    rw [← HW.out]
    refine (kawake_any _).mono ?_
    rintro e w' ⟨rfl, u9⟩
    have U9 := Lib.hid (U0.out.then u9); clear u9
    go_wp2
    go_ret
    exact ⟨rfl, U9.out⟩
  have t1 : decide ((400 : Int) < (Z : Int)) = false := decide_eq_false (by omega)
  have hz1 : Z ≤ 400 := by omega
  clear h1
  go_enter Try.func6, Try.ntmps6
  go_wp2_with fail
  rw [← HW.out]
  refine (open_any _ zs x W HS.out (by rw [HZ.out]; omega)).mono ?_
  intro e w1 hr
  rcases hr with ⟨hb, rfl, u1⟩ | ⟨hb1, hb2, rfl, u1⟩ | ⟨hb1, hb2, p, rv, rfl, hp, hR, nv, hsp, u1⟩
  · have U1 := Lib.hid u1; have HB := Lib.hid hb
    have e0 := u1.cell d0 (noB _)
    clear u1 hb
    go_wp2_with fail
    refine (qopen_any _ zs x w1 (bytes_later HS.out U1.out) (by rw [HZ.out]; omega)).mono ?_
    intro e w2 hr
    rcases hr with ⟨_, rfl, u2⟩ | ⟨hc1, _⟩ | ⟨hc1, _⟩
    · have U2 := Lib.hid ((U0.out.then U1.out).then u2); clear u2
      go_wp2_with fail
      refine (kawake_any _).mono ?_
      rintro e w' ⟨rfl, u9⟩
      have U9 := Lib.hid (U2.out.then u9); clear u9
      go_wp2
      go_ret
      exact ⟨rfl, U9.out⟩
    · exact absurd HB.out hc1
    · exact absurd HB.out hc1
  · have U1 := Lib.hid u1; have HB1 := Lib.hid hb1; have HB2 := Lib.hid hb2
    have e0 := u1.cell d0 (noB _)
    clear u1 hb1 hb2
    go_wp2_with fail
    refine (qopen_any _ zs x w1 (bytes_later HS.out U1.out) (by rw [HZ.out]; omega)).mono ?_
    intro e w2 hr
    rcases hr with ⟨hc, _⟩ | ⟨_, _, rfl, u2⟩ | ⟨_, hc, _⟩
    · exact absurd hc HB1.out
    · have U2 := Lib.hid ((U0.out.then U1.out).then u2); clear u2
      go_wp2_with fail
      refine (kawake_any _).mono ?_
      rintro e w' ⟨rfl, u9⟩
      have U9 := Lib.hid (U2.out.then u9); clear u9
      go_wp2
      go_ret
      exact ⟨rfl, U9.out⟩
    · have := HB2.out; exfalso; omega
  · have U1 := Lib.hid u1; have HB1 := Lib.hid hb1; have HB2 := Lib.hid hb2
    have e0 := u1.cell d0 (noB _)
    have R1 := Lib.hid hR; have NV := Lib.hid nv; have HSp := Lib.hid hsp
    clear u1 hb1 hb2 hR nv hsp
    go_wp2_with fail
    refine (qopen_any _ zs x w1 (bytes_later HS.out U1.out) (by rw [HZ.out]; omega)).mono ?_
    intro e w2 hr
    rcases hr with ⟨hc, _⟩ | ⟨_, hc, _⟩ | ⟨_, _, q, qv, rfl, hq, hQ, nq, u2⟩
    · exact absurd hc HB1.out
    · have := HB2.out; exfalso; omega
    · have hlt1 := lt_of_block R1.out.1
      have hpq : p ≠ q := by omega
      have hPart : Part p q rv qv (zs.take ((x.toNat + 7) / 8)) x.toNat := ⟨hpq, fun _ => HSp.out, fun hne e => by
        obtain ⟨c, t, fr, hc⟩ := R1.out.2.1.lt hne q e
        have := lt_of_block hc; omega, fun _ e => by have := nq p e; omega⟩
      have hbe : bitsOf (zs.take ((x.toNat + 7) / 8)) 0 x.toNat = bitsOf zs 0 x.toNat := bitsOf_cut zs x.toNat _ (by omega)
      rw [← hbe] at hQ
      have hB : Both p q rv qv (zs.take ((x.toNat + 7) / 8)) x.toNat 0 w2 := ⟨R1.out.upd u2 (fun k _ => noB k), hQ⟩
      have U2 := Lib.hid ((U0.out.then U1.out).then u2)
      have d1 : w2.cell? ⟨w.heap.size, 1, none⟩ = some (.int .i64 y) := ((U1.out.then u2).cell (blk_cell B0.out 1) (noB _))
      have hps : w.heap.size < p := by have h1 := lt_of_block B0.out; omega
      have hqs : w.heap.size < q := by have h1 := lt_of_block B0.out; have := U1.out.size; omega
      generalize zs.take ((x.toNat + 7) / 8) = ys at *
      generalize x.toNat = cnt at *
      have HB := Lib.hid hB; have HPart := Lib.hid hPart
      clear hB hPart hbe hQ nq u2 R1 NV HSp HB1 HB2 U1
      obtain ⟨E, A, hEA⟩ : ∃ E A, seekR cnt 0 y = (E, A) := ⟨_, _, rfl⟩
      have hE2 : seekR (bitsOf ys 0 cnt).length 0 y = (E, A) := by rw [bitsOf_len, hEA]
      have SA := Lib.hid (fun (X : World) (h : RAt X p rv ys cnt 0) => show Calls Try.prog 35 #[.pointer (some ⟨p, 0, none⟩), .int .i64 y] X fun e w' => e = .returned (.int .i64 E) ∧ RAt w' p rv ys cnt A ∧ Upd (fun k => k = p) X w' by
        have := seek_any p rv ys cnt 0 y X h HPart.out.rp; rwa [hEA] at this)
      have SB := Lib.hid (fun (X : World) (h : QAt X q qv (bitsOf ys 0 cnt) 0) => show Calls Try.prog 36 #[.pointer (some ⟨q, 0, none⟩), .int .i64 y] X fun e w' => e = .returned (.int .i64 E) ∧ QAt w' q qv (bitsOf ys 0 cnt) A ∧ Upd (fun k => k = q) X w' by
        have := qseek_any q qv (bitsOf ys 0 cnt) 0 y X h; rwa [hE2] at this)
      have KP := Lib.hid (show ∀ X : World, Upd (fun k => k = p) w2 X → X.cell? ⟨w.heap.size, 1, none⟩ = some (.int .i64 y) from fun X u => u.cell d1 (fun e => by have e' : w.heap.size = p := e; omega))
      have KQ := Lib.hid (show ∀ X : World, Upd (fun k => k = q) w2 X → X.cell? ⟨w.heap.size, 1, none⟩ = some (.int .i64 y) from fun X u => u.cell d1 (fun e => by have e' : w.heap.size = q := e; omega))
      have KS := Lib.hid (show ∀ X : World, Upd (fun k => k = p ∨ k = q) w2 X → X.cell? ⟨w.heap.size, 1, none⟩ = some (.int .i64 y) from fun X u => u.cell d1 (two_not' hps hqs))
      have RQ1 := Lib.hid (show ∀ X : World, Upd (fun k => k = q) w2 X → RAt X p rv ys cnt 0 from fun X u => both_p HB.out u HPart.out)
      have RP1 := Lib.hid (show ∀ X : World, Upd (fun k => k = p) w2 X → QAt X q qv (bitsOf ys 0 cnt) 0 from fun X u => q_5 HB.out.2 u HPart.out)
      clear hEA hE2
      go_wp2_with fail
      go_region_held3 (fun X => X.cell? ⟨w.heap.size, 1, none⟩ = some (.int .i64 y)) (first | exact d1 | exact KS.out _ (by exact T2.out) | exact KQ.out _ (by exact TB.out) | exact KP.out _ (by exact TA.out) | go_keep)
        (first
          | (go_at_call 35; (with_reducible refine (SA.out _ (RQ1.out _ (by exact TB.out))).mono ?_); rintro e wa ⟨rfl, ra, ua⟩; have T2 := Lib.hid (show Upd (fun k => k = p ∨ k = q) w2 wa from (TB.out.mono (fun _ _ h => Or.inr h)).trans ua (fun _ _ h => Or.inl h)); have RA := Lib.hid ra; have UA := Lib.hid ua; clear ra ua)
          | (go_at_call 36; (with_reducible refine (SB.out _ (RP1.out _ (by exact TA.out))).mono ?_); rintro e wb ⟨rfl, rb, ub⟩; have T2 := Lib.hid (show Upd (fun k => k = p ∨ k = q) w2 wb from (TA.out.mono (fun _ _ h => Or.inl h)).trans ub (fun _ _ h => Or.inr h)); have RB := Lib.hid rb; have UB := Lib.hid ub; clear rb ub)
          | (go_at_call 35; (with_reducible refine (SA.out _ (RQ1.out _ (by exact (Upd.refl _ w2).drew))).mono ?_); rintro e wa ⟨rfl, ra, ua⟩; have TA := Lib.hid (show Upd (fun k => k = p) w2 wa from (Upd.refl (fun k => k = p) w2).drew.trans ua (fun _ _ h => h)); have RA := Lib.hid ra; have UA := Lib.hid ua; clear ra ua)
          | (go_at_call 36; (with_reducible refine (SB.out _ (RP1.out _ (by exact (Upd.refl _ w2).drew))).mono ?_); rintro e wb ⟨rfl, rb, ub⟩; have TB := Lib.hid (show Upd (fun k => k = q) w2 wb from (Upd.refl (fun k => k = q) w2).drew.trans ub (fun _ _ h => h)); have RB := Lib.hid rb; have UB := Lib.hid ub; clear rb ub))
      have U3 := Lib.hid (show Upd NoB w wb from U2.out.trans T2.out (fun i hi h => by rcases h with h | h <;> omega))
      have HB3 := Lib.hid (both_6 RA.out RB.out UB.out HPart.out)
      clear d1 SA SB KP KQ KS RQ1 RP1 HB U2
      go_wp2_with fail
      go_loopw [57] (fun i wr => ∃ (j A : Nat), j ≤ 60 ∧ i = .int .i64 j ∧ Both p q rv qv ys cnt A wr ∧ Upd NoB w wr) (fun i _ => 60 - (intOf i).toNat)
      case atStart => exact ⟨0, A, Nat.zero_le _, rfl, HB3.out, U3.out⟩
      case round =>
        obtain ⟨j, at_, hj, rfl, hB, hU⟩ := hrel
        have HB := Lib.hid hB; have HU := Lib.hid hU; clear hB hU HB3 U3 RA RB UB T2 TA
        by_cases hlt : j < 60
        · obtain ⟨X, G, P, hg⟩ : ∃ X G P, gtR ys cnt at_ k = (X, G, P) := ⟨_, _, _, rfl⟩
          have GA := Lib.hid (show Calls Try.prog 37 #[.pointer (some ⟨p, 0, none⟩), .int .i64 k] wr fun e w' => e = .returned (.tuple #[.int .i64 X, .int .i64 G]) ∧ RAt w' p rv ys cnt P ∧ Upd (fun k => k = p) wr w' by
            have := Get_any p rv ys cnt at_ k wr HB.out.1 HPart.out.rp; rw [hg] at this; exact this)
          have GB := Lib.hid (fun (V : World) (h : QAt V q qv (bitsOf ys 0 cnt) at_) => show Calls Try.prog 38 #[.pointer (some ⟨q, 0, none⟩), .int .i64 k] V fun e w' => e = .returned (.tuple #[.int .i64 X, .int .i64 G]) ∧ QAt w' q qv (bitsOf ys 0 cnt) P ∧ Upd (fun k => k = q) V w' by
            have := rGet_any q qv ys cnt at_ k V h; rw [hg] at this; exact this)
          clear hg
          go_wp2_with fail
          refine GA.out.mono ?_
          rintro e w5 ⟨rfl, r5, u5⟩
          have R5 := Lib.hid r5; have U5 := Lib.hid u5; clear r5 u5
          go_wp2_with fail
          refine (GB.out w5 (q_5 HB.out.2 U5.out HPart.out)).mono ?_
          rintro e w6 ⟨rfl, r6, u6⟩
          have HB6 := Lib.hid (both_6 R5.out r6 u6 HPart.out)
          have HU6 := Lib.hid (show Upd NoB w w6 from (HU.out.trans U5.out (fun i hi (h : i = p) => by omega)).trans u6 (fun i hi (h : i = q) => by omega))
          clear r6 u6 R5 U5
          by_cases hG : G = 0
          · subst hG
            go_wp2_with (first | (go_at_call 39; refine (at_any _ _ _ HB6.out.1.c2).mono ?_; rintro e w' ⟨rfl, rfl⟩) | (go_at_call 40; refine (qat_any _ _ _ HB6.out.2.c1).mono ?_; rintro e w' ⟨rfl, rfl⟩))
            refine ⟨⟨j + 1, P, by omega, by go_num, HB6.out, HU6.out⟩, ?_⟩
            simp [intOf]; omega
          · have tG : (G != 0) = true := bne_iff_ne.2 hG
            clear hG
            go_wp2_with (first | (go_at_call 39; refine (at_any _ _ _ HB6.out.1.c2).mono ?_; rintro e w' ⟨rfl, rfl⟩) | (go_at_call 40; refine (qat_any _ _ _ HB6.out.2.c1).mono ?_; rintro e w' ⟨rfl, rfl⟩))
            refine (Get_nil 0 _).mono ?_
            rintro e w8 ⟨rfl, rfl⟩
            go_wp2_with fail
            refine (kawake_any _).mono ?_
            rintro e w8 ⟨rfl, u8⟩
            have U8 := Lib.hid (HU6.out.then u8)
            clear u8
            go_wp2_with fail
            go_ret
            exact ⟨rfl, U8.out⟩
        · obtain rfl : j = 60 := by omega
          go_wp2_with fail
          refine (Get_nil 0 _).mono ?_
          rintro e w8 ⟨rfl, rfl⟩
          go_wp2_with fail
          refine (kawake_any _).mono ?_
          rintro e w8 ⟨rfl, u8⟩
          have U8 := Lib.hid (HU.out.then u8)
          clear u8
          go_wp2_with fail
          go_ret
          exact ⟨rfl, U8.out⟩
end Go.Proofs.Ytmdladcfckoglaa
