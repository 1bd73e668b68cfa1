/- BitsReads, as the law has it -/
import Derived.Test.YtdjaileeklhkmaaNilL
import Derived.Test.YtdjaileeklhkmaaBack
namespace Go.Proofs.Ytdjaileeklhkmaa
open Go.RowKit Go.Shelf

/-- Both readers at one place. -/
def Both (p q : Nat) (rv qv : Value) (zs : List Nat) (cnt at_ : Nat) (w : World) : Prop := RAt w p rv zs cnt at_ ∧ QAt w q qv (bitsOf zs 0 cnt) at_
/-- What parts them: blocks. -/
structure Part (p q : Nat) (rv qv : Value) (zs : List Nat) (cnt : Nat) : Prop where
  pq : p ≠ q
  rp : zs ≠ [] → rv.ownBlock ≠ some p
  rq : zs ≠ [] → rv.ownBlock ≠ some q
  qp : bitsOf zs 0 cnt ≠ [] → qv.ownBlock ≠ some p
theorem Both.later {p q : Nat} {rv qv : Value} {zs : List Nat} {cnt at_ : Nat} {w w' : World} (h : Both p q rv qv zs cnt at_ w) (u : Upd NoB w w') : Both p q rv qv zs cnt at_ w' :=
  ⟨h.1.upd u (fun k _ => noB k), h.2.upd u (fun k _ => noB k)⟩

theorem keep4 {W w5 : World} {g : Nat} {c0 c1 c2 c3 : Value} {T : TypeId} {S : Nat → Prop} (h : W.heap[g]? = some (.cells #[c0, c1, c2, c3] T (0, 0))) (t : Upd S W w5) (hn : ¬ S g) :
    w5.cell? ⟨g, 0, none⟩ = some c0 ∧ w5.cell? ⟨g, 1, none⟩ = some c1 ∧ w5.cell? ⟨g, 2, none⟩ = some c2 ∧ w5.cell? ⟨g, 3, none⟩ = some c3 := by
  have h5 := t.heap h hn
  exact ⟨blk_cell h5 0, blk_cell h5 1, blk_cell h5 2, blk_cell h5 3⟩
theorem two_not {p q n : Nat} (hp : p < n) (hq : q < n) : ¬ (fun k => k = p ∨ k = q) n := by
  show ¬ (n = p ∨ n = q); omega
theorem q_5 {W w5 : World} {p q : Nat} {rv qv : Value} {zs : List Nat} {cnt at_ : Nat} (h : QAt W q qv (bitsOf zs 0 cnt) at_) (u : Upd (fun k => k = p) W w5) (hp : Part p q rv qv zs cnt) : QAt w5 q qv (bitsOf zs 0 cnt) at_ :=
  h.upd u (fun k hk (e : k = p) => by
    rcases hk with rfl | ⟨hz, hk⟩
    · exact hp.pq e.symm
    · exact hp.qp hz (by rw [hk, e]))
theorem both_6 {w5 w6 : World} {p q : Nat} {rv qv : Value} {zs : List Nat} {cnt at_ : Nat} (h : RAt w5 p rv zs cnt at_) (h6 : QAt w6 q qv (bitsOf zs 0 cnt) at_) (u : Upd (fun k => k = q) w5 w6) (hp : Part p q rv qv zs cnt) : Both p q rv qv zs cnt at_ w6 :=
  ⟨h.upd u (fun k hk (e : k = q) => by
    rcases hk with rfl | ⟨hz, hk⟩
    · exact hp.pq e
    · exact hp.rq hz (by rw [hk, e])), h6⟩
set_option maxRecDepth 100000 in
set_option maxHeartbeats 8000000 in
theorem reads_any (ba : Option Addr) (bc : Nat) (zs : List Nat) (n : Int) (sv : Value) (xs : List OpD) (w : World) (hb : Bytes w (.slice ba zs.length bc) zs) (hbl : zs.length ≤ 140737488355328) (h : Ops w sv xs) :
    Calls Try.prog 4 #[.slice ba zs.length bc, .int .i64 n, sv] w fun e w' => e = .returned (.bool true) ∧ Upd NoB w w' := by
  obtain ⟨a, cap, rfl, h1, h2, hq⟩ := id h
  unfold maxLen at h2
  obtain ⟨L, hL⟩ : ∃ L, L = xs.length := ⟨_, rfl⟩
  rw [← hL] at h1 h ⊢
  obtain ⟨Z, hZ⟩ : ∃ Z, Z = zs.length := ⟨_, rfl⟩
  rw [← hZ] at hb hbl ⊢
  have HL := Lib.hid hL; have HZ := Lib.hid hZ; clear hL hZ
  have H := Lib.hid h; have HB := Lib.hid hb
  clear h hq hb
  go_enter Try.func4, Try.ntmps4
  by_cases hbig : 140000 < Z
  · have t0 : decide ((140000 : Int) < (Z : Int)) = true := decide_eq_true (by omega)
    go_wp2_with fail
    refine (awake_any w).mono ?_
    rintro e w2 ⟨rfl, u2⟩
    have U2 := Lib.hid u2; clear u2
    go_wp2_with fail
    go_ret
    exact ⟨rfl, U2.out⟩
  have t0 : decide ((140000 : Int) < (Z : Int)) = false := decide_eq_false (by omega)
  go_wp2_with fail
  refine (few_any _ xs w (by have := H.out; exact this)).mono ?_
  rintro e w1 ⟨rfl, u1⟩
  have U1 := Lib.hid u1
  clear u1
  cases hf : fewB xs with
  | false =>
    have Hf := Lib.hid hf; clear hf
    go_wp2_with fail
    refine (awake_any w1).mono ?_
    rintro e w2 ⟨rfl, u2⟩
    have U2 := Lib.hid (U1.out.trans u2 (fun k _ h => h)); clear u2
    go_wp2_with fail
    go_ret
    exact ⟨rfl, U2.out⟩
  | true =>
  obtain ⟨hsum, hl60⟩ : sumZ xs ≤ 140000 ∧ xs.length ≤ 60 := of_decide_eq_true hf
  have Hf := Lib.hid hf; clear hf
  have Hops := Lib.hid (H.out.upd U1.out)
  have B1 := Lib.hid (bytes_later HB.out U1.out)
  clear HB hsum hl60
  go_wp2_with fail
  refine (open_any _ zs n w1 B1.out (by rw [← HZ.out]; exact hbl)).mono ?_
  intro e w2 hr
  rcases hr with ⟨hbad, rfl, u2⟩ | ⟨hok, hfull, rfl, u2⟩ | ⟨hok, hle, p, rv, rfl, hp, hR, nr, hs, u2⟩
  · have U2 := Lib.hid u2; have B2 := Lib.hid (bytes_later B1.out u2); have Hbad := Lib.hid hbad
    clear u2 hbad
    go_wp2_with fail
    refine (qopen_any _ zs n w2 B2.out (by rw [← HZ.out]; omega)).mono ?_
    intro e w3 hr
    rcases hr with ⟨_, rfl, u3⟩ | ⟨hok, _⟩ | ⟨hok, _⟩
    · have U3 := Lib.hid ((U1.out.trans U2.out (fun k _ h => h)).trans u3 (fun k _ h => h)); clear u3
      go_wp2_with fail
      refine (awake_any w3).mono ?_
      rintro e w4 ⟨rfl, u4⟩
      have U4 := Lib.hid (U3.out.trans u4 (fun k _ h => h)); clear u4
      go_wp2_with fail
      go_ret
      exact ⟨rfl, U4.out⟩
    · exact absurd Hbad.out hok
    · exact absurd Hbad.out hok
  · have U2 := Lib.hid u2; have B2 := Lib.hid (bytes_later B1.out u2); have Hok := Lib.hid hok
    clear u2 hok
    go_wp2_with fail
    refine (qopen_any _ zs n w2 B2.out (by rw [← HZ.out]; omega)).mono ?_
    intro e w3 hr
    rcases hr with ⟨hbad, _⟩ | ⟨_, _, rfl, u3⟩ | ⟨_, hle, _⟩
    · exact absurd hbad Hok.out
    · have U3 := Lib.hid ((U1.out.trans U2.out (fun k _ h => h)).trans u3 (fun k _ h => h)); clear u3
      go_wp2_with fail
      refine (awake_any w3).mono ?_
      rintro e w4 ⟨rfl, u4⟩
      have U4 := Lib.hid (U3.out.trans u4 (fun k _ h => h)); clear u4
      go_wp2_with fail
      go_ret
      exact ⟨rfl, U4.out⟩
    · exfalso; omega
  have R2 := Lib.hid hR; have Nr := Lib.hid nr; have Hs := Lib.hid hs; have U2 := Lib.hid u2; have Hok := Lib.hid hok; have Hp := Lib.hid hp
  have B2 := Lib.hid (bytes_later B1.out u2)
  clear hR nr hs u2 hok hp
  go_wp2_with fail
  refine (qopen_any _ zs n w2 B2.out (by rw [← HZ.out]; omega)).mono ?_
  intro e w3 hr
  rcases hr with ⟨hbad, _⟩ | ⟨_, hfull, _⟩ | ⟨_, _, q, qv, rfl, hq, hQ, nq, u3⟩
  · exact absurd hbad Hok.out
  · exfalso; omega
  obtain ⟨cnt, hcnt⟩ : ∃ cnt, cnt = n.toNat := ⟨_, rfl⟩
  obtain ⟨zs', hzs'⟩ : ∃ zs', zs' = zs.take ((n.toNat + 7) / 8) := ⟨_, rfl⟩
  have ebits : bitsOf zs 0 cnt = bitsOf zs' 0 cnt := by rw [hzs', hcnt]; exact (bitsOf_cut zs _ _ (by omega)).symm
  have hR3 := R2.out.upd u3 (fun k _ => noB k)
  rw [← hzs', ← hcnt] at hR3
  rw [← hcnt, ebits] at hQ
  have hp2 : p < w2.heap.size := lt_of_block R2.out.1
  have hpart : Part p q rv qv zs' cnt := ⟨by omega, fun _ => Hs.out, fun hz e => by
      obtain ⟨c, t, fr, hc⟩ := R2.out.2.1.lt (by rw [← hzs']; exact hz) q e
      have := lt_of_block hc; omega, fun _ e => by have := nq p e; omega⟩
  have hboth : Both p q rv qv zs' cnt 0 w3 := ⟨hR3, hQ⟩
  have Hb3 := Lib.hid hboth; have Hpart := Lib.hid hpart
  have U3 := Lib.hid ((U1.out.trans U2.out (fun k _ h => h)).trans u3 (fun k _ h => h))
  have Hlo := Lib.hid (show w.heap.size ≤ p ∧ w.heap.size ≤ q from ⟨by have := U1.out.size; have := Hp.out; omega, by have := U1.out.size; have := U2.out.size; omega⟩)
  clear hR3 hQ hboth hpart u3 nq ebits hcnt hzs' hp2 R2 Nr Hs Hok B2 B1 Hops U1 U2 hq Hp hle
  go_wp2_with fail
  go_loopw [53] (fun i wr => ∃ k at_ : Nat, k ≤ L ∧ i = .int .i64 k ∧ Both p q rv qv zs' cnt at_ wr ∧ Upd NoB w wr) (fun i _ => L - (intOf i).toNat)
  case atStart => exact ⟨0, 0, Nat.zero_le _, rfl, Hb3.out, U3.out⟩
  case round =>
    obtain ⟨k, at_, hk, rfl, hbo, hu⟩ := hrel
    have Hbo := Lib.hid hbo; have HU := Lib.hid hu; have Hops := Lib.hid (H.out.upd hu); clear hbo hu U3 Hb3
    by_cases hlt : k < L
    · obtain ⟨x, hx⟩ : ∃ x, xs[k]? = some x := ⟨_, List.getElem?_eq_getElem (by rw [← HL.out]; exact hlt)⟩
      obtain ⟨a', cap', e, _, _, h3⟩ := Hops.out
      injection e with e1 e2 e3
      subst e1; subst e3
      rcases h3 with h3 | ⟨g, off, rfl, h3⟩
      · subst h3; simp at hx
      · obtain ⟨c0, c1, c2, c3, hat⟩ := h3 k x hx
        obtain ⟨kx, z, nx, xsv, xz⟩ := x
        obtain ⟨sa, sc, hsv⟩ : ∃ sa sc, xsv = .slice sa xz.length sc := by obtain ⟨_, sa, sc, hsv, _⟩ := hat.2.1; exact ⟨sa, sc, hsv⟩
        subst hsv
        have hk255 : kx ≤ 255 := hat.1
        simp only at c0 c1 c2 c3
        have hbW := heap_alloc_new wr (.cells #[.int .u8 kx, .int .i64 z, .int .i64 nx, .slice sa xz.length sc] 34)
        have hpw : p < wr.heap.size := lt_of_block Hbo.out.1.1
        have hqw : q < wr.heap.size := lt_of_block Hbo.out.2.1
        have hboW := Hbo.out.later ((Upd.refl NoB wr).alloc (.cells #[.int .u8 kx, .int .i64 z, .int .i64 nx, .slice sa xz.length sc] 34))
        have huW := HU.out.alloc (.cells #[.int .u8 kx, .int .i64 z, .int .i64 nx, .slice sa xz.length sc] 34)
        have hsW : (wr.alloc (.cells #[.int .u8 kx, .int .i64 z, .int .i64 nx, .slice sa xz.length sc] 34)).heap.size = wr.heap.size + 1 := Array.size_push ..
        have HBW := Lib.hid hbW; have Hpw := Lib.hid hpw; have Hqw := Lib.hid hqw; have HboW := Lib.hid hboW; have HuW := Lib.hid huW; have HsW := Lib.hid hsW
        obtain ⟨r1, out, r3, r4, hR⟩ : ∃ r1 out r3 r4, readR ⟨kx, z, nx, .slice sa xz.length sc, xz⟩ zs' cnt at_ = (r1, out, r3, r4) := ⟨_, _, _, _, rfl⟩
        have hcn := Hbo.out.1.2.2.2.2.1
        have hat_ : at_ ≤ cnt := Hbo.out.1.2.2.2.1
        have hread : ∀ (W' : World), RAt W' p rv zs' cnt at_ → Calls Try.prog 24 #[.pointer (some ⟨p, 0, none⟩), .agg #[.int .u8 kx, .int .i64 z, .int .i64 nx, .slice sa xz.length sc]] W' fun e w' =>
            ∃ bv, e = .returned (.agg #[.int .i64 r1, bv, .int .i64 r3, .int .i64 r4, .int .i64 ((cnt : Int) - r4)]) ∧ Row8 w' bv out ∧ newB W' bv ∧ RAt w' p rv zs' cnt r4 ∧ Upd (fun k => k = p) W' w' := fun W' h => by
          refine (lread_any ⟨kx, z, nx, .slice sa xz.length sc, xz⟩ p rv zs' cnt at_ W' h Hpart.out.rp hk255).mono ?_
          rintro e w' ⟨bv, he, h1, h2, h3, h4⟩
          rw [hR] at he h1 h3
          exact ⟨bv, he, h1, h2, h3, h4⟩
        have hask : ∀ (W' : World), QAt W' q qv (bitsOf zs' 0 cnt) at_ → Calls Try.prog 25 #[.pointer (some ⟨q, 0, none⟩), .agg #[.int .u8 kx, .int .i64 z, .int .i64 nx, .slice sa xz.length sc]] W' fun e w' =>
            ∃ bv, e = .returned (.agg #[.int .i64 r1, bv, .int .i64 r3, .int .i64 r4, .int .i64 ((cnt : Int) - r4)]) ∧ Row8 w' bv out ∧ newB W' bv ∧ QAt w' q qv (bitsOf zs' 0 cnt) r4 ∧ Upd (fun k => k = q) W' w' := fun W' h => by
          refine (lasked_any ⟨kx, z, nx, .slice sa xz.length sc, xz⟩ q qv _ at_ W' h hk255).mono ?_
          rintro e w' ⟨bv, he, h1, h2, h3, h4⟩
          rw [readQ_eq _ _ _ _ hat_, hR] at he h1 h3
          rw [bitsOf_length] at he
          exact ⟨bv, he, h1, h2, h3, h4⟩
        have hout := readR_len ⟨kx, z, nx, .slice sa xz.length sc, xz⟩ zs' cnt at_
        rw [hR] at hout
        have Hout := Lib.hid (show out.length ≤ 1099511627776 by have hout : out.length ≤ cnt := hout; omega)
        have Hread := Lib.hid hread; have Hask := Lib.hid hask
        clear h3 hat hx e2 hbW hpw hqw hboW huW hsW hread hask hout hR hcn hat_
        go_wp2_with fail
        generalize wr.alloc _ = W at *
        have d0 := blk_cell HBW.out 0
        have d1 := blk_cell HBW.out 1
        have d2 := blk_cell HBW.out 2
        have d3 := blk_cell HBW.out 3
        clear c0 c1 c2 c3
        go_region_held3 (fun w' => w'.cell? ⟨wr.heap.size, 0, none⟩ = some (.int .u8 kx) ∧ w'.cell? ⟨wr.heap.size, 1, none⟩ = some (.int .i64 z) ∧ w'.cell? ⟨wr.heap.size, 2, none⟩ = some (.int .i64 nx) ∧ w'.cell? ⟨wr.heap.size, 3, none⟩ = some (.slice sa xz.length sc))
          (first | exact ⟨d0, d1, d2, d3⟩ | go_keep)
          (first | (go_at_call 23; refine (lsame_any r1 r3 r4 ((cnt : Int) - r4) _ _ out _ HB6.out RC.out.bytes Hout.out).mono ?_; rintro e w7 ⟨rfl, u7⟩; have U7 := Lib.hid (U6.out.then u7); have Hbo7 := Lib.hid (Hbo6.out.later u7); have T7 := Lib.hid (T6.out.then u7); clear u7 d0 d1 d2 d3; obtain ⟨d0, d1, d2, d3⟩ := keep4 HBW.out T7.out (two_not Hpw.out Hqw.out)) | (go_at_call 24; refine (Hread.out _ (by exact HboW.out.1)).mono ?_; rintro e w5 ⟨bv, rfl, rb, nb, r5, u5⟩; obtain ⟨ba5, bc5, rfl⟩ := row8_slice rb; have RB := Lib.hid rb; have NB := Lib.hid (show newB W (.slice ba5 out.length bc5) from nb); have R5 := Lib.hid r5; have Q5 := Lib.hid (q_5 (w5 := w5) (W := W.drew) HboW.out.2 u5 Hpart.out); have U5 := Lib.hid (HuW.out.drew.trans u5 (fun i hi e => by have := Hlo.out; omega)); have T5 := Lib.hid ((Upd.refl (fun k => k = p ∨ k = q) W).drew.trans u5 (fun i hi e => .inl e)); clear rb nb r5 u5 d0 d1 d2 d3; obtain ⟨d0, d1, d2, d3⟩ := keep4 HBW.out T5.out (two_not Hpw.out Hqw.out)) | (go_at_call 25; refine (Hask.out _ (by exact Q5.out)).mono ?_; rintro e w6 ⟨cv, rfl, rc, nc, q6, u6⟩; obtain ⟨ca, cc, rfl⟩ := row8_slice rc; have RC := Lib.hid rc; have HB6 := Lib.hid (bytes_upd RB.out.bytes u6 (fun _ k hk e => by have := NB.out k hk; have := Hqw.out; have := HsW.out; omega)); have Hbo6 := Lib.hid (both_6 R5.out q6 u6 Hpart.out); have U6 := Lib.hid (U5.out.trans u6 (fun i hi e => by have := Hlo.out; omega)); have T6 := Lib.hid (T5.out.trans u6 (fun i hi e => .inr e)); clear rc nc q6 u6 d0 d1 d2 d3; obtain ⟨d0, d1, d2, d3⟩ := keep4 HBW.out T6.out (two_not Hpw.out Hqw.out)))
        go_wp2_with fail
        go_roundw
        case rel => exact ⟨k + 1, r4, by omega, by go_num, Hbo7.out, U7.out⟩
        case measure => simp [intOf]; omega
    · obtain rfl : k = L := by omega
      have R1 := Lib.hid Hbo.out.1; have Q1 := Lib.hid Hbo.out.2
      clear Hbo
      go_wp2_with fail
      refine (at_any p at_ wr R1.out.c2).mono ?_
      rintro e w5 ⟨rfl, rfl⟩
      go_wp2_with fail
      refine (qat_any q at_ wr Q1.out.c1).mono ?_
      rintro e w5 ⟨rfl, rfl⟩
      go_wp2_with fail
      refine (left_any p cnt at_ wr R1.out.c1 R1.out.c2 R1.out.2.2.2.2.1 R1.out.2.2.2.1).mono ?_
      rintro e w5 ⟨rfl, rfl⟩
      go_wp2_with fail
      refine (qleft_any q qv _ at_ _ (show QAt wr.drew q qv (bitsOf zs' 0 cnt) at_ from Q1.out.drewN 1)).mono ?_
      rintro e w5 ⟨rfl, m5, rfl⟩
      rw [bitsOf_length]
      go_wp2_with fail
      refine (awake_any _).mono ?_
      rintro e w6 ⟨rfl, u6⟩
      have U6 := Lib.hid ((upd_drewN HU.out _).then u6)
      clear u6
      go_wp2_with fail
      go_ret
      exact ⟨rfl, U6.out⟩
end Go.Proofs.Ytdjaileeklhkmaa
