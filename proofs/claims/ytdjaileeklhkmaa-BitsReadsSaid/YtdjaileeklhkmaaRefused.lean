/- BitsRefused, as the law has it -/
import Derived.Test.YtdjaileeklhkmaaWritten
namespace Go.Proofs.Ytdjaileeklhkmaa
open Go.RowKit Go.Shelf

theorem readR_err (x : OpD) (zs : List Nat) (cnt at_ : Nat) (h : (readR x zs cnt at_).2.2.1 ≠ 0) : readR x zs cnt at_ = (0, [], (readR x zs cnt at_).2.2.1, at_) := by
  revert h
  unfold readR getR sgnR unaR gamR takeOut seekR
  repeat' split
  all_goals first | (intro h; rfl) | (intro h; exact absurd rfl h) | skip
theorem bytes_upd {S : Nat → Prop} {w w' : World} {sv : Value} {zs : List Nat} (h : Bytes w sv zs) (u : Upd S w w') (hs : zs ≠ [] → ∀ k, sv.ownBlock = some k → ¬ S k) : Bytes w' sv zs :=
  h.keep (D := fun k => zs ≠ [] ∧ sv.ownBlock = some k) (u.keepD (fun k hk => ⟨by obtain ⟨c, t, fr, hc⟩ := h.lt hk.1 k hk.2; exact lt_of_block hc, hs hk.1 k hk.2⟩)) (fun hz k hk => ⟨hz, hk⟩)

set_option maxRecDepth 100000 in
set_option maxHeartbeats 4000000 in
theorem refused_any (sv : Value) (xs : List OpD) (x : OpD) (w : World) (h : Ops w sv xs) (hx : x.at w) :
    Calls Try.prog 7 #[sv, x.val] w fun e w' => e = .returned (.bool true) ∧ Upd NoB w w' := by
  obtain ⟨a, cap, rfl, h1, h2, _⟩ := id h
  unfold maxLen at h2
  obtain ⟨L, hL⟩ : ∃ L, L = xs.length := ⟨_, rfl⟩
  rw [← hL] at h1 h ⊢
  obtain ⟨xk, xv, xn, xsv, xz⟩ := x
  obtain ⟨sa, sc, hsv⟩ : ∃ sa sc, xsv = .slice sa xz.length sc := by obtain ⟨_, sa, sc, hsv, _⟩ := hx.2.1; exact ⟨sa, sc, hsv⟩
  subst hsv
  have hxz : xz.length ≤ 140737488355328 := hx.2.2
  have HL := Lib.hid hL; clear hL
  have u0 : Upd NoB w (w.alloc (.cells #[.int .u8 xk, .int .i64 xv, .int .i64 xn, .slice sa xz.length sc] 34)) := (Upd.refl _ _).alloc _
  have C0 := Lib.hid (heap_alloc_new w (.cells #[.int .u8 xk, .int .i64 xv, .int .i64 xn, .slice sa xz.length sc] 34))
  have H := Lib.hid h; have HX := Lib.hid hx
  clear h hx
  change Calls _ _ #[.slice a L cap, .agg #[.int .u8 xk, .int .i64 xv, .int .i64 xn, .slice sa xz.length sc]] w _
  go_enter Try.func7, Try.ntmps7
  go_wp2_with fail
  generalize w.alloc (.cells #[.int .u8 xk, .int .i64 xv, .int .i64 xn, .slice sa xz.length sc] 34) = w0 at *
  have U0 := Lib.hid u0; clear u0
  refine (few_any _ xs w0 (by have := H.out.upd U0.out; exact this)).mono ?_
  rintro e w1 ⟨rfl, u1⟩
  have C1 := Lib.hid (u1.heap C0.out (noB _))
  have U1 := Lib.hid (U0.out.trans u1 (fun k _ h => h))
  clear u1 C0 U0
  have d0 := blk_cell C1.out 0
  have d1 := blk_cell C1.out 1
  have d2 := blk_cell C1.out 2
  have d3 := blk_cell C1.out 3
  cases hf : fewB xs with
  | false =>
    have Hf := Lib.hid hf; clear hf
    go_wp2_with fail
    refine (awake_any w1).mono ?_
    rintro e w2 ⟨rfl, u2⟩
    have U2 := Lib.hid (U1.out.trans u2 (fun k _ h => h)); clear u2
    go_wp2_with fail
    go_ret
    exact ⟨rfl, U2.out⟩
  | true =>
  have hl60 : xs.length ≤ 60 := (of_decide_eq_true hf : sumZ xs ≤ 140000 ∧ xs.length ≤ 60).2
  have Hl := Lib.hid hl60; clear hl60
  have Hf := Lib.hid hf; clear hf
  by_cases h14 : xz.length ≤ 140000
  · have t1 : decide ((140000 : Int) < (xz.length : Int)) = false := decide_eq_false (by omega)
    go_wp2_with fail
    refine (written_any _ xs w1 (by have := H.out.upd U1.out; exact this) Hl.out).mono ?_
    rintro e w2 ⟨b, dv, rfl, hb, st⟩
    obtain ⟨v, wa, nv, sepd⟩ := st.wat
    have hlen := st.len
    have U2 := Lib.hid (U1.out.trans st.upd (fun k _ h => h))
    have C2 := Lib.hid (st.upd.heap C1.out (noB _))
    have hbw : w.heap.size ≤ b := Nat.le_trans U1.out.size hb
    have nvw : newB w v := fun k hk => Nat.le_trans U1.out.size (nv k hk)
    clear st nv hb sepd C1 U1
    generalize bitsAll [] xs = l at *
    have A2 := Lib.hid wa; have Hb := Lib.hid hbw; have Nv := Lib.hid nvw; have Hlen := Lib.hid hlen
    clear wa hbw nvw hlen d0 d1 d2 d3
    go_wp2_with fail
    refine (wlen_some b _ w2 A2.out.len).mono ?_
    rintro e w2' ⟨rfl, rfl⟩
    go_wp2_with fail
    refine (wbytes_any b l v w2 A2.out (by have := Hlen.out; omega)).mono ?_
    rintro e w3 ⟨s, rfl, r3, u3, n3⟩
    have C3 := Lib.hid (u3.heap C2.out (noB _))
    have U3 := Lib.hid (U2.out.trans u3 (fun k _ h => h))
    have A3 := Lib.hid (A2.out.upd u3 (fun k _ => noB k))
    have S3 := Lib.hid r3.bytes
    have hsep3 : ∀ k, s.ownBlock = some k → ¬ wfoot b v k := fun k hk hf => by
      have := n3 k hk
      rcases hf with hf | hf
      · have := lt_of_block A2.out.1; omega
      · have := (A2.out.2.1.lt k hf).2; omega
    have Hsep3 := Lib.hid hsep3
    have hxs := at_sep HX.out Hb.out Nv.out
    have Hxs := Lib.hid hxs
    clear u3 r3 n3 hsep3 hxs C2 U2 A2
    have d0 := blk_cell C3.out 0
    have d1 := blk_cell C3.out 1
    have d2 := blk_cell C3.out 2
    have d3 := blk_cell C3.out 3
    have hw := lwrite_any ⟨xk, xv, xn, .slice sa xz.length sc, xz⟩ b l v w3 A3.out Hlen.out (HX.out.upd U3.out) Hxs.out
    simp only [OpD.val] at hw
    have Hw := Lib.hid hw; clear hw
    obtain ⟨n, hn⟩ : ∃ n, n = l.length := ⟨_, rfl⟩
    have Hn := Lib.hid hn
    rw [← hn]
    clear hn
    go_wp2_with fail
    refine (Hw.out).mono ?_
    rintro e w4 ⟨r, rfl, hr⟩
    have hr2 : (r ≠ 0 ∧ Upd NoB w3 w4) ∨ (r = 0 ∧ ∃ l', WPost b v w3 l' w4) := by
      rcases hr with ⟨_, h, u⟩ | ⟨_, _, h, u⟩ | ⟨_, _, h, u⟩
      · exact .inl ⟨by omega, u⟩
      · exact .inl ⟨by omega, u⟩
      · exact .inr ⟨h, _, u⟩
    clear hr Hw
    rcases hr2 with ⟨hr, u4⟩ | ⟨rfl, l', p4⟩
    · have tr : (r != 0) = true := by simpa using hr
      have U4 := Lib.hid (U3.out.trans u4 (fun k _ h => h))
      have A4 := Lib.hid (A3.out.upd u4 (fun k _ => noB k))
      have S4 := Lib.hid (bytes_later S3.out u4)
      clear u4 hr U3 A3 S3 d0 d1 d2 d3 C3
      have nn0 : (((n : Nat) : Int) != (n : Int)) = false := by simp
      go_wp2_with fail
      refine (wlen_some b _ w4 A4.out.len).mono ?_
      rintro e w4' ⟨rfl, rfl⟩
      rw [← Hn.out]
      go_wp2_with fail
      refine (wbytes_any b l v w4 A4.out (by have := Hlen.out; omega)).mono ?_
      rintro e w5 ⟨s5, rfl, r5, u5, n5⟩
      have S5 := Lib.hid r5.bytes
      have S5b := Lib.hid (bytes_later S4.out u5)
      have U5 := Lib.hid (U4.out.trans u5 (fun k _ h => h))
      clear r5 u5 n5 U4 A4 S4
      go_wp2_with fail
      refine (same_any s5 s (pack l) (pack l) w5 S5.out S5b.out (by rw [pack_length]; have := Hlen.out; omega)).mono ?_
      rintro e w6 ⟨rfl, n6, rfl⟩
      rw [sameB_self]
      have S6 := Lib.hid (bytes_later S5b.out (upd_drewN (Upd.refl NoB w5) n6))
      have U6 := Lib.hid (upd_drewN U5.out n6)
      clear S5 S5b U5
      generalize w5.drewN n6 = w6 at *
      go_wp2_with fail
      refine (open_any s (pack l) n w6 S6.out (by rw [pack_length]; have := Hlen.out; omega)).mono ?_
      intro e w7 hr
      rcases hr with ⟨h, _⟩ | ⟨_, h, _⟩ | ⟨_, _, p, rv, rfl, hp, hR, nr, hs, u7⟩
      · exfalso; rw [pack_length] at h; have := Hn.out; omega
      · exfalso; have := Hn.out; have := Hlen.out; omega
      simp only [Int.toNat_natCast] at hR
      generalize (pack l).take ((n + 7) / 8) = zs at *
      have R7 := Lib.hid hR; have Hs := Lib.hid (fun (_ : zs ≠ []) => hs)
      have hpw : w.heap.size ≤ p := Nat.le_trans U6.out.size hp
      have Hp := Lib.hid hpw
      have U7 := Lib.hid (U6.out.trans u7 (fun k _ h => h))
      have nn : (((n : Nat) : Int) != (n : Int)) = false := by simp
      clear hR hs nr u7 hp hpw S6 U6
      go_wp2_with fail
      go_loopw [61] (fun i wr => ∃ k at_ : Nat, k ≤ L ∧ i = .int .i64 k ∧ RAt wr p rv zs n at_ ∧ Upd NoB w wr) (fun i _ => L - (intOf i).toNat)
      case atStart => exact ⟨0, 0, Nat.zero_le _, rfl, R7.out, U7.out⟩
      case round =>
        obtain ⟨k, at_, hk, rfl, hR, hu⟩ := hrel
        have HR := Lib.hid hR; have HU := Lib.hid hu; clear hR hu R7 U7
        by_cases hlt : k < L
        · obtain ⟨x, hx⟩ : ∃ x, xs[k]? = some x := ⟨_, List.getElem?_eq_getElem (by rw [← HL.out]; exact hlt)⟩
          obtain ⟨a', cap', e, _, _, h3⟩ := H.out.upd HU.out
          cases e
          rcases h3 with h3 | ⟨g, off, rfl, h3⟩
          · subst h3; simp at hx
          · obtain ⟨c0, c1, c2, c3, hat⟩ := h3 k x hx
            clear h3 hx
            obtain ⟨yk, yv, yn, ysv, yz⟩ := x
            obtain ⟨ya, yc, hsv⟩ : ∃ ya yc, ysv = .slice ya yz.length yc := by obtain ⟨_, ya, yc, hsv, _⟩ := hat.2.1; exact ⟨ya, yc, hsv⟩
            subst hsv
            have hyk : yk ≤ 255 := hat.1
            have ux : Upd NoB wr (wr.alloc (.cells #[.int .u8 yk, .int .i64 yv, .int .i64 yn, .slice ya yz.length yc] 34)) := (Upd.refl _ _).alloc _
            have cx := heap_alloc_new wr (.cells #[.int .u8 yk, .int .i64 yv, .int .i64 yn, .slice ya yz.length yc] 34)
            have Ux := Lib.hid ux
            have Hyk := Lib.hid hyk
            have HRx := Lib.hid (HR.out.upd ux (fun k _ => noB k))
            have herr := readR_err ⟨yk, yv, yn, .slice ya yz.length yc, yz⟩ zs n at_
            have Herr := Lib.hid herr
            clear ux cx hat hyk herr
            go_wp2_with fail
            refine (at_any p at_ _ HRx.out.c2).mono ?_
            rintro e w8 ⟨rfl, rfl⟩
            have hw := lread_any ⟨yk, yv, yn, .slice ya yz.length yc, yz⟩ p rv zs n at_ (wr.alloc (.cells #[.int .u8 yk, .int .i64 yv, .int .i64 yn, .slice ya yz.length yc] 34)) HRx.out Hs.out Hyk.out
            simp only [OpD.val] at hw
            have Hw2 := Lib.hid hw; clear hw
            go_wp2_with fail
            refine (Hw2.out).mono ?_
            rintro e w9 ⟨bv, rfl, row, new, r9, u9⟩
            generalize readR ⟨yk, yv, yn, .slice ya yz.length yc, yz⟩ zs n at_ = rr at *
            obtain ⟨rn, ro, re, rp⟩ := rr
            obtain ⟨ba, bc, rfl⟩ := row8_slice row
            have R9 := Lib.hid (show RAt w9 p rv zs n rp from r9)
            have U9 := Lib.hid ((HU.out.trans Ux.out (fun k _ h => h)).trans u9 (fun i hi (h : i = p) => by exfalso; have := Hp.out; omega) : Upd NoB w w9)
            clear row new r9 u9 Hw2 c0 c1 c2 c3
            have ks : IntKind.i64.wrap ((rp : Int) + ((n : Int) - (rp : Int))) = (n : Int) := by
              rw [show (rp : Int) + ((n : Int) - (rp : Int)) = n from by omega]; exact IntWalk.i64_in _ (by have := Hn.out; have := Hlen.out; omega)
            by_cases hre : re = 0
            · subst hre
              clear Herr
              go_wp2_with fail
              go_roundw
              case rel => exact ⟨k + 1, rp, by omega, by go_num, R9.out.upd ((Upd.refl NoB _).alloc _) (fun k _ => noB k), U9.out.alloc _⟩
              case measure => simp [intOf]; omega
            · have hrr := Herr.out hre
              simp only [Prod.mk.injEq] at hrr
              obtain ⟨rfl, rfl, _, rfl⟩ := hrr
              have te : (re != 0) = true := by simpa using hre
              have tp : ((rp : Int) != (rp : Int)) = false := by simp
              clear Herr hre
              go_wp2_with fail
              go_roundw
              case rel => exact ⟨k + 1, rp, by omega, by go_num, R9.out.upd ((Upd.refl NoB _).alloc _) (fun k _ => noB k), U9.out.alloc _⟩
              case measure => simp [intOf]; omega
        · obtain rfl : k = L := by omega
          go_wp2_with fail
          refine (awake_any wr).mono ?_
          rintro e w9 ⟨rfl, u9⟩
          have U9 := Lib.hid (HU.out.trans u9 (fun k _ h => h)); clear u9
          go_wp2_with fail
          go_ret
          exact ⟨rfl, U9.out⟩
    · obtain ⟨v4, wa4, u4, n4⟩ := p4
      have U6 := Lib.hid (U3.out.trans u4 (fun i hi h => by
        exfalso
        rcases h with h | h
        · have := Hb.out; omega
        · have := Nv.out i h; omega))
      have S6 := Lib.hid (bytes_upd S3.out u4 (fun _ k hk => Hsep3.out k hk))
      clear wa4 u4 n4 U3 A3 S3 d0 d1 d2 d3 C3
      go_wp2_with fail
      refine (open_any s (pack l) n w4 S6.out (by rw [pack_length]; have := Hlen.out; omega)).mono ?_
      intro e w7 hr
      rcases hr with ⟨h, _⟩ | ⟨_, h, _⟩ | ⟨_, _, p, rv, rfl, hp, hR, nr, hs, u7⟩
      · exfalso; rw [pack_length] at h; have := Hn.out; omega
      · exfalso; have := Hn.out; have := Hlen.out; omega
      simp only [Int.toNat_natCast] at hR
      generalize (pack l).take ((n + 7) / 8) = zs at *
      have R7 := Lib.hid hR; have Hs := Lib.hid (fun (_ : zs ≠ []) => hs)
      have hpw : w.heap.size ≤ p := Nat.le_trans U6.out.size hp
      have Hp := Lib.hid hpw
      have U7 := Lib.hid (U6.out.trans u7 (fun k _ h => h))
      have nn : (((n : Nat) : Int) != (n : Int)) = false := by simp
      clear hR hs nr u7 hp hpw S6 U6
      go_wp2_with fail
      go_loopw [61] (fun i wr => ∃ k at_ : Nat, k ≤ L ∧ i = .int .i64 k ∧ RAt wr p rv zs n at_ ∧ Upd NoB w wr) (fun i _ => L - (intOf i).toNat)
      case atStart => exact ⟨0, 0, Nat.zero_le _, rfl, R7.out, U7.out⟩
      case round =>
        obtain ⟨k, at_, hk, rfl, hR, hu⟩ := hrel
        have HR := Lib.hid hR; have HU := Lib.hid hu; clear hR hu R7 U7
        by_cases hlt : k < L
        · obtain ⟨x, hx⟩ : ∃ x, xs[k]? = some x := ⟨_, List.getElem?_eq_getElem (by rw [← HL.out]; exact hlt)⟩
          obtain ⟨a', cap', e, _, _, h3⟩ := H.out.upd HU.out
          cases e
          rcases h3 with h3 | ⟨g, off, rfl, h3⟩
          · subst h3; simp at hx
          · obtain ⟨c0, c1, c2, c3, hat⟩ := h3 k x hx
            clear h3 hx
            obtain ⟨yk, yv, yn, ysv, yz⟩ := x
            obtain ⟨ya, yc, hsv⟩ : ∃ ya yc, ysv = .slice ya yz.length yc := by obtain ⟨_, ya, yc, hsv, _⟩ := hat.2.1; exact ⟨ya, yc, hsv⟩
            subst hsv
            have hyk : yk ≤ 255 := hat.1
            have ux : Upd NoB wr (wr.alloc (.cells #[.int .u8 yk, .int .i64 yv, .int .i64 yn, .slice ya yz.length yc] 34)) := (Upd.refl _ _).alloc _
            have cx := heap_alloc_new wr (.cells #[.int .u8 yk, .int .i64 yv, .int .i64 yn, .slice ya yz.length yc] 34)
            have Ux := Lib.hid ux
            have Hyk := Lib.hid hyk
            have HRx := Lib.hid (HR.out.upd ux (fun k _ => noB k))
            have herr := readR_err ⟨yk, yv, yn, .slice ya yz.length yc, yz⟩ zs n at_
            have Herr := Lib.hid herr
            clear ux cx hat hyk herr
            go_wp2_with fail
            refine (at_any p at_ _ HRx.out.c2).mono ?_
            rintro e w8 ⟨rfl, rfl⟩
            have hw := lread_any ⟨yk, yv, yn, .slice ya yz.length yc, yz⟩ p rv zs n at_ (wr.alloc (.cells #[.int .u8 yk, .int .i64 yv, .int .i64 yn, .slice ya yz.length yc] 34)) HRx.out Hs.out Hyk.out
            simp only [OpD.val] at hw
            have Hw2 := Lib.hid hw; clear hw
            go_wp2_with fail
            refine (Hw2.out).mono ?_
            rintro e w9 ⟨bv, rfl, row, new, r9, u9⟩
            generalize readR ⟨yk, yv, yn, .slice ya yz.length yc, yz⟩ zs n at_ = rr at *
            obtain ⟨rn, ro, re, rp⟩ := rr
            obtain ⟨ba, bc, rfl⟩ := row8_slice row
            have R9 := Lib.hid (show RAt w9 p rv zs n rp from r9)
            have U9 := Lib.hid ((HU.out.trans Ux.out (fun k _ h => h)).trans u9 (fun i hi (h : i = p) => by exfalso; have := Hp.out; omega) : Upd NoB w w9)
            clear row new r9 u9 Hw2 c0 c1 c2 c3
            have ks : IntKind.i64.wrap ((rp : Int) + ((n : Int) - (rp : Int))) = (n : Int) := by
              rw [show (rp : Int) + ((n : Int) - (rp : Int)) = n from by omega]; exact IntWalk.i64_in _ (by have := Hn.out; have := Hlen.out; omega)
            by_cases hre : re = 0
            · subst hre
              clear Herr
              go_wp2_with fail
              go_roundw
              case rel => exact ⟨k + 1, rp, by omega, by go_num, R9.out.upd ((Upd.refl NoB _).alloc _) (fun k _ => noB k), U9.out.alloc _⟩
              case measure => simp [intOf]; omega
            · have hrr := Herr.out hre
              simp only [Prod.mk.injEq] at hrr
              obtain ⟨rfl, rfl, _, rfl⟩ := hrr
              have te : (re != 0) = true := by simpa using hre
              have tp : ((rp : Int) != (rp : Int)) = false := by simp
              clear Herr hre
              go_wp2_with fail
              go_roundw
              case rel => exact ⟨k + 1, rp, by omega, by go_num, R9.out.upd ((Upd.refl NoB _).alloc _) (fun k _ => noB k), U9.out.alloc _⟩
              case measure => simp [intOf]; omega
        · obtain rfl : k = L := by omega
          go_wp2_with fail
          refine (awake_any wr).mono ?_
          rintro e w9 ⟨rfl, u9⟩
          have U9 := Lib.hid (HU.out.trans u9 (fun k _ h => h)); clear u9
          go_wp2_with fail
          go_ret
          exact ⟨rfl, U9.out⟩
  · have t1 : decide ((140000 : Int) < (xz.length : Int)) = true := decide_eq_true (by omega)
    go_wp2_with fail
    refine (awake_any w1).mono ?_
    rintro e w2 ⟨rfl, u2⟩
    have U2 := Lib.hid (U1.out.trans u2 (fun k _ h => h)); clear u2
    go_wp2_with fail
    go_ret
    exact ⟨rfl, U2.out⟩
end Go.Proofs.Ytdjaileeklhkmaa
