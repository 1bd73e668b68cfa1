/- BitsOwn, as the law has it -/
import Derived.Test.YtdjaileeklhkmaaCopy
namespace Go.Proofs.Ytdjaileeklhkmaa
open Go.RowKit Go.Shelf

theorem row8_none {w : World} {v : Value} {zs : List Nat} (h : Row8 w v zs) : ∀ n c, v = .slice none n c → c = 0 := fun n c e => by
  rcases h.1.2 with ⟨h1, _⟩ | ⟨g, cap, cur, h1, _⟩
  · rw [h1] at e; injection e with _ _ e; exact e.symm
  · rw [h1] at e; injection e with e; cases e
theorem Some8.upd {w w' : World} {v : Value} {n : Nat} (h : Some8 w v n) {S : Nat → Prop} (u : Upd S w w') (hs : ∀ k, v.ownBlock = some k → ¬ S k) : Some8 w' v n := by
  obtain ⟨zs, rfl, hr⟩ := h
  exact ⟨zs, rfl, u.row hr.1 hs, hr.2⟩

set_option maxRecDepth 100000 in
set_option maxHeartbeats 8000000 in
theorem own_any (sv : Value) (xs : List OpD) (ba : Option Addr) (zs : List Nat) (bc : Nat) (n16 : Int) (w : World) (h : Ops w sv xs) (hb : Bytes w (.slice ba zs.length bc) zs) (hbn : ba = none → bc = 0) (hbl : zs.length ≤ 140737488355328) (hn0 : 0 ≤ n16) (hn1 : n16 ≤ 65535) :
    Calls Try.prog 10 #[sv, .slice ba zs.length bc, .int .u16 n16] w fun e w' => e = .returned (.bool true) ∧ Upd NoB w w' := by
  obtain ⟨a, cap, rfl, h1, h2, hq⟩ := id h
  unfold maxLen at h2
  obtain ⟨L, hL⟩ : ∃ L, L = xs.length := ⟨_, rfl⟩
  rw [← hL] at h1 h ⊢
  obtain ⟨Z, hZ⟩ : ∃ Z, Z = zs.length := ⟨_, rfl⟩
  rw [← hZ] at hb hbl ⊢
  have HL := Lib.hid hL; have HZ := Lib.hid hZ; clear hL hZ
  have H := Lib.hid h; have HB := Lib.hid hb; have Hbn := Lib.hid hbn
  clear h hq hb hbn
  go_enter Try.func10, Try.ntmps10
  go_wp2_with fail
  refine (few_any _ xs w (by have := H.out; exact this)).mono ?_
  rintro e w1 ⟨rfl, u1⟩
  have U1 := Lib.hid u1
  clear u1
  cases hf : fewB xs with
  | false =>
    have Hf := Lib.hid hf; clear hf
    go_wp2_with fail
    refine (awake_any w1).mono ?_
    rintro e w2 ⟨rfl, u2⟩
    have U2 := Lib.hid (U1.out.trans u2 (fun k _ h => h)); clear u2
    go_wp2_with fail
    go_ret
    exact ⟨rfl, U2.out⟩
  | true =>
  obtain ⟨hsum, hl60⟩ : sumZ xs ≤ 140000 ∧ xs.length ≤ 60 := of_decide_eq_true hf
  have Hl := Lib.hid hl60; clear hl60 hsum
  have Hf := Lib.hid hf; clear hf
  by_cases h8 : 8000 < Z
  · have t1 : decide ((8000 : Int) < (Z : Int)) = true := decide_eq_true (by omega)
    go_wp2_with fail
    refine (awake_any w1).mono ?_
    rintro e w2 ⟨rfl, u2⟩
    have U2 := Lib.hid (U1.out.trans u2 (fun k _ h => h)); clear u2
    go_wp2_with fail
    go_ret
    exact ⟨rfl, U2.out⟩
  have t1 : decide ((8000 : Int) < (Z : Int)) = false := decide_eq_false (by omega)
  go_wp2_with fail
  refine (written_any _ xs w1 (by have := H.out.upd U1.out; exact this) Hl.out).mono ?_
  rintro e w2 ⟨b, dv, rfl, hb, st⟩
  obtain ⟨v, wa, nv, sepd⟩ := st.wat
  have hlen := st.len
  have U2 := Lib.hid (U1.out.trans st.upd (fun k _ h => h))
  have hbits := bits_done xs
  have hops : Ops w2 dv (doneOf [] xs) := ops_of_row st.row (fun x hx => by
    obtain ⟨k, hk⟩ := List.getElem?_of_mem (done_mem xs _ x hx)
    exact (ops_get H.out hk).upd U2.out)
  have hdl : (doneOf [] xs).length ≤ 60 := by
    have := doneOf_le xs xs.length []
    rw [List.take_length] at this
    exact Nat.le_trans this Hl.out
  have hdr : ∀ k, dv.ownBlock = some k → k < w2.heap.size := fun k hk => (st.row.lt k hk).2
  clear st nv hb sepd U1
  generalize doneOf [] xs = ds at *
  generalize bitsAll [] xs = l at *
  have A2 := Lib.hid wa; have Hlen := Lib.hid hlen; have Hbits := Lib.hid hbits; have Hops := Lib.hid hops; have Hdl := Lib.hid hdl; have Hdr := Lib.hid hdr
  clear wa hlen hbits hops hdl hdr
  obtain ⟨da, dc, rfl⟩ : ∃ da dc, dv = .slice da ds.length dc := by obtain ⟨da, dc, h, _⟩ := Hops.out; exact ⟨da, dc, h⟩
  go_wp2_with fail
  refine (wbytes_any b l v w2 A2.out (by have := Hlen.out; omega)).mono ?_
  rintro e w3 ⟨f, rfl, r3, u3, n3⟩
  obtain ⟨fa, fc, rfl⟩ := row8_slice r3
  obtain ⟨m, hm⟩ : ∃ m, m = (pack l).length := ⟨_, rfl⟩
  have hm1 : m ≤ 140000 := by rw [hm, pack_length]; have := Hlen.out; omega
  rw [← hm] at r3 n3 ⊢
  have R3 := Lib.hid r3; have U3 := Lib.hid u3; have N3 := Lib.hid n3; have Hm := Lib.hid hm
  clear r3 u3 n3 hm
  go_wp2_with (at_builtin; refine wpList_copy rfl _ _ rfl _ (pack l) rfl rfl R3.out.bytes (by rw [← Hm.out]; omega) (row8_none R3.out) ?_)
  intro ag w4 r4 n4 u4
  obtain ⟨aa, ac, rfl⟩ := row8_slice r4
  rw [← Hm.out] at r4 n4 ⊢
  have R4 := Lib.hid r4; have U4 := Lib.hid u4; have N4 := Lib.hid n4
  have F4 := Lib.hid (show Some8 w4 (.slice fa m fc) m from by have := (R3.out.some8).upd u4 (fun k _ => noB k); rwa [← Hm.out] at this)
  clear r4 u4 n4
  go_wp2_with fail
  go_loopw [46] (fun i wr => ∃ k : Nat, k ≤ m ∧ i = .int .i64 k ∧ Some8 wr (.slice fa m fc) m ∧ Upd (fun k => (Value.slice fa m fc).ownBlock = some k) w4 wr) (fun i _ => m - (intOf i).toNat)
  case atStart => exact ⟨0, Nat.zero_le _, rfl, F4.out, Upd.refl _ _⟩
  case round =>
    obtain ⟨k, hk, rfl, hs8, hu⟩ := hrel
    by_cases hlt : k < m
    · rcases hs8.form with ⟨_, h0⟩ | ⟨g, gc, he⟩
      · omega
      · injection he with e1 e2 e3
        subst e1; subst e3
        obtain ⟨z, hz⟩ := hs8.cell hlt
        have hfz := hs8.free k
        have hst := hs8.set k 85 (by decide)
        have Hst := Lib.hid hst; have Hu := Lib.hid hu
        clear hst hu hs8 e2
        go_wp2_with fail
        go_roundw
        case rel => exact ⟨k + 1, by omega, by go_num, Hst.out, Hu.out.setCell _ (fun _ => rfl)⟩
        case measure => simp [intOf]; omega
    · obtain rfl : m = k := by omega
      have V2 := Lib.hid ((U3.out.trans U4.out (fun k _ h => h)).trans hu (fun i hi h => by exfalso; have := N3.out i h; omega) : Upd NoB w2 wr)
      have AG := Lib.hid (bytes_upd R4.out.bytes hu (fun _ j hj h => by
        have h4 := N4.out j hj
        have h3 := (R3.out.1.lt j h).2
        omega))
      have A4 := Lib.hid (A2.out.upd V2.out (fun k _ => noB k))
      have O4 := Lib.hid (Hops.out.upd V2.out)
      have U4w := Lib.hid (U2.out.trans V2.out (fun k _ h => h))
      clear hu hs8 hk hlt R3 R4 U3 U4 N3 N4 F4 V2 A2 Hops U2
      go_wp2_with fail
      refine (wbytes_any b l v wr A4.out (by have := Hlen.out; omega)).mono ?_
      rintro e w5 ⟨s5, rfl, r5, u5, n5⟩
      have S5 := Lib.hid r5.bytes
      have AG5 := Lib.hid (bytes_later AG.out u5)
      have O5 := Lib.hid (O4.out.upd u5)
      have U5 := Lib.hid (U4w.out.trans u5 (fun k _ h => h))
      clear r5 u5 n5 AG O4 U4w A4
      go_wp2_with fail
      refine (same_any s5 _ (pack l) (pack l) w5 S5.out AG5.out (by rw [← Hm.out]; omega)).mono ?_
      rintro e w6 ⟨rfl, n6, rfl⟩
      rw [sameB_self]
      have AG6 := Lib.hid (bytes_later AG5.out (upd_drewN (Upd.refl NoB w5) n6))
      have O6 := Lib.hid (O5.out.upd (upd_drewN (Upd.refl NoB w5) n6))
      have U6 := Lib.hid (upd_drewN U5.out n6)
      clear S5 AG5 O5 U5
      generalize w5.drewN n6 = w6 at *
      go_wp2_with fail
      refine (written_any _ ds w6 O6.out Hdl.out).mono ?_
      rintro e w7 ⟨b2, dv2, rfl, hb2, st2⟩
      rw [Hbits.out] at st2
      obtain ⟨v2, wa2, nv2, sepd2⟩ := st2.wat
      have A7 := Lib.hid wa2
      have AG7 := Lib.hid (bytes_later AG6.out st2.upd)
      have U7 := Lib.hid (U6.out.trans st2.upd (fun k _ h => h))
      clear st2 wa2 nv2 sepd2 hb2 AG6 O6 U6
      go_wp2_with fail
      refine (wbytes_any b2 l v2 w7 A7.out (by have := Hlen.out; omega)).mono ?_
      rintro e w8 ⟨s8, rfl, r8, u8, n8⟩
      have S8 := Lib.hid r8.bytes
      have AG8 := Lib.hid (bytes_later AG7.out u8)
      have U8 := Lib.hid (U7.out.trans u8 (fun k _ h => h))
      clear r8 u8 n8 AG7 U7 A7
      go_wp2_with fail
      refine (same_any s8 _ (pack l) (pack l) w8 S8.out AG8.out (by rw [← Hm.out]; omega)).mono ?_
      rintro e w9 ⟨rfl, n9, rfl⟩
      rw [sameB_self]
      have U9 := Lib.hid (upd_drewN U8.out n9)
      clear S8 AG8 U8
      generalize w8.drewN n9 = w9 at *
      have B9 := Lib.hid (bytes_later HB.out U9.out)
      go_wp2_with (at_builtin; refine wpList_copy rfl _ _ rfl _ zs rfl rfl B9.out (by rw [← HZ.out]; omega) (fun n c e => by injection e with e1 e2 e3; exact e3 ▸ Hbn.out e1) ?_)
      intro ov w10 r10 n10 u10
      obtain ⟨oa, oc, rfl⟩ := row8_slice r10
      rw [← HZ.out] at r10 n10 ⊢
      have R10 := Lib.hid r10; have N10 := Lib.hid n10; have U10 := Lib.hid u10
      clear r10 n10 u10 B9
      have hz0 : Z = zs.length := HZ.out
      have hop := open_any (.slice oa Z oc) zs (8 * (Z : Int)) w10 R10.out.bytes (by rw [← hz0]; omega)
      have Hop := Lib.hid hop
      clear hop hz0
      go_wp2_with fail
      refine (Hop.out).mono ?_
      intro e w11 hr
      rcases hr with ⟨h, _⟩ | ⟨_, h, _⟩ | ⟨_, _, p, rv, rfl, hp, hR, nr, hs, u11⟩
      · exfalso; have := HZ.out; omega
      · exfalso; omega
      have e8 : (8 * (Z : Int)).toNat = 8 * Z := by omega
      have et : zs.take ((8 * Z + 7) / 8) = zs := List.take_of_length_le (by have := HZ.out; omega)
      rw [e8, et] at hR
      have R11 := Lib.hid hR; have Hs := Lib.hid (fun (_ : zs ≠ []) => hs); have U11 := Lib.hid u11; have N11 := Lib.hid nr; have Hp := Lib.hid hp
      clear hR hs u11 nr hp e8 et Hop
      go_wp2_with fail
      obtain ⟨kk, hkk⟩ : ∃ kk : Nat, n16 % (8 * (Z : Int) + 1) = kk := ⟨(n16 % (8 * (Z : Int) + 1)).toNat, by have := Int.emod_nonneg n16 (show (8 * (Z : Int) + 1) ≠ 0 by omega); omega⟩
      have hkle : kk ≤ 8 * Z := by have := Int.emod_lt_of_pos n16 (show 0 < (8 * (Z : Int) + 1) by omega); omega
      rw [hkk]
      have Hkk := Lib.hid hkk; have Hkle := Lib.hid hkle
      clear hkk hkle
      have ht : takeOut zs (8 * Z) 0 (kk : Int) = (pack (bitsOf zs 0 kk), 0, kk) := by
        unfold takeOut
        rw [if_neg (by omega), if_neg (by have := Hkle.out; omega)]
        simp
      have Ht := Lib.hid ht; clear ht
      refine (take_any p rv zs (8 * Z) 0 kk w11 R11.out Hs.out).mono ?_
      rw [Ht.out]
      rintro e w12 ⟨x1, rfl, r12, n12, q12, u12⟩
      obtain ⟨xa, xc, rfl⟩ := row8_slice r12
      obtain ⟨m2, hm2⟩ : ∃ m2, m2 = (pack (bitsOf zs 0 kk)).length := ⟨_, rfl⟩
      have hm2b : m2 ≤ 140000 := by rw [hm2, pack_length, bitsOf_length]; have := Hkle.out; omega
      rw [← hm2] at r12 n12 ⊢
      have R12 := Lib.hid (show RAt w12 p rv zs (8 * Z) kk from q12)
      have X12 := Lib.hid (show Some8 w12 (.slice xa m2 xc) m2 from by have := r12.some8; rwa [← hm2] at this)
      have N12 := Lib.hid n12
      have U12 := Lib.hid (((U9.out.trans U10.out (fun k _ h => h)).trans U11.out (fun k _ h => h)).trans u12 (fun i hi (h : i = p) => by exfalso; have := Hp.out; have := U9.out.size; have := U10.out.size; omega) : Upd NoB w w12)
      have ovl : ∀ j, (Value.slice oa Z oc).ownBlock = some j → w9.heap.size ≤ j ∧ j < w10.heap.size := fun j hj => ⟨N10.out j hj, (R10.out.1.lt j hj).2⟩
      have Ovl := Lib.hid ovl
      have O12 := Lib.hid (show Some8 w12 (.slice oa Z oc) Z from by
        have h0 := R10.out.some8
        rw [← HZ.out] at h0
        exact (h0.upd U11.out (fun k _ => noB k)).upd u12 (fun j hj (h : j = p) => by have := ovl j hj; have := Hp.out; omega))
      have hp11 : p < w11.heap.size := lt_of_block R11.out.1
      have hrv : ∀ j, zs ≠ [] → rv.ownBlock = some j → w10.heap.size ≤ j ∧ j < w11.heap.size := fun j hz hj => ⟨N11.out j hj, by obtain ⟨c, t, fr, hc⟩ := R11.out.2.1.lt hz j hj; exact lt_of_block hc⟩
      have Hp11 := Lib.hid hp11; have Hrv := Lib.hid hrv
      have s9 := U9.out.size; have s10 := U10.out.size; have s11 := U11.out.size
      have Hsz := Lib.hid (show w.heap.size ≤ w9.heap.size ∧ w9.heap.size ≤ w10.heap.size ∧ w10.heap.size ≤ w11.heap.size from ⟨s9, s10, s11⟩)
      clear r12 n12 q12 u12 ovl hp11 hrv hm2 R10 N10 U9 U10 U11 R11 N11 s9 s10 s11
      go_wp2_with fail
      go_loopw [97] (fun i wr => ∃ k : Nat, k ≤ m2 ∧ i = .int .i64 k ∧ Some8 wr (.slice xa m2 xc) m2 ∧ Upd (fun k => (Value.slice xa m2 xc).ownBlock = some k) w12 wr) (fun i _ => m2 - (intOf i).toNat)
      case atStart => exact ⟨0, Nat.zero_le _, rfl, X12.out, Upd.refl _ _⟩
      case round =>
        obtain ⟨k, hk, rfl, hs8, hu⟩ := hrel
        by_cases hlt : k < m2
        · rcases hs8.form with ⟨_, h0⟩ | ⟨g, gc, he⟩
          · omega
          · injection he with e1 e2 e3
            subst e1; subst e3
            obtain ⟨z, hz⟩ := hs8.cell hlt
            have hfz := hs8.free k
            have hst := hs8.set k 170 (by decide)
            have Hst := Lib.hid hst; have Hu := Lib.hid hu
            clear hst hu hs8 e2
            go_wp2_with fail
            go_roundw
            case rel => exact ⟨k + 1, by omega, by go_num, Hst.out, Hu.out.setCell _ (fun _ => rfl)⟩
            case measure => simp [intOf]; omega
        · obtain rfl : m2 = k := by omega
          have R13 := Lib.hid (R12.out.upd hu (fun j hj h => by
            have h1 := N12.out j h
            rcases hj with hj | ⟨hz, hj⟩
            · have := Hp11.out; omega
            · have := (Hrv.out j hz hj).2; omega))
          have O13 := Lib.hid (O12.out.upd hu (fun j hj h => by have h1 := N12.out j h; have h2 := Ovl.out j hj; have h3 := Hsz.out; omega))
          have U13 := Lib.hid (U12.out.trans hu (fun i hi h => by exfalso; have h1 := N12.out i h; have h3 := Hsz.out; omega))
          clear hu hs8 hk hlt R12 O12 X12 U12
          go_wp2_with fail
          go_loopw [106] (fun i wt => ∃ k : Nat, k ≤ Z ∧ i = .int .i64 k ∧ Some8 wt (.slice oa Z oc) Z ∧ Upd (fun k => (Value.slice oa Z oc).ownBlock = some k) wr wt) (fun i _ => Z - (intOf i).toNat)
          case atStart => exact ⟨0, Nat.zero_le _, rfl, O13.out, Upd.refl _ _⟩
          case round =>
            obtain ⟨k, hk, rfl, hs8, hu⟩ := hrel
            by_cases hlt : k < Z
            · rcases hs8.form with ⟨_, h0⟩ | ⟨g, gc, he⟩
              · omega
              · injection he with e1 e2 e3
                subst e1; subst e3
                obtain ⟨z, hz⟩ := hs8.cell hlt
                have hfz := hs8.free k
                have hst := hs8.set k 51 (by decide)
                have Hst := Lib.hid hst; have Hu := Lib.hid hu
                clear hst hu hs8 e2
                go_wp2_with fail
                go_roundw
                case rel => exact ⟨k + 1, by omega, by go_num, Hst.out, Hu.out.setCell _ (fun _ => rfl)⟩
                case measure => simp [intOf]; omega
            · obtain rfl : Z = k := by omega
              have R14 := Lib.hid (R13.out.upd hu (fun j hj h => by
                have h1 := Ovl.out j h
                rcases hj with hj | ⟨hz, hj⟩
                · have := Hp.out; omega
                · have := (Hrv.out j hz hj).1; omega))
              have U14 := Lib.hid (U13.out.trans hu (fun i hi h => by exfalso; have h1 := Ovl.out i h; have h3 := Hsz.out; omega))
              clear hu hs8 hk hlt R13 O13 U13
              have hsk : seekR (8 * Z) kk 0 = (0, 0) := by unfold seekR; rw [if_neg (by omega)]; rfl
              have Hsk := Lib.hid hsk; clear hsk
              go_wp2_with fail
              refine (seek_any p rv zs (8 * Z) kk 0 _ R14.out Hs.out).mono ?_
              rw [Hsk.out]
              rintro e w15 ⟨rfl, r15, u15⟩
              have R15 := Lib.hid (show RAt w15 p rv zs (8 * Z) 0 from r15)
              have U15 := Lib.hid (U14.out.trans u15 (fun i hi (h : i = p) => by exfalso; have h1 := Hp.out; have h3 := Hsz.out; omega))
              clear r15 u15 R14 U14
              go_wp2_with fail
              refine (take_any p rv zs (8 * Z) 0 kk w15 R15.out Hs.out).mono ?_
              rw [Ht.out]
              rintro e w16 ⟨y1, rfl, r16, n16', q16, u16⟩
              have Y16 := Lib.hid r16.bytes
              have U16 := Lib.hid (U15.out.trans u16 (fun i hi (h : i = p) => by exfalso; have h1 := Hp.out; have h3 := Hsz.out; omega))
              clear r16 n16' q16 u16 R15 U15
              go_wp2_with fail
              refine (of_any (.slice ba Z bc) zs kk w16 (bytes_later HB.out U16.out) (by have := Hkle.out; have := HZ.out; omega) (by have := HZ.out; omega)).mono ?_
              rintro e w17 ⟨o1, rfl, r17, u17, n17⟩
              have S17 := Lib.hid r17.bytes
              have Y17 := Lib.hid (bytes_later Y16.out u17)
              have U17 := Lib.hid (U16.out.trans u17 (fun k _ h => h))
              clear r17 u17 n17 Y16 U16
              go_wp2_with fail
              refine (pack_any o1 (bitsOf zs 0 kk) w17 S17.out (bitsOf_01 _ _ _) (by rw [bitsOf_length]; have := Hkle.out; omega)).mono ?_
              rintro e w18 ⟨p1, rfl, r18, u18, n18⟩
              have S18 := Lib.hid r18.bytes
              have Y18 := Lib.hid (bytes_later Y17.out u18)
              have U18 := Lib.hid (U17.out.trans u18 (fun k _ h => h))
              clear r18 u18 n18 Y17 U17 S17
              go_wp2_with fail
              refine (same_any y1 p1 _ _ w18 Y18.out S18.out (by rw [pack_length, bitsOf_length]; have := Hkle.out; omega)).mono ?_
              rintro e w19 ⟨rfl, n19, rfl⟩
              rw [sameB_self]
              have U19 := Lib.hid (upd_drewN U18.out n19)
              clear Y18 S18 U18
              generalize w18.drewN n19 = w19 at *
              go_wp2_with fail
              refine (awake_any w19).mono ?_
              rintro e w20 ⟨rfl, u20⟩
              have U20 := Lib.hid (U19.out.trans u20 (fun k _ h => h)); clear u20
              go_wp2_with fail
              go_ret
              exact ⟨rfl, U20.out⟩
end Go.Proofs.Ytdjaileeklhkmaa
