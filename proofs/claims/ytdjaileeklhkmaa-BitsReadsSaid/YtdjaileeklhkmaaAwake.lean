/- the examples of the chapter hold -/
import Derived.Test.YtdjaileeklhkmaaRef3
import Derived.Lib.SlBytesConst
namespace Go.Proofs.Ytdjaileeklhkmaa
open Go.RowKit Go.Shelf

theorem WRes.ok {b : Nat} {v : Value} {w : World} {l : List Nat} {bad : Prop} {bs : List Nat} {e : Ending} {w' : World} (h : WRes b v w l bad bs e w') (hb : ¬ bad) (hf : l.length + bs.length ≤ 1048576) : e = .returned (.int .i64 0) ∧ WPost b v w (l ++ bs) w' := by
  obtain ⟨r, rfl, ⟨h1, h2, h3⟩ | ⟨h1, h0, h2, h3⟩ | ⟨h1, h0, rfl, h3⟩⟩ := h
  · exact absurd h1 hb
  · omega
  · exact ⟨rfl, h3⟩
/-- A writer made behind w0: what a call leaves. -/
theorem WPost.step {w0 w w' : World} {b : Nat} {v : Value} {l : List Nat} (U : Upd NoB w0 w) (hb : w0.heap.size ≤ b) (hv : newB w0 v) (p : WPost b v w l w') : ∃ v', WAt w' b l v' ∧ Upd NoB w0 w' ∧ newB w0 v' := by
  obtain ⟨v', h1, h2, h3⟩ := p
  refine ⟨v', h1, U.trans h2 ?_, fun k hk => ?_⟩
  · rintro k hk (rfl | h)
    · omega
    · have := hv k h; omega
  · rcases h3 k hk with h | h
    · exact hv k h
    · have := U.size; omega
theorem RRes.step {w0 w w' : World} {b : Nat} {sv : Value} {zs : List Nat} {cnt : Nat} {r : Int × Int × Nat} {e : Ending} (U : Upd NoB w0 w) (hb : w0.heap.size ≤ b) (p : RRes b sv zs cnt w r e w') :
    e = .returned (.tuple #[.int .i64 r.1, .int .i64 r.2.1]) ∧ RAt w' b sv zs cnt r.2.2 ∧ Upd NoB w0 w' := by
  obtain ⟨h1, h2, h3⟩ := p
  refine ⟨h1, h2, U.trans h3 ?_⟩
  intro k hk h
  have h : k = b := h
  omega
theorem newB_nil (w : World) : newB w (.slice none 0 0) := fun k hk => by simp [Value.ownBlock] at hk
/-- A literal of bytes, made just now. -/
theorem lit8 (w : World) (zs : List Nat) (h : ∀ j, zs.getD j 0 ≤ 255) (hl : zs.length ≤ 1099511627776) : Row8 (w.alloc (.cells (u8s zs).toArray 5)) (.slice (some ⟨w.heap.size, 0, none⟩) zs.length zs.length) zs :=
  ⟨by simpa using World.ownsRow_lit (base := 0) (size := 1) (e := 5) w (u8s zs).toArray zs.length (Nat.zero_le _) (by unfold maxLen; omega) (by simp [u8s_length]), h⟩
theorem all255 {l : List Nat} (h : ∀ x ∈ l, x ≤ 255) (j : Nat) : l.getD j 0 ≤ 255 := by
  simp only [List.getD_eq_getElem?_getD]
  cases hj : l[j]? with
  | none => simp
  | some y => have := h y (List.mem_of_getElem? hj); simpa using this
theorem bytes_later {w w' : World} {sv : Value} {zs : List Nat} (h : Bytes w sv zs) (u : Upd NoB w w') : Bytes w' sv zs :=
  h.keep (D := fun k => zs ≠ [] ∧ sv.ownBlock = some k) (u.keepD (fun k hk => ⟨by obtain ⟨c, t, fr, hc⟩ := h.lt hk.1 k hk.2; exact lt_of_block hc, noB k⟩)) (fun hz k hk => ⟨hz, hk⟩)
theorem bytes_nil (w : World) : Bytes w (.slice none 0 0) [] := ⟨fun j => by simp, none, 0, rfl, Nat.le_refl _, .inl rfl⟩
theorem upd_drewN {S : Nat → Prop} {a w : World} (h : Upd S a w) (n : Nat) : Upd S a (w.drewN n) := ⟨h.os, h.tape, h.output, h.size, h.block⟩

def awakeS : List Nat := [49, 50, 51, 52, 53, 54, 55, 56, 57]
theorem sum16 : (bitsOf awakeS 0 (8 * awakeS.length)).foldl c16 65535 = 44775 := by decide +kernel
theorem sum32 : (lowOf awakeS).foldl c32 4294967295 ^^^ 4294967295 = 3421780262 := by decide +kernel
theorem gam1 : gamR [47, 128] 9 0 = (5, 0, 5) := by decide +kernel
theorem sgn1 : sgnR [47, 128] 9 5 4 = (-1, 0, 9) := by decide +kernel

theorem awake_lit (w : World) : Bytes (w.alloc (.cells (u8s awakeS).toArray 5 (9, 10))) (.slice (some ⟨w.heap.size, 0, none⟩) 9 9) awakeS := by
  refine ⟨all255 (by decide), _, _, rfl, Nat.le_refl _, .inr ⟨_, _, rfl, fun j hj => ?_⟩⟩
  rw [Nat.zero_add, World.cell?_alloc_mark]
  have hj : j < 9 := hj
  match j, hj with
  | 0, _ | 1, _ | 2, _ | 3, _ | 4, _ | 5, _ | 6, _ | 7, _ | 8, _ => rfl

set_option maxRecDepth 100000 in
set_option maxHeartbeats 4000000 in
theorem awake_any (w : World) : Calls Try.prog 12 #[] w fun e w' => e = .returned (.bool true) ∧ Upd NoB w w' := by
  go_enter Try.func12, Try.ntmps12
  go_wp2_with fail
  refine (new_any w).mono ?_
  rintro e w1 ⟨rfl, rfl⟩
  have a1 := WAt_new w
  have u1 : Upd NoB w (w.alloc (.cells #[.slice none 0 0, .int .i64 0] 29)) := (Upd.refl _ _).alloc _
  generalize w.alloc (.cells #[.slice none 0 0, .int .i64 0] 29) = w1 at *
  have A1 := Lib.hid a1; clear a1
  have U1 := Lib.hid u1; clear u1
  go_wp2_with fail
  refine (put_any w.heap.size [] _ 5 3 w1 A1.out (by simp)).mono ?_
  intro e w2 hr
  obtain ⟨rfl, hp⟩ := hr.ok (fun h => h (by decide)) (by decide)
  obtain ⟨v2, a2, u2, n2⟩ := hp.step U1.out (Nat.le_refl _) (newB_nil _)
  simp only [List.nil_append] at a2
  have A2 := Lib.hid a2; have U2 := Lib.hid u2; have N2 := Lib.hid n2; clear a2 u2 n2 hp hr A1 U1
  go_wp2_with fail
  refine (unary_any w.heap.size _ v2 2 w2 A2.out (by decide)).mono ?_
  intro e w3 hr
  obtain ⟨rfl, hp⟩ := hr.ok (fun h => h (by decide)) (by decide)
  obtain ⟨v3, a3, u3, n3⟩ := hp.step U2.out (Nat.le_refl _) N2.out
  have A3 := Lib.hid a3; have U3 := Lib.hid u3; have N3 := Lib.hid n3; clear a3 u3 n3 hp hr A2 U2 N2
  go_wp2_with fail
  refine (align_any w.heap.size _ v3 0 w3 A3.out (by decide)).mono ?_
  intro e w4 hr
  obtain ⟨rfl, hp⟩ := hr.ok (fun h => h (by decide)) (by decide)
  obtain ⟨v4, a4, u4, n4⟩ := hp.step U3.out (Nat.le_refl _) N3.out
  have A4 := Lib.hid a4; have U4 := Lib.hid u4; have N4 := Lib.hid n4; clear a4 u4 n4 hp hr A3 U3 N3
  have e4 : (numBits 5 (Int.toNat 3) ++ (numBits 0 (Int.toNat 2) ++ numBits 1 1) ++ numBits (-0) ((8 - (numBits 5 (Int.toNat 3) ++ (numBits 0 (Int.toNat 2) ++ numBits 1 1)).length % 8) % 8)) = [1,0,1,0,0,1,0,0] := by decide +kernel
  have A4' := Lib.hid (e4 ▸ A4.out : WAt w4 w.heap.size [1,0,1,0,0,1,0,0] v4); clear A4 e4 N4
  go_wp2_with fail
  have a5 := WAt_new w4
  have u5 : Upd NoB w4 (w4.alloc (.cells #[.slice none 0 0, .int .i64 0] 29)) := (Upd.refl _ _).alloc _
  generalize w4.alloc (.cells #[.slice none 0 0, .int .i64 0] 29) = w5 at *
  have A5 := Lib.hid a5; clear a5
  have U5 := Lib.hid u5; clear u5
  refine (gamma_any w4.heap.size [] _ 5 w5 A5.out (by simp)).mono ?_
  intro e w6 hr
  obtain ⟨rfl, hp⟩ := hr.ok (fun h => h (by decide)) (by decide)
  obtain ⟨v6, a6, u6, n6⟩ := hp.step U5.out (Nat.le_refl _) (newB_nil _)
  simp only [List.nil_append] at a6
  have A6 := Lib.hid a6; have U6 := Lib.hid u6; have N6 := Lib.hid n6; clear a6 u6 n6 hp hr A5 U5
  go_wp2_with fail
  refine (signed_any w4.heap.size _ v6 (-1) 4 w6 A6.out (by decide)).mono ?_
  intro e w7 hr
  obtain ⟨rfl, hp⟩ := hr.ok (fun h => h (by decide)) (by decide)
  obtain ⟨v7, a7, u7, n7⟩ := hp.step U6.out (Nat.le_refl _) N6.out
  have e7 : (numBits 0 (Nat.log2 (Int.toNat 5)) ++ numBits 5 (Nat.log2 (Int.toNat 5) + 1) ++ numBits (-1) (Int.toNat 4)) = [0,0,1,0,1,1,1,1,1] := by decide +kernel
  have A7 := Lib.hid (e7 ▸ a7 : WAt w7 w4.heap.size [0,0,1,0,1,1,1,1,1] v7); have U7 := Lib.hid u7; clear a7 u7 n7 hp hr A6 U6 N6 e7
  go_wp2_with fail
  refine (wbytes_any w4.heap.size _ v7 w7 A7.out (by decide)).mono ?_
  rintro e w8 ⟨s8, rfl, r8, u8, n8⟩
  have e8 : pack [0,0,1,0,1,1,1,1,1] = [47, 128] := by decide +kernel
  rw [e8] at r8
  have R8 := Lib.hid r8.bytes; have U8 := Lib.hid (U7.out.trans u8 (fun k _ h => h)); have A8 := Lib.hid (A7.out.upd u8 (fun k _ => noB k)); clear r8 u8 n8 e8 A7 U7
  go_wp2_with fail
  refine (wlen_some w4.heap.size _ w8 A8.out.len).mono ?_
  rintro e w8' ⟨rfl, rfl⟩
  go_wp2_with fail
  refine (open_any s8 [47, 128] 9 w8 R8.out (by decide)).mono ?_
  intro e w9 hr
  rcases hr with ⟨h, _⟩ | ⟨_, h, _⟩ | ⟨_, _, p, sv, rfl, hp, hR, nv, hs, u9⟩
  · exact absurd h (by decide)
  · exact absurd h (by decide)
  have R9 := Lib.hid (show RAt w9 p sv [47, 128] 9 0 from hR); have S9 := Lib.hid (fun (_ : [47,128] ≠ ([] : List Nat)) => hs)
  have U9 := Lib.hid (u9.mono (fun k _ h => h) : Upd NoB w8 w9); clear hR hs nv u9
  go_wp2_with fail
  refine (rgamma_any p sv _ _ _ w9 R9.out S9.out).mono ?_
  rw [gam1]
  intro e w10 hr
  obtain ⟨rfl, r10, u10⟩ := hr.step U9.out hp
  have R10 := Lib.hid (show RAt w10 p sv [47, 128] 9 5 from r10); have U10 := Lib.hid u10; clear r10 u10 hr R9 U9
  go_wp2_with fail
  refine (rsigned_any p sv _ _ _ 4 w10 R10.out S9.out).mono ?_
  rw [sgn1]
  intro e w11 hr
  obtain ⟨rfl, r11, u11⟩ := hr.step U10.out hp
  have R11 := Lib.hid (show RAt w11 p sv [47, 128] 9 9 from r11); have U11 := Lib.hid u11; clear r11 u11 hr R10 U10
  have hcv := Lib.run_convert_bytes_const (P := Try.prog) w11 27 5 (u8s awakeS).toArray 9 9 (by rfl) (by rfl)
  have bs := awake_lit w11
  have us : Upd NoB w11 (w11.alloc (.cells (u8s awakeS).toArray 5 (9, 10))) := (Upd.refl _ _).alloc _
  change (convert _ _ _).run _ (w11.alloc (.cells #[.int .u8 49, .int .u8 50, .int .u8 51, .int .u8 52, .int .u8 53, .int .u8 54, .int .u8 55, .int .u8 56, .int .u8 57] 5)) = .ok _ (w11.alloc (.cells (u8s awakeS).toArray 5 (9, 10))) at hcv
  generalize w11.alloc (.cells (u8s awakeS).toArray 5 (9, 10)) = w12 at *
  have BS := Lib.hid bs; have US := Lib.hid us; clear bs us
  go_wp2_with fail
  have U12 := Lib.hid ((U8.out.trans U11.out (fun k _ h => h)).trans US.out (fun k _ h => h) : Upd NoB w4 w12)
  have Ux := Lib.hid (U11.out.trans US.out (fun k _ h => h) : Upd NoB w8 w12)
  have A12 := A4'.out.upd U12.out (fun k _ => noB k)
  have B12 := Lib.hid (A8.out.upd Ux.out (fun k _ => noB k))
  have R12 := Lib.hid (R11.out.upd US.out (fun k _ => noB k))
  have U12w := Lib.hid (U4.out.trans U12.out (fun k _ h => h))
  clear U4 U12 Ux U8 U11 US A4' A8 R11 S9 R8
  refine (wbytes_any w.heap.size _ v4 w12 A12 (by decide)).mono ?_
  rintro e w13 ⟨s13, rfl, r13, u13, n13⟩
  have e13 : pack [1,0,1,0,0,1,0,0] = [164] := by decide +kernel
  rw [e13] at r13
  have R13 := Lib.hid r13.bytes; have u13' := Lib.hid u13; clear r13 u13 n13 e13 A12
  go_wp2_with fail
  have b13 := (lit8 w13 [164] (all255 (by decide)) (by decide)).bytes
  have v13 : Upd NoB w13 (w13.alloc (.cells (u8s [164]).toArray 5)) := (Upd.refl _ _).alloc _
  change Calls _ _ _ (w13.alloc (.cells (u8s [164]).toArray 5)) _
  generalize w13.alloc (.cells (u8s [164]).toArray 5) = w14 at *
  refine (same_any s13 _ [164] [164] w14 (bytes_later R13.out v13) b13 (by decide)).mono ?_
  rintro e w15 ⟨rfl, n15, rfl⟩
  have U15 := Lib.hid (upd_drewN (u13'.out.trans v13 (fun k _ h => h)) n15 : Upd NoB w12 (w14.drewN n15))
  clear R13 u13' b13 v13
  generalize w14.drewN n15 = w15 at *
  have s15 : sameB [164] [164] = true := by decide
  rw [s15]
  go_wp2_with fail
  have B15 := B12.out.upd U15.out (fun k _ => noB k)
  have R15 := Lib.hid (R12.out.upd U15.out (fun k _ => noB k))
  have T15 := Lib.hid (bytes_later BS.out U15.out)
  have Z15 := Lib.hid (U12w.out.trans U15.out (fun k _ h => h))
  clear B12 R12 BS U12w U15 s15
  refine (wbytes_any w4.heap.size _ v7 w15 B15 (by decide)).mono ?_
  rintro e w16 ⟨s16, rfl, r16, u16, n16⟩
  have e16 : pack [0,0,1,0,1,1,1,1,1] = [47, 128] := by decide +kernel
  rw [e16] at r16
  have R16 := Lib.hid r16.bytes; have u16' := Lib.hid u16; clear r16 u16 n16 e16 B15
  go_wp2_with fail
  have b16 := (lit8 w16 [47, 128] (all255 (by decide)) (by decide)).bytes
  have v16 : Upd NoB w16 (w16.alloc (.cells (u8s [47, 128]).toArray 5)) := (Upd.refl _ _).alloc _
  change Calls _ _ _ (w16.alloc (.cells (u8s [47, 128]).toArray 5)) _
  generalize w16.alloc (.cells (u8s [47, 128]).toArray 5) = w17 at *
  refine (same_any s16 _ [47, 128] [47, 128] w17 (bytes_later R16.out v16) b16 (by decide)).mono ?_
  rintro e w18 ⟨rfl, n18, rfl⟩
  have U18 := Lib.hid (upd_drewN (u16'.out.trans v16 (fun k _ h => h)) n18 : Upd NoB w15 (w17.drewN n18))
  clear R16 u16' b16 v16
  generalize w17.drewN n18 = w18 at *
  have s18 : sameB [47, 128] [47, 128] = true := by decide
  rw [s18]
  go_wp2_with fail
  have R18 := R15.out.upd U18.out (fun k _ => noB k)
  have T18 := Lib.hid (bytes_later T15.out U18.out)
  have Z18 := Lib.hid (Z15.out.trans U18.out (fun k _ h => h))
  clear R15 T15 Z15 U18 s18
  refine (left_any p 9 9 w18 R18.c1 R18.c2 (by decide) (by decide)).mono ?_
  rintro e w19 ⟨rfl, rfl⟩
  have T19 := Lib.hid (bytes_later T18.out (Upd.refl _ _).drew)
  have Z19 := Lib.hid (Z18.out.trans (Upd.refl NoB _).drew (fun k _ h => h))
  clear R18 T18 Z18
  generalize w18.drew = w19 at *
  go_wp2_with fail
  refine (crc16_any _ [] w19 (bytes_nil _) (by decide)).mono ?_
  rintro e w20 ⟨rfl, u20⟩
  have T20 := Lib.hid (bytes_later T19.out u20)
  have Z20 := Lib.hid (Z19.out.trans u20 (fun k _ h => h))
  clear T19 Z19 u20
  have c20 : ((bitsOf [] 0 (8 * ([] : List Nat).length)).foldl c16 65535 : Nat) = 65535 := by decide
  rw [c20]
  go_wp2_with fail
  refine (crc16_any _ awakeS w20 T20.out (by decide)).mono ?_
  rintro e w21 ⟨rfl, u21⟩
  have T21 := Lib.hid (bytes_later T20.out u21)
  have Z21 := Lib.hid (Z20.out.trans u21 (fun k _ h => h))
  clear T20 Z20 u21 c20
  rw [sum16]
  go_wp2_with fail
  refine (crc32_any _ awakeS w21 T21.out (by decide)).mono ?_
  rintro e w22 ⟨rfl, u22⟩
  have Z22 := Lib.hid (Z21.out.trans u22 (fun k _ h => h))
  clear T21 Z21 u22
  rw [sum32]
  go_wp2_with fail
  go_ret
  exact ⟨rfl, Z22.out⟩
end Go.Proofs.Ytdjaileeklhkmaa
