/- stereo: the law's flat, few and awake; lists of flags that are the same -/
import Derived.Test.YtopjjdfnnjgnlaaUP
namespace Go.Proofs.Ytopjjdfnnjgnlaa
open Go.RowKit Go.Shelf

def blsB (xs ys : List Bool) : Bool := decide (xs = ys)
theorem blsB_self (xs : List Bool) : blsB xs xs = true := decide_eq_true rfl
theorem blsB_iff {xs ys : List Bool} : blsB xs ys = true ↔ xs = ys := decide_eq_true_iff
set_option maxRecDepth 100000 in
set_option maxHeartbeats 2000000 in
theorem rBools_any (sa sb : Value) (xs ys : List Bool) (w : World) (ha : Bls w sa xs) (hb : Bls w sb ys) :
    Calls Try.prog 24 #[sa, sb] w fun e w' => e = .returned (.bool (blsB xs ys)) ∧ ∃ n, w' = w.drewN n := by
  obtain ⟨a255, a, ca, rfl, _, ha⟩ := ha
  obtain ⟨b255, b, cb, rfl, _, hb⟩ := hb
  have HA := Lib.hid ha; clear ha
  have HB := Lib.hid hb; clear hb
  have B2 := Lib.hid b255; clear b255
  by_cases hlen : xs.length = ys.length
  · have hlb : ((xs.length : Int) != (ys.length : Int)) = false := by simp; omega
    have Hlen := Lib.hid hlen; clear hlen
    go_enter Try.func24, Try.ntmps24
    go_wp2_with fail
    go_loopw [13] (fun i wr => ∃ (k n : Nat), k ≤ xs.length ∧ i = .int .i64 k ∧ (∀ j, j < k → xs[j]? = ys[j]?) ∧ wr = w.drewN n) (fun i _ => xs.length - (intOf i).toNat)
    case atStart => exact ⟨0, 0, Nat.zero_le _, rfl, fun j hj => by omega, rfl⟩
    case round =>
      obtain ⟨k, n, hk, rfl, heq, rfl⟩ := hrel
      have Heq := Lib.hid heq; clear heq
      by_cases hlt : k < xs.length
      · have hltb : k < ys.length := by have := Hlen.out; omega
        rcases HA.out with hz | ⟨ba, oa, rfl, hca⟩
        · subst hz; simp at hlt
        rcases HB.out with hz | ⟨bb, ob, rfl, hcb⟩
        · subst hz; simp at hltb
        obtain ⟨x, g1⟩ : ∃ x, xs[k]? = some x := ⟨_, List.getElem?_eq_getElem hlt⟩
        obtain ⟨y, g2⟩ : ∃ y, ys[k]? = some y := ⟨_, List.getElem?_eq_getElem hltb⟩
        have d1 := hca k x g1
        have d2 := hcb k y g2
        have q1 : (k : Int) < xs.length := by omega
        have q2 : (k : Int) < ys.length := by omega
        have G1 := Lib.hid g1; clear g1
        have G2 := Lib.hid g2; clear g2
        clear hca hcb
        by_cases hxy : x = y
        · subst hxy
          cases x <;>
            (go_wp2
             go_quiet (fail)
             go_wp2
             go_roundw
             case rel =>
               refine ⟨k + 1, n + nq, by omega, by go_num, fun j hj => ?_, rfl⟩
               rcases Nat.lt_or_ge j k with h | h
               · exact Heq.out j h
               · obtain rfl : j = k := by omega
                 rw [G1.out, G2.out]
             case measure => simp [intOf]; omega)
        · have hf : blsB xs ys = false := decide_eq_false (fun e => by
            have h1 := G1.out; have h2 := G2.out
            rw [e, h2] at h1
            injection h1 with h1
            exact hxy h1.symm)
          have Hf := Lib.hid hf; clear hf
          cases x <;> cases y <;> first | exact absurd rfl hxy | skip
          all_goals
            clear hxy
            go_wp2
            go_quiet (fail)
            go_wp2
            go_ret
            exact ⟨by rw [Hf.out]; rfl, n + nq, by first | rfl | rw [World.drewN_drewN]⟩
      · obtain rfl : k = xs.length := by omega
        have hf : blsB xs ys = true := decide_eq_true (List.ext_getElem? fun j => by
          rcases Nat.lt_or_ge j xs.length with h | h
          · exact Heq.out j h
          · rw [List.getElem?_eq_none h, List.getElem?_eq_none (by have := Hlen.out; omega)])
        have Hf := Lib.hid hf; clear hf
        go_wp2
        go_ret
        exact ⟨by rw [Hf.out]; rfl, n, rfl⟩
  · have hlb : ((xs.length : Int) != (ys.length : Int)) = true := by simp; omega
    have hf : blsB xs ys = false := decide_eq_false (fun e => hlen (by rw [e]))
    have Hf := Lib.hid hf; clear hf hlen
    go_enter Try.func24, Try.ntmps24
    go_wp2
    go_ret
    exact ⟨by rw [Hf.out]; rfl, 0, rfl⟩

theorem made_zero (n : Nat) : (madeCells #[Value.int .i64 0] n).toList = i64s (List.replicate n 0) := by
  rw [toList_madeCells_one]; simp [i64s]
theorem Ints.ofBlock {w : World} {g : Nat} {t : TypeId} {xs : List Int} (hl : xs.length ≤ 1000000) (h : w.heap[g]? = some (.cells (i64s xs).toArray t (0, 0))) : Ints w (.slice (some ⟨g, 0, none⟩) xs.length xs.length) xs :=
  ⟨by omega, _, _, rfl, ⟨Nat.le_refl _, fun e => by cases e⟩, .inr ⟨g, 0, rfl, fun j x hx => by rw [Nat.zero_add, blk_cell h j, List.getElem?_toArray, i64s_get, hx]; rfl⟩⟩
theorem Bls.ofBlock {w : World} {g : Nat} {t : TypeId} {xs : List Bool} (hl : xs.length ≤ 1000000) (h : w.heap[g]? = some (.cells (bls xs).toArray t (0, 0))) : Bls w (.slice (some ⟨g, 0, none⟩) xs.length xs.length) xs :=
  ⟨by omega, _, _, rfl, ⟨Nat.le_refl _, fun e => by cases e⟩, .inr ⟨g, 0, rfl, fun j x hx => by rw [Nat.zero_add, blk_cell h j, List.getElem?_toArray, bls_get, hx]; rfl⟩⟩
def fl (v : Int) : List Int := List.replicate 128 v
def flT (v : Int) (k : Nat) : List Int := List.replicate k v ++ List.replicate (128 - k) 0
theorem flT_zero (v : Int) : flT v 0 = List.replicate 128 0 := by simp [flT]
theorem flT_all (v : Int) : flT v 128 = fl v := by simp [flT, fl]
theorem flT_len {v : Int} {k : Nat} (h : k ≤ 128) : (flT v k).length = 128 := by simp [flT]; omega
theorem flT_set {v : Int} {k : Nat} (h : k < 128) : (i64s (flT v k)).toArray.setIfInBounds k (.int .i64 v) = (i64s (flT v (k + 1))).toArray := by
  rw [List.setIfInBounds_toArray]
  congr 1
  unfold flT i64s
  rw [show 128 - k = (128 - (k + 1)) + 1 by omega, List.replicate_succ, List.map_append, List.map_append, List.map_cons, List.set_append_right _ _ (by simp)]
  simp [List.replicate_succ']
set_option maxRecDepth 100000 in
set_option maxHeartbeats 4000000 in
theorem flat_any (v : Int) (w : World) : Calls Try.prog 48 #[.int .i64 v] w fun e w' => ∃ a c, e = .returned (.slice a 128 c) ∧ Ints w' (.slice a 128 c) (fl v) ∧ Upd NoB w w' := by
  obtain ⟨i0, hi, hz0, hz1, hz2⟩ := info_parts Try.infoInt
  have HFS := Lib.hid (fun k (h : k < 128) => flT_set (v := v) h); have HFL := Lib.hid (fun k (h : k ≤ 128) => flT_len (v := v) h); have HF0 := Lib.hid (flT_zero v); have HFA := Lib.hid (flT_all v)
  obtain ⟨W, hW⟩ : ∃ W : World, w = W := ⟨_, rfl⟩
  have HW := Lib.hid hW
  clear hW
  go_enter Try.func48, Try.ntmps48
  go_wp2_with (rw [HW.out]; refine wpList_make_full W rfl _ _ 22 rfl W.heap.size 3 i0 (.int .i64 0) 1 Try.underlying22 hi hz0 hz1 .i64 .i64 _ _ 128 rfl rfl rfl rfl ?c1 ?c2 ?c3 ?_)
  case c1 => rw [hz2]; omega
  case c2 => unfold maxLen; omega
  case c3 => exact Nat.le_refl _
  intro w2 hown hgr
  rw [made_zero] at hown
  have hu2 : Upd NoB W w2 := (Upd.refl _ _).grown hgr (fun k e => by cases e)
  have hfull := (row_full hown).1
  rw [← HF0.out] at hfull
  have HFull := Lib.hid hfull; have U2 := Lib.hid hu2
  obtain ⟨G, hG⟩ : ∃ G, W.heap.size = G := ⟨_, rfl⟩
  have HG1 := Lib.hid hG
  rw [hG] at HFull ⊢
  clear hown hgr hu2 hfull hG
  go_wp2_with fail
  go_loopw [8] (fun i wr => ∃ k : Nat, k ≤ 128 ∧ i = .int .i64 k ∧ wr.heap[G]? = some (.cells (i64s (flT v k)).toArray 3 (0, 0)) ∧ Upd (fun q => q = G) w2 wr) (fun i _ => 128 - (intOf i).toNat)
  case atStart => exact ⟨0, Nat.zero_le _, rfl, HFull.out, Upd.refl _ _⟩
  case round =>
    obtain ⟨k, hk, rfl, hb, hu⟩ := hrel
    by_cases hlt : k < 128
    · have hlen : (i64s (flT v k)).toArray.size = 128 := by rw [List.size_toArray, i64s_length, HFL.out k hk]
      obtain ⟨z, hz⟩ : ∃ z, (i64s (flT v k)).toArray[k]? = some z := ⟨_, Array.getElem?_eq_getElem (by omega)⟩
      have d0 : wr.cell? ⟨G, k, none⟩ = some z := (blk_cell hb k).trans hz
      have f0 := blk_free hb k
      have HB := Lib.hid hb; have HU := Lib.hid hu
      have q1 : (k : Int) < 128 := by omega
      clear hlen hz hb hu
      go_wp2_with fail
      go_roundw
      case rel => exact ⟨k + 1, by omega, by go_num, by rw [← HFS.out k hlt]; exact block_set HB.out _, HU.out.setCell (p := ⟨G, k, none⟩) _ (fun _ => rfl)⟩
      case measure => simp [intOf]; omega
    · obtain rfl : k = 128 := by omega
      have HB := Lib.hid hb; have HU := Lib.hid hu
      clear hb hu hlt
      go_wp2_with fail
      go_ret
      have hb := HB.out
      rw [HFA.out] at hb
      refine ⟨_, _, rfl, ?_, ?_⟩
      · exact Ints.ofBlock (xs := fl v) (by simp [fl]) hb
      · rw [HW.out]; exact U2.out.trans HU.out (fun j hj e => by have := HG1.out; have e : j = G := e; omega)
theorem aw_ch : chE (fl 5) (fl 5) [128] 2097152 = 0 ∧ chS (fl 5) (fl 5) [128] = [true] := by decide +kernel
theorem aw_gn : chE (fl 1) (fl (-1)) [128] 2097152 = 0 ∧ gnS (fl 1) (fl (-1)) [128] = [13696] := by decide +kernel
theorem aw_co : cpE (fl 5) (fl 5) [128] [true] 2097152 = 0 ∧ couA midP 2097152 (fl 5) (fl 5) [128] [true] = fl 5 ∧ couB midP 2097152 (fl 5) (fl 5) [128] [true] = fl 0 := by decide +kernel
theorem aw_pa : cpE (fl 5) (fl 0) [128] [true] 8388608 = 0 ∧ couA sidP 8388608 (fl 5) (fl 0) [128] [true] = fl 5 ∧ couB sidP 8388608 (fl 5) (fl 0) [128] [true] = fl 5 := by decide +kernel
theorem aw_cr : crS (fl 5) (fl 5) [128] = [256] := by decide +kernel

set_option maxRecDepth 100000 in
set_option maxHeartbeats 8000000 in
theorem awake_st (w : World) : Calls Try.prog 17 #[] w fun e w' => e = .returned (.bool true) ∧ Upd NoB w w' := by
  go_enter Try.func17, Try.ntmps17
  have y1 : Upd NoB w (w.alloc (.cells (i64s [128]).toArray 3)) := (Upd.refl _ _).alloc _
  have Lt1 := Lib.hid (show Ints (w.alloc (.cells (i64s [128]).toArray 3)) (.slice (some ⟨w.heap.size, 0, none⟩) 1 1) [128] from Ints.ofBlock (xs := [128]) (by decide) (heap_alloc_new w _))
  have UU1 := Lib.hid ((Upd.refl NoB w).then y1)
  clear y1
  go_wp2_with fail
  refine (flat_any 5 _).mono ?_
  rintro e w2 ⟨a2, c2, rfl, i2, u2⟩
  have WS2 := Lib.hid (Lt1.out.later u2)
  clear Lt1
  have UU2 := Lib.hid (UU1.out.then u2)
  clear UU1
  have A2 := Lib.hid (i2)
  clear i2 u2
  go_wp2_with fail
  refine (flat_any 5 w2).mono ?_
  rintro e w3 ⟨a3, c3, rfl, i3, u3⟩
  have WS3 := Lib.hid (WS2.out.later u3)
  clear WS2
  have A3 := Lib.hid (A2.out.later u3)
  clear A2
  have UU3 := Lib.hid (UU2.out.then u3)
  clear UU2
  have B3 := Lib.hid (i3)
  clear i3 u3
  go_wp2_with fail
  refine (Choose_any _ _ _ (fl 5) (fl 5) [128] w3 A3.out B3.out WS3.out).mono ?_
  rw [aw_ch.1, aw_ch.2]
  intro e w4 hr
  obtain ⟨a4, c4, rfl, i4, u4⟩ := EBls.open hr (by decide)
  have WS4 := Lib.hid (WS3.out.later u4)
  clear WS3
  clear A3
  clear B3
  have UU4 := Lib.hid (UU3.out.then u4)
  clear UU3
  have CH4 := Lib.hid (i4)
  clear hr i4 u4
  go_wp2_with fail
  refine (flat_any 1 w4).mono ?_
  rintro e w5 ⟨a5, c5, rfl, i5, u5⟩
  have WS5 := Lib.hid (WS4.out.later u5)
  clear WS4
  have CH5 := Lib.hid (CH4.out.later u5)
  clear CH4
  have UU5 := Lib.hid (UU4.out.then u5)
  clear UU4
  have A5 := Lib.hid (i5)
  clear i5 u5
  go_wp2_with fail
  refine (flat_any (-1) w5).mono ?_
  rintro e w6 ⟨a6, c6, rfl, i6, u6⟩
  have WS6 := Lib.hid (WS5.out.later u6)
  clear WS5
  have CH6 := Lib.hid (CH5.out.later u6)
  clear CH5
  have A6 := Lib.hid (A5.out.later u6)
  clear A5
  have UU6 := Lib.hid (UU5.out.then u6)
  clear UU5
  have B6 := Lib.hid (i6)
  clear i6 u6
  go_wp2_with fail
  refine (Gains_any _ _ _ (fl 1) (fl (-1)) [128] w6 A6.out B6.out WS6.out).mono ?_
  rw [aw_gn.1, aw_gn.2]
  intro e w7 hr
  obtain ⟨a7, c7, rfl, i7, u7⟩ := EInts.open hr (by decide)
  have WS7 := Lib.hid (WS6.out.later u7)
  clear WS6
  have CH7 := Lib.hid (CH6.out.later u7)
  clear CH6
  clear A6
  clear B6
  have UU7 := Lib.hid (UU6.out.then u7)
  clear UU6
  have GN7 := Lib.hid (i7)
  clear hr i7 u7
  go_wp2_with fail
  refine (flat_any 5 w7).mono ?_
  rintro e w8 ⟨a8, c8, rfl, i8, u8⟩
  have WS8 := Lib.hid (WS7.out.later u8)
  clear WS7
  have CH8 := Lib.hid (CH7.out.later u8)
  clear CH7
  have GN8 := Lib.hid (GN7.out.later u8)
  clear GN7
  have UU8 := Lib.hid (UU7.out.then u8)
  clear UU7
  have A8 := Lib.hid (i8)
  clear i8 u8
  go_wp2_with fail
  refine (flat_any 5 w8).mono ?_
  rintro e w9 ⟨a9, c9, rfl, i9, u9⟩
  have WS9 := Lib.hid (WS8.out.later u9)
  clear WS8
  have CH9 := Lib.hid (CH8.out.later u9)
  clear CH8
  have GN9 := Lib.hid (GN8.out.later u9)
  clear GN8
  have A9 := Lib.hid (A8.out.later u9)
  clear A8
  have UU9 := Lib.hid (UU8.out.then u9)
  clear UU8
  have B9 := Lib.hid (i9)
  clear i9 u9
  go_wp2_with fail
  refine (Couple_any _ _ _ _ (fl 5) (fl 5) [128] [true] w9 A9.out B9.out WS9.out CH9.out).mono ?_
  rw [aw_co.1, aw_co.2.1, aw_co.2.2]
  intro e w10 hr
  obtain ⟨a10, c10, b10, d10, rfl, i10, j10, u10⟩ := ETwo.open hr (by decide) (by decide)
  have WS10 := Lib.hid (WS9.out.later u10)
  clear WS9
  have CH10 := Lib.hid (CH9.out.later u10)
  clear CH9
  have GN10 := Lib.hid (GN9.out.later u10)
  clear GN9
  clear A9
  clear B9
  have UU10 := Lib.hid (UU9.out.then u10)
  clear UU9
  have CA10 := Lib.hid (i10)
  have CB10 := Lib.hid (j10)
  clear hr i10 j10 u10
  go_wp2_with fail
  refine (Part_any _ _ _ _ (fl 5) (fl 0) [128] [true] w10 CA10.out CB10.out WS10.out CH10.out).mono ?_
  rw [aw_pa.1, aw_pa.2.1, aw_pa.2.2]
  intro e w11 hr
  obtain ⟨a11, c11, b11, d11, rfl, i11, j11, u11⟩ := ETwo.open hr (by decide) (by decide)
  have WS11 := Lib.hid (WS10.out.later u11)
  clear WS10
  have CH11 := Lib.hid (CH10.out.later u11)
  clear CH10
  have GN11 := Lib.hid (GN10.out.later u11)
  clear GN10
  have CA11 := Lib.hid (CA10.out.later u11)
  clear CA10
  have CB11 := Lib.hid (CB10.out.later u11)
  clear CB10
  have UU11 := Lib.hid (UU10.out.then u11)
  clear UU10
  have PA11 := Lib.hid (i11)
  have PB11 := Lib.hid (j11)
  clear hr i11 j11 u11
  go_wp2_with fail
  refine (flat_any 5 w11).mono ?_
  rintro e w12 ⟨a12, c12, rfl, i12, u12⟩
  have WS12 := Lib.hid (WS11.out.later u12)
  clear WS11
  have CH12 := Lib.hid (CH11.out.later u12)
  clear CH11
  have GN12 := Lib.hid (GN11.out.later u12)
  clear GN11
  have CA12 := Lib.hid (CA11.out.later u12)
  clear CA11
  have CB12 := Lib.hid (CB11.out.later u12)
  clear CB11
  have PA12 := Lib.hid (PA11.out.later u12)
  clear PA11
  have PB12 := Lib.hid (PB11.out.later u12)
  clear PB11
  have UU12 := Lib.hid (UU11.out.then u12)
  clear UU11
  have A12 := Lib.hid (i12)
  clear i12 u12
  go_wp2_with fail
  refine (flat_any 5 w12).mono ?_
  rintro e w13 ⟨a13, c13, rfl, i13, u13⟩
  have WS13 := Lib.hid (WS12.out.later u13)
  clear WS12
  have CH13 := Lib.hid (CH12.out.later u13)
  clear CH12
  have GN13 := Lib.hid (GN12.out.later u13)
  clear GN12
  have CA13 := Lib.hid (CA12.out.later u13)
  clear CA12
  have CB13 := Lib.hid (CB12.out.later u13)
  clear CB12
  have PA13 := Lib.hid (PA12.out.later u13)
  clear PA12
  have PB13 := Lib.hid (PB12.out.later u13)
  clear PB12
  have A13 := Lib.hid (A12.out.later u13)
  clear A12
  have UU13 := Lib.hid (UU12.out.then u13)
  clear UU12
  have B13 := Lib.hid (i13)
  clear i13 u13
  go_wp2_with fail
  refine (Cross_any _ _ _ (fl 5) (fl 5) [128] w13 A13.out B13.out WS13.out).mono ?_
  rw [aw_ch.1, aw_cr]
  intro e w14 hr
  obtain ⟨a14, c14, rfl, i14, u14⟩ := EInts.open hr (by decide)
  clear WS13
  have CH14 := Lib.hid (CH13.out.later u14)
  clear CH13
  have GN14 := Lib.hid (GN13.out.later u14)
  clear GN13
  have CA14 := Lib.hid (CA13.out.later u14)
  clear CA13
  have CB14 := Lib.hid (CB13.out.later u14)
  clear CB13
  have PA14 := Lib.hid (PA13.out.later u14)
  clear PA13
  have PB14 := Lib.hid (PB13.out.later u14)
  clear PB13
  clear A13
  clear B13
  have UU14 := Lib.hid (UU13.out.then u14)
  clear UU13
  have CR14 := Lib.hid (i14)
  clear hr i14 u14
  go_wp2_with fail
  have y15 : Upd NoB w14 (w14.alloc (.cells (bls [true]).toArray 4)) := (Upd.refl _ _).alloc _
  have Lt15 := Lib.hid (show Bls (w14.alloc (.cells (bls [true]).toArray 4)) (.slice (some ⟨w14.heap.size, 0, none⟩) 1 1) [true] from Bls.ofBlock (xs := [true]) (by decide) (heap_alloc_new w14 _))
  have CH15 := Lib.hid (CH14.out.later y15)
  clear CH14
  have GN15 := Lib.hid (GN14.out.later y15)
  clear GN14
  have CA15 := Lib.hid (CA14.out.later y15)
  clear CA14
  have CB15 := Lib.hid (CB14.out.later y15)
  clear CB14
  have PA15 := Lib.hid (PA14.out.later y15)
  clear PA14
  have PB15 := Lib.hid (PB14.out.later y15)
  clear PB14
  have CR15 := Lib.hid (CR14.out.later y15)
  clear CR14
  have UU15 := Lib.hid (UU14.out.then y15)
  clear UU14
  clear y15
  refine (rBools_any _ _ [true] [true] _ CH15.out Lt15.out).mono ?_
  rw [blsB_self]
  rintro e w16 ⟨rfl, m16, hw16⟩
  have u16 : Upd NoB (w14.alloc (.cells (bls [true]).toArray 4)) w16 := by rw [hw16]; exact upd_drewN (Upd.refl _ _) _
  clear CH15
  have GN16 := Lib.hid (GN15.out.later u16)
  clear GN15
  have CA16 := Lib.hid (CA15.out.later u16)
  clear CA15
  have CB16 := Lib.hid (CB15.out.later u16)
  clear CB15
  have PA16 := Lib.hid (PA15.out.later u16)
  clear PA15
  have PB16 := Lib.hid (PB15.out.later u16)
  clear PB15
  have CR16 := Lib.hid (CR15.out.later u16)
  clear CR15
  clear Lt15
  have UU16 := Lib.hid (UU15.out.then u16)
  clear UU15
  clear u16 hw16
  go_wp2_with fail
  have y17 : Upd NoB w16 (w16.alloc (.cells (i64s [13696]).toArray 3)) := (Upd.refl _ _).alloc _
  have Lt17 := Lib.hid (show Ints (w16.alloc (.cells (i64s [13696]).toArray 3)) (.slice (some ⟨w16.heap.size, 0, none⟩) 1 1) [13696] from Ints.ofBlock (xs := [13696]) (by decide) (heap_alloc_new w16 _))
  have GN17 := Lib.hid (GN16.out.later y17)
  clear GN16
  have CA17 := Lib.hid (CA16.out.later y17)
  clear CA16
  have CB17 := Lib.hid (CB16.out.later y17)
  clear CB16
  have PA17 := Lib.hid (PA16.out.later y17)
  clear PA16
  have PB17 := Lib.hid (PB16.out.later y17)
  clear PB16
  have CR17 := Lib.hid (CR16.out.later y17)
  clear CR16
  have UU17 := Lib.hid (UU16.out.then y17)
  clear UU16
  clear y17
  refine (qints_any _ _ [13696] [13696] _ GN17.out Lt17.out).mono ?_
  rw [intsB_self]
  rintro e w18 ⟨rfl, m18, hw18⟩
  have u18 : Upd NoB (w16.alloc (.cells (i64s [13696]).toArray 3)) w18 := by rw [hw18]; exact upd_drewN (Upd.refl _ _) _
  clear GN17
  have CA18 := Lib.hid (CA17.out.later u18)
  clear CA17
  have CB18 := Lib.hid (CB17.out.later u18)
  clear CB17
  have PA18 := Lib.hid (PA17.out.later u18)
  clear PA17
  have PB18 := Lib.hid (PB17.out.later u18)
  clear PB17
  have CR18 := Lib.hid (CR17.out.later u18)
  clear CR17
  clear Lt17
  have UU18 := Lib.hid (UU17.out.then u18)
  clear UU17
  clear u18 hw18
  go_wp2_with fail
  refine (flat_any 5 w18).mono ?_
  rintro e w19 ⟨a19, c19, rfl, i19, u19⟩
  have CA19 := Lib.hid (CA18.out.later u19)
  clear CA18
  have CB19 := Lib.hid (CB18.out.later u19)
  clear CB18
  have PA19 := Lib.hid (PA18.out.later u19)
  clear PA18
  have PB19 := Lib.hid (PB18.out.later u19)
  clear PB18
  have CR19 := Lib.hid (CR18.out.later u19)
  clear CR18
  have UU19 := Lib.hid (UU18.out.then u19)
  clear UU18
  have T19 := Lib.hid (i19)
  clear i19 u19
  go_wp2_with fail
  refine (qints_any _ _ (fl 5) (fl 5) _ CA19.out T19.out).mono ?_
  rw [intsB_self]
  rintro e w20 ⟨rfl, m20, hw20⟩
  have u20 : Upd NoB w19 w20 := by rw [hw20]; exact upd_drewN (Upd.refl _ _) _
  clear CA19
  have CB20 := Lib.hid (CB19.out.later u20)
  clear CB19
  have PA20 := Lib.hid (PA19.out.later u20)
  clear PA19
  have PB20 := Lib.hid (PB19.out.later u20)
  clear PB19
  have CR20 := Lib.hid (CR19.out.later u20)
  clear CR19
  clear T19
  have UU20 := Lib.hid (UU19.out.then u20)
  clear UU19
  clear u20 hw20
  go_wp2_with fail
  refine (flat_any 0 w20).mono ?_
  rintro e w21 ⟨a21, c21, rfl, i21, u21⟩
  have CB21 := Lib.hid (CB20.out.later u21)
  clear CB20
  have PA21 := Lib.hid (PA20.out.later u21)
  clear PA20
  have PB21 := Lib.hid (PB20.out.later u21)
  clear PB20
  have CR21 := Lib.hid (CR20.out.later u21)
  clear CR20
  have UU21 := Lib.hid (UU20.out.then u21)
  clear UU20
  have T21 := Lib.hid (i21)
  clear i21 u21
  go_wp2_with fail
  refine (qints_any _ _ (fl 0) (fl 0) _ CB21.out T21.out).mono ?_
  rw [intsB_self]
  rintro e w22 ⟨rfl, m22, hw22⟩
  have u22 : Upd NoB w21 w22 := by rw [hw22]; exact upd_drewN (Upd.refl _ _) _
  clear CB21
  have PA22 := Lib.hid (PA21.out.later u22)
  clear PA21
  have PB22 := Lib.hid (PB21.out.later u22)
  clear PB21
  have CR22 := Lib.hid (CR21.out.later u22)
  clear CR21
  clear T21
  have UU22 := Lib.hid (UU21.out.then u22)
  clear UU21
  clear u22 hw22
  go_wp2_with fail
  refine (flat_any 5 w22).mono ?_
  rintro e w23 ⟨a23, c23, rfl, i23, u23⟩
  have PA23 := Lib.hid (PA22.out.later u23)
  clear PA22
  have PB23 := Lib.hid (PB22.out.later u23)
  clear PB22
  have CR23 := Lib.hid (CR22.out.later u23)
  clear CR22
  have UU23 := Lib.hid (UU22.out.then u23)
  clear UU22
  have T23 := Lib.hid (i23)
  clear i23 u23
  go_wp2_with fail
  refine (qints_any _ _ (fl 5) (fl 5) _ PA23.out T23.out).mono ?_
  rw [intsB_self]
  rintro e w24 ⟨rfl, m24, hw24⟩
  have u24 : Upd NoB w23 w24 := by rw [hw24]; exact upd_drewN (Upd.refl _ _) _
  clear PA23
  have PB24 := Lib.hid (PB23.out.later u24)
  clear PB23
  have CR24 := Lib.hid (CR23.out.later u24)
  clear CR23
  clear T23
  have UU24 := Lib.hid (UU23.out.then u24)
  clear UU23
  clear u24 hw24
  go_wp2_with fail
  refine (flat_any 5 w24).mono ?_
  rintro e w25 ⟨a25, c25, rfl, i25, u25⟩
  have PB25 := Lib.hid (PB24.out.later u25)
  clear PB24
  have CR25 := Lib.hid (CR24.out.later u25)
  clear CR24
  have UU25 := Lib.hid (UU24.out.then u25)
  clear UU24
  have T25 := Lib.hid (i25)
  clear i25 u25
  go_wp2_with fail
  refine (qints_any _ _ (fl 5) (fl 5) _ PB25.out T25.out).mono ?_
  rw [intsB_self]
  rintro e w26 ⟨rfl, m26, hw26⟩
  have u26 : Upd NoB w25 w26 := by rw [hw26]; exact upd_drewN (Upd.refl _ _) _
  clear PB25
  have CR26 := Lib.hid (CR25.out.later u26)
  clear CR25
  clear T25
  have UU26 := Lib.hid (UU25.out.then u26)
  clear UU25
  clear u26 hw26
  go_wp2_with fail
  have y27 : Upd NoB w26 (w26.alloc (.cells (i64s [256]).toArray 3)) := (Upd.refl _ _).alloc _
  have Lt27 := Lib.hid (show Ints (w26.alloc (.cells (i64s [256]).toArray 3)) (.slice (some ⟨w26.heap.size, 0, none⟩) 1 1) [256] from Ints.ofBlock (xs := [256]) (by decide) (heap_alloc_new w26 _))
  have CR27 := Lib.hid (CR26.out.later y27)
  clear CR26
  have UU27 := Lib.hid (UU26.out.then y27)
  clear UU26
  clear y27
  refine (qints_any _ _ [256] [256] _ CR27.out Lt27.out).mono ?_
  rw [intsB_self]
  rintro e w28 ⟨rfl, m28, hw28⟩
  have u28 : Upd NoB (w26.alloc (.cells (i64s [256]).toArray 3)) w28 := by rw [hw28]; exact upd_drewN (Upd.refl _ _) _
  clear CR27
  clear Lt27
  have UU28 := Lib.hid (UU27.out.then u28)
  clear UU27
  clear u28 hw28
  go_wp2_with fail
  go_ret
  exact ⟨rfl, UU28.out⟩
end Go.Proofs.Ytopjjdfnnjgnlaa
