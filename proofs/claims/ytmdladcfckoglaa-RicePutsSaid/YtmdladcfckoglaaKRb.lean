/- rice: the law of Put -/
import Derived.Test.YtmdladcfckoglaaKX
namespace Go.Proofs.Ytmdladcfckoglaa
open Go.RowKit Go.Shelf

set_option maxRecDepth 100000 in
set_option maxHeartbeats 8000000 in
theorem puts_law (lv sv : Value) (xs : List Int) (zs : List Nat) (k : Int) (w : World) (h : Ints w lv xs) (hs : Bytes w sv zs) (hzl : zs.length ≤ 140737488355328) :
    Calls Try.prog 5 #[lv, .int .i64 k, sv] w fun e w' => e = .returned (.bool true) ∧ Upd NoB w w' := by
  obtain ⟨la, lc, rfl⟩ := h.form
  obtain ⟨sa, sc, rfl⟩ : ∃ a c, sv = .slice a zs.length c := by obtain ⟨_, a, c, e, _⟩ := hs; exact ⟨a, c, e⟩
  have hxl := h.1
  have H := Lib.hid h; have HS := Lib.hid hs
  obtain ⟨L, hL⟩ : ∃ L, xs.length = L := ⟨_, rfl⟩
  obtain ⟨Z, hZ⟩ : ∃ Z, zs.length = Z := ⟨_, rfl⟩
  have HL := Lib.hid hL; have HZ := Lib.hid hZ
  rw [hL] at H hxl ⊢
  rw [hZ] at HS hzl ⊢
  clear h hs hL hZ
  by_cases h1 : 100 < L
  · have t1 : decide ((100 : Int) < (L : Int)) = true := decide_eq_true (by omega)
    clear h1
    go_enter Try.func5, Try.ntmps5
    go_wp2_with (go_at_call 16; refine (kawake_any _).mono ?_; rintro e w' ⟨rfl, u9⟩; have U9 := Lib.hid u9; clear u9)
    go_ret
    exact ⟨rfl, U9.out⟩
  by_cases h2 : 140000 < Z
  · have t1 : decide ((100 : Int) < (L : Int)) = false := decide_eq_false (by omega)
    have t2 : decide ((140000 : Int) < (Z : Int)) = true := decide_eq_true (by omega)
    clear h1 h2
    go_enter Try.func5, Try.ntmps5
    go_wp2_with (go_at_call 16; refine (kawake_any _).mono ?_; rintro e w' ⟨rfl, u9⟩; have U9 := Lib.hid u9; clear u9)
    go_ret
    exact ⟨rfl, U9.out⟩
  have t1 : decide ((100 : Int) < (L : Int)) = false := decide_eq_false (by omega)
  have t2 : decide ((140000 : Int) < (Z : Int)) = false := decide_eq_false (by omega)
  have hl1 : L ≤ 100 := by omega
  have hz1 : Z ≤ 140000 := by omega
  clear h1 h2
  go_enter Try.func5, Try.ntmps5
  go_wp2_with fail
  refine (new_any w).mono ?_
  rintro e w1 ⟨rfl, hw1⟩
  have a1 := WAt_new w
  rw [← hw1] at a1
  have u1 : Upd NoB w w1 := by rw [hw1]; exact (Upd.refl _ _).alloc _
  have T0 := two_start u1 a1
  have hp : w.heap.size ≤ w.heap.size := Nat.le_refl _
  have hq : w.heap.size ≤ w1.heap.size := u1.size
  have hq1 : w1.heap.size = w.heap.size + 1 := by rw [hw1]; exact size_alloc _ _
  clear hw1 a1 u1
  go_wp2_with fail
  generalize w1.alloc (.cells #[.slice none 0 0] 37) = W3 at *
  rw [hq1] at T0 hq
  generalize w.heap.size + 1 = q at *
  have HT0 := Lib.hid T0
  have hsep : zs ≠ [] → ∀ j, (Value.slice sa Z sc).ownBlock = some j → ¬ wfoot w.heap.size (.slice none 0 0) j := fun hne j hj hf => by
    have hb := HS.out
    have : j < w.heap.size := by
      obtain ⟨c, t, fr, hc⟩ := hb.lt hne j hj
      exact lt_of_block hc
    rcases hf with rfl | hf
    · omega
    · simp [Value.ownBlock] at hf
  have HSep := Lib.hid hsep
  have HW := Lib.hid (append_any w.heap.size [] (.slice none 0 0) _ zs (8 * (Z : Int)) W3 HT0.out.wat (by simp) (bytes_later HS.out HT0.out.upd) (by rw [HZ.out]; omega) HSep.out)
  clear T0 hsep
  refine HW.out.mono ?_
  intro e w4 hr
  obtain ⟨r, rfl, hr2⟩ := id hr
  obtain ⟨v4, T4, _⟩ := HT0.out.step1 hp hr
  have HT4 := Lib.hid T4; have HR := Lib.hid hr
  clear T4 hr hr2
  go_wp2_with fail
  refine (vAppend_any q [] (.slice none 0 0) _ zs (8 * (Z : Int)) w4 HT4.out.vat (by simp) (bytes_later HS.out HT4.out.upd) (by rw [HZ.out]; omega)).mono ?_
  intro e w5 hr
  obtain ⟨r', rfl, hr2⟩ := id hr
  have hrr : r' = r := res_same HR.out hr
  obtain ⟨u5, T5, _⟩ := HT4.out.step2 hq hr
  subst hrr
  generalize hll : (if r' = 0 then [] ++ bitsOf zs 0 (8 * (Z : Int)).toNat else []) = l5 at *
  have HT5 := Lib.hid T5
  clear T5 hr hr2 HR HT4 HT0 HW hll
  go_wp2_with fail
  go_loopw [38] (fun i wr => ∃ (j : Nat) (l : List Nat) (v u : Value), j ≤ L ∧ i = .int .i64 j ∧ Two w wr w.heap.size q l l v u) (fun i _ => L - (intOf i).toNat)
  case atStart => exact ⟨0, _, _, _, Nat.zero_le _, rfl, HT5.out⟩
  case round =>
    obtain ⟨j, l, v, u, hj, rfl, hT⟩ := hrel
    have HT := Lib.hid hT; clear hT HT5
    by_cases hlt : j < L
    · obtain ⟨x, hx⟩ : ∃ x, xs[j]? = some x := ⟨_, List.getElem?_eq_getElem (by rw [HL.out]; exact hlt)⟩
      obtain ⟨bb, off, rfl, hc⟩ := (H.out.later HT.out.upd).cellAt hx
      have hlen := HT.out.len
      have HB := Lib.hid (putB_len (x := x) (k := k) hlen)
      clear hx
      go_wp2_with fail
      refine (Put_any w.heap.size l v x k wr HT.out.wat hlen).mono ?_
      rintro e w6 ⟨rfl, hp6⟩
      obtain ⟨v6, T6⟩ := HT.out.post1 hp (by rw [List.length_append]; exact HB.out) hp6
      have HT6 := Lib.hid T6; clear T6 hp6
      go_wp2_with fail
      refine (rPut_any q l u x k w6 HT6.out.vat hlen).mono ?_
      rintro e w7 ⟨rfl, hp7⟩
      obtain ⟨u7, T7⟩ := HT6.out.post2 hq hp7
      have HT7 := Lib.hid T7; clear T7 hp7
      generalize putE l.length x k = E at *
      generalize l ++ putB l.length x k = l7 at *
      go_wp2_with (first | (go_at_call 28; refine (wlen_some _ _ w7 HT7.out.wat.len).mono ?_; rintro e w' ⟨rfl, rfl⟩) | (go_at_call 29; refine (vlen_any _ _ _ w7 HT7.out.vat).mono ?_; rintro e w' ⟨rfl, rfl⟩))
      go_roundw
      case rel => exact ⟨j + 1, l7, _, _, by omega, by go_num, HT7.out⟩
      case measure => simp [intOf]; omega
    · obtain rfl : j = L := by omega
      go_wp2_with fail
      refine (wbytes_any w.heap.size l v wr HT.out.wat (by have := HT.out.len; omega)).mono ?_
      rintro e w5 ⟨v5, rfl, r5, u5', n5⟩
      have B5 := Lib.hid r5.bytes; have T5 := Lib.hid (HT.out.later u5')
      clear r5 u5' n5
      go_wp2_with fail
      refine (vbytes_any q l u w5 T5.out.vat T5.out.len).mono ?_
      rintro e w6 ⟨v6, rfl, r6, u6, n6⟩
      have B6 := Lib.hid r6.bytes; have B56 := Lib.hid (bytes_later B5.out u6); have U6 := Lib.hid (T5.out.upd.then u6)
      clear r6 u6 n6
      go_wp2_with fail
      refine (same_any v5 v6 (pack l) (pack l) w6 B56.out B6.out (by rw [pack_length]; have := HT.out.len; omega)).mono ?_
      rintro e w7 ⟨rfl, n7, rfl⟩
      rw [sameB_self]
      go_wp2_with fail
      refine (Put_nil 0 0 _).mono ?_
      rintro e w8 ⟨rfl, rfl⟩
      go_wp2_with fail
      refine (kawake_any _).mono ?_
      rintro e w8 ⟨rfl, u8⟩
      have U8 := Lib.hid ((upd_drewN U6.out n7).then u8)
      clear u8
      go_wp2_with fail
      go_ret
      exact ⟨rfl, U8.out⟩
end Go.Proofs.Ytmdladcfckoglaa
