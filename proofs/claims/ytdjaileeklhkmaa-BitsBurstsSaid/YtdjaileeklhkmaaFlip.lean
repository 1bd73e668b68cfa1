/- flipped: bytes in which bits are others -/
import Derived.Test.YtdjaileeklhkmaaOwn
import Derived.Test.YtdjaileeklhkmaaBurstM
import Derived.StillTailTactics
namespace Go.Proofs.Ytdjaileeklhkmaa
open Go.RowKit Go.Shelf

/-- The bit at a place, each byte from its highest bit on, or from its lowest one (low). -/
def posOf (low : Bool) (k : Nat) : Nat := if low then k % 8 else 7 - k % 8
def bitAt (low : Bool) (zs : List Nat) (k : Nat) : Nat := zs.getD (k / 8) 0 / 2 ^ posOf low k % 2
theorem posOf_le (low : Bool) (k : Nat) : posOf low k ≤ 7 := by unfold posOf; split <;> omega
theorem posOf_inj {low : Bool} {j k : Nat} (h1 : j / 8 = k / 8) (h2 : posOf low j = posOf low k) : j = k := by
  unfold posOf at h2
  split at h2 <;> omega
theorem bit_xor (z a c : Nat) (h : a ≠ c) : (z ^^^ 2 ^ a) / 2 ^ c % 2 = z / 2 ^ c % 2 := by
  have h1 : (z ^^^ 2 ^ a).testBit c = z.testBit c := by rw [Nat.testBit_xor, Nat.testBit_two_pow_of_ne h, Bool.xor_false]
  have h2 : ∀ y : Nat, y / 2 ^ c % 2 = (y.testBit c).toNat := fun y => by rw [Nat.toNat_testBit]
  rw [h2, h2, h1]
theorem flip_bit {low : Bool} {zs : List Nat} {j k : Nat} (hj : j / 8 < zs.length) (h : j ≠ k) : bitAt low (zs.set (j / 8) (zs.getD (j / 8) 0 ^^^ 2 ^ posOf low j)) k = bitAt low zs k := by
  unfold bitAt
  by_cases e : j / 8 = k / 8
  · have hp : posOf low j ≠ posOf low k := fun e2 => h (posOf_inj e e2)
    have hk : k / 8 < zs.length := by omega
    simp only [List.getD_eq_getElem?_getD, e, List.getElem?_set_self hk, Option.getD_some]
    exact bit_xor _ _ _ hp
  · simp only [List.getD_eq_getElem?_getD, List.getElem?_set_ne e]
theorem flip_le {z a : Nat} (hz : z ≤ 255) (ha : a ≤ 7) : z ^^^ 2 ^ a ≤ 255 := by
  have h1 : 2 ^ a < 2 ^ 8 := Nat.pow_lt_pow_right (by decide) (by omega)
  have := Nat.xor_lt_two_pow (n := 8) (show z < 2 ^ 8 by omega) h1
  omega
theorem u8_xor_nat (a b : Nat) (ha : a ≤ 255) (hb : b ≤ 255) : Go.bits .xor .u8 (a : Int) (b : Int) = ((a ^^^ b : Nat) : Int) := by
  have hx : a ^^^ b < 2 ^ 8 := Nat.xor_lt_two_pow (by omega) (by omega)
  have key : (BitVec.ofInt 8 (a : Int) ^^^ BitVec.ofInt 8 (b : Int)).toNat = a ^^^ b := by
    rw [BitVec.toNat_xor, BitVec.ofInt_natCast, BitVec.ofInt_natCast, BitVec.toNat_ofNat, BitVec.toNat_ofNat, Nat.mod_eq_of_lt (by omega), Nat.mod_eq_of_lt (by omega)]
  show IntKind.u8.wrap ((BitVec.ofInt 8 (a : Int) ^^^ BitVec.ofInt 8 (b : Int)).toNat : Nat) = _
  rw [key]
  show ((a ^^^ b : Nat) : Int) % 256 = _
  omega
theorem pat_high {j : Nat} (h : j % 8 ≤ 7) : (128 : Int) / 2 ^ (j % 8) = ((2 ^ posOf false j : Nat) : Int) := by
  unfold posOf
  generalize j % 8 = r at *
  match r, h with
  | 0, _ | 1, _ | 2, _ | 3, _ | 4, _ | 5, _ | 6, _ | 7, _ => rfl
theorem pat_low {j : Nat} (h : j % 8 ≤ 7) : (2 : Int) ^ (j % 8) % 256 = ((2 ^ posOf true j : Nat) : Int) := by
  unfold posOf
  generalize j % 8 = r at *
  match r, h with
  | 0, _ | 1, _ | 2, _ | 3, _ | 4, _ | 5, _ | 6, _ | 7, _ => rfl
theorem pat_le (low : Bool) (j : Nat) : 2 ^ posOf low j ≤ 255 := by
  have := Nat.pow_le_pow_right (n := 2) (by decide) (posOf_le low j)
  have e : 2 ^ 7 = 128 := rfl
  omega
theorem u32_and1' {r k : Nat} (hr : r < 4294967296) : Go.bits .and .u32 ((r : Int) / 2 ^ k) 1 = ((r / 2 ^ k % 2 : Nat) : Int) := by
  have e : ((r : Int) / 2 ^ k) = ((r / 2 ^ k : Nat) : Int) := by simp
  rw [e]
  exact u32_and1 (Nat.lt_of_le_of_lt (Nat.div_le_self _ _) hr)
set_option maxRecDepth 100000 in
set_option maxHeartbeats 4000000 in
theorem flipped_any (a : Option Addr) (cap : Nat) (zs : List Nat) (p m M : Nat) (low : Bool) (w : World) (h : Bytes w (.slice a zs.length cap) zs) (hz0 : zs ≠ []) (hz : zs.length ≤ 3000) (hp : p < 8 * zs.length) (hM : M < 4294967296) (hm : M < 2 ^ m) :
    Calls Try.prog 43 #[.slice a zs.length cap, .int .i64 p, .int .u32 M, .bool low] w fun e w' => ∃ v ys, e = .returned v ∧ Row8 w' v ys ∧ Upd NoB w w' ∧ ys.length = zs.length ∧ ∀ k, k < p ∨ p + m ≤ k → bitAt low ys k = bitAt low zs k := by
  obtain ⟨Z, hZ⟩ : ∃ Z, Z = zs.length := ⟨_, rfl⟩
  have hnone : ∀ n c, Value.slice a zs.length cap = .slice none n c → c = 0 := fun n c e => by
    exfalso
    injection e with e1 e2 e3
    obtain ⟨_, a', cap', he, _, hc⟩ := h
    injection he with f1 f2 f3
    rcases hc with hc | ⟨b, off, hb, _⟩
    · exact hz0 hc
    · rw [← f1, e1] at hb; cases hb
  rw [← hZ] at h hz hp hnone ⊢
  have HB := Lib.hid h; have HZ := Lib.hid hZ; have Hnone := Lib.hid hnone; have Hm := Lib.hid hm; have HM := Lib.hid hM; have Hz0 := Lib.hid hz0
  clear h hZ hnone hm hM hz0
  go_enter Try.func43, Try.ntmps43
  go_wp2_with (at_builtin; refine wpList_copy rfl _ _ rfl _ zs rfl rfl HB.out (by rw [← HZ.out]; omega) Hnone.out ?_)
  intro ag w4 r4 n4 u4
  obtain ⟨g, gc, rfl⟩ : ∃ g gc, ag = .slice (some ⟨g, 0, none⟩) zs.length gc := row_slice r4.1 (List.length_pos_iff.2 Hz0.out)
  rw [← HZ.out] at r4 n4 ⊢
  have hg : w.heap.size ≤ g := n4 g rfl
  have R4 := Lib.hid r4; have U4 := Lib.hid u4; have Hg := Lib.hid hg
  clear r4 n4 u4 hg
  go_wp2_with fail
  go_loopw [15] (fun i wr => ∃ (k : Nat) (ys : List Nat), k ≤ 32 ∧ i = .int .i64 k ∧ Row8 wr (.slice (some ⟨g, 0, none⟩) Z gc) ys ∧ ys.length = Z ∧ Upd NoB w wr ∧ ∀ k, k < p ∨ p + m ≤ k → bitAt low ys k = bitAt low zs k) (fun i _ => 32 - (intOf i).toNat)
  case atStart => exact ⟨0, zs, Nat.zero_le _, rfl, by have := R4.out; exact this, HZ.out.symm, U4.out, fun _ _ => rfl⟩
  case round =>
    obtain ⟨k, ys, hk, rfl, hr, hyl, hu, hb⟩ := hrel
    have Hr := Lib.hid hr; have Hyl := Lib.hid hyl; have Hu := Lib.hid hu; have Hb := Lib.hid hb
    clear hr hyl hu hb R4 U4
    by_cases hlt : k < 32
    · obtain ⟨mb, hmb⟩ : ∃ mb, mb = M / 2 ^ k % 2 := ⟨_, rfl⟩
      have hand : Go.bits .and .u32 ((M : Int) / 2 ^ k) 1 = (mb : Int) := by rw [hmb]; exact u32_and1' HM.out
      have Hmb := Lib.hid hmb
      have hmb1 : mb ≤ 1 := by omega
      clear hmb
      by_cases h0 : mb = 0
      · have t1 : ((mb : Int) == 0) = true := by simp; omega
        clear h0
        go_wp2
        go_roundw
        case rel => exact ⟨k + 1, ys, by omega, by go_num, Hr.out, Hyl.out, Hu.out, Hb.out⟩
        case measure => simp [intOf]; omega
      · have t1 : ((mb : Int) == 0) = false := by simp; omega
        clear h0
        obtain ⟨j, hj⟩ : ∃ j, j = p + k := ⟨_, rfl⟩
        have Hj := Lib.hid hj
        have k1 : IntKind.i64.wrap ((p : Int) + (k : Int)) = (j : Int) := by rw [IntWalk.i64_in _ (by omega)]; omega
        have hjb : j < 24040 := by omega
        clear hj
        by_cases hbig : 8 * Z ≤ j
        · have t2 : decide (8 * (Z : Int) ≤ (j : Int)) = true := decide_eq_true (by omega)
          go_wp2
          go_roundw
          case rel => exact ⟨k + 1, ys, by omega, by go_num, Hr.out, Hyl.out, Hu.out, Hb.out⟩
          case measure => simp [intOf]; omega
        · have t2 : decide (8 * (Z : Int) ≤ (j : Int)) = false := decide_eq_false (by omega)
          have q0 : ((j : Int) / 8).toNat = j / 8 := by omega
          have hjz : (j : Int) / 8 < (Z : Int) := by omega
          have hj0 : 0 ≤ (j : Int) / 8 := by omega
          have q1 : ((j : Int) % 8).toNat = j % 8 := by omega
          have k2 : (j : Int).tmod 8 = (j : Int) % 8 := Int.tmod_eq_emod_of_nonneg (by omega)
          have k3 : IntKind.i64.wrap ((j : Int) / 8) = (j : Int) / 8 := IntWalk.i64_in _ (by omega)
          have hs0 : 0 ≤ (j : Int) % 8 := by omega
          have hs1 : (j : Int) % 8 < 64 := by omega
          obtain ⟨o, ho⟩ : ∃ o, o = ys.getD (j / 8) 0 := ⟨_, rfl⟩
          have ho255 : o ≤ 255 := by rw [ho]; exact Hr.out.2 _
          have hjy : j / 8 < ys.length := by have := Hyl.out; omega
          have hrow : wr.ownsRow 0 5 1 (.slice (some ⟨g, 0, none⟩) Z gc) Z (u8s ys) := by have := Hr.out.1; rw [Hyl.out] at this; exact this
          have hcell : wr.cell? ⟨g, j / 8, none⟩ = some (.int .u8 o) := by
            rw [hrow.cellAt (j / 8) (by omega), u8s_get, if_pos hjy, ho]
          have hfr : wr.frozen? ⟨g, j / 8, none⟩ = false := hrow.frozenAt (j / 8)
          have hkm : k < m := by
            rcases Nat.lt_or_ge k m with h | h
            · exact h
            · exfalso
              have h1 := Nat.pow_le_pow_right (n := 2) (by decide) h
              have h2 : M / 2 ^ k = 0 := Nat.div_eq_of_lt (by have := Hm.out; omega)
              have h3 := Hmb.out
              rw [h2] at h3
              simp at t1; omega
          have hend : ∀ X : Int, X = ((o ^^^ 2 ^ posOf low j : Nat) : Int) → ∃ ys', Row8 (wr.setCell ⟨g, j / 8, none⟩ (.int .u8 X)).drew (.slice (some ⟨g, 0, none⟩) Z gc) ys' ∧ ys'.length = Z ∧ Upd NoB w (wr.setCell ⟨g, j / 8, none⟩ (.int .u8 X)).drew ∧ ∀ k, k < p ∨ p + m ≤ k → bitAt low ys' k = bitAt low zs k := by
            rintro X rfl
            have hst := (hrow.stored (j / 8) (.int .u8 ((o ^^^ 2 ^ posOf low j : Nat) : Int))).1
            have eset : (u8s ys).set (j / 8) (.int .u8 ((o ^^^ 2 ^ posOf low j : Nat) : Int)) = u8s (ys.set (j / 8) (o ^^^ 2 ^ posOf low j)) := by simp [u8s, List.map_set]
            rw [eset] at hst
            have hle := flip_le ho255 (posOf_le low j)
            refine ⟨ys.set (j / 8) (o ^^^ 2 ^ posOf low j), ⟨?_, fun i => ?_⟩, by rw [List.length_set]; exact Hyl.out, (Hu.out.setCell _ (fun h => by exfalso; have h : g < w.heap.size := h; have := Hg.out; omega)).drew, fun k2 hk2 => ?_⟩
            · rw [List.length_set, Hyl.out]; exact hst
            · refine all255 (fun x hx => ?_) i
              rcases List.mem_or_eq_of_mem_set hx with h | h
              · obtain ⟨i2, hi2⟩ := List.getElem?_of_mem h
                have := Hr.out.2 i2
                rw [List.getD_eq_getElem?_getD, hi2] at this; exact this
              · rw [h]; exact hle
            · rw [ho, flip_bit hjy (by have := Hj.out; omega)]
              exact Hb.out k2 hk2
          have Hend := Lib.hid hend
          have hp7 : j % 8 ≤ 7 := by omega
          clear hrow hkm hend
          have Ho := Lib.hid ho; have Hjy := Lib.hid hjy
          clear ho hjy
          cases low
          · go_wp2
            refine wp_region_still_tail 10 (by kernel_rfl) (by kernel_rfl) ?_
            simp only [List.take_succ_cons, List.take_zero, List.drop_succ_cons, List.drop_zero]
            repeat still_step
            refine wpStill_nil ?_
            change wpList _ _ _ _ _ wr.drew
            go_wp2
            obtain ⟨ys', e1, e2, e3, e4⟩ := Hend.out (Go.bits .xor .u8 (o : Int) (128 / 2 ^ (j % 8))) (by rw [pat_high hp7]; exact u8_xor_nat o _ ho255 (pat_le _ _))
            exact ⟨⟨k + 1, ys', by omega, by go_num, e1, e2, e3, e4⟩, by simp [intOf]; omega⟩
          · go_wp2
            refine wp_region_still_tail 10 (by kernel_rfl) (by kernel_rfl) ?_
            simp only [List.take_succ_cons, List.take_zero, List.drop_succ_cons, List.drop_zero]
            repeat still_step
            refine wpStill_nil ?_
            change wpList _ _ _ _ _ wr.drew
            go_wp2
            obtain ⟨ys', e1, e2, e3, e4⟩ := Hend.out (Go.bits .xor .u8 (o : Int) (2 ^ (j % 8) % 256)) (by rw [pat_low hp7]; exact u8_xor_nat o _ ho255 (pat_le _ _))
            exact ⟨⟨k + 1, ys', by omega, by go_num, e1, e2, e3, e4⟩, by simp [intOf]; omega⟩
    · obtain rfl : k = 32 := by omega
      go_wp2
      go_ret
      exact ⟨_, ys, rfl, Hr.out, Hu.out, Hyl.out, Hb.out⟩
end Go.Proofs.Ytdjaileeklhkmaa
