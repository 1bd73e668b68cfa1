/- the reference's writer: its numbers -/
import Derived.Test.YtjnbnhnkjhnbkaaVW
namespace Go.Proofs.Ytjnbnhnkjhnbkaa
open Go.RowKit Go.Shelf

def numF (x : Int) (n : Nat) (i : Nat) : Nat := (x / 2 ^ (n - 1 - i) % 2).toNat
theorem numBits_map (x : Int) (n : Nat) : numBits x n = (List.range n).map (numF x n) := rfl
theorem numBits_01 (x : Int) (n : Nat) : ∀ y ∈ numBits x n, y ≤ 1 := fun y hy => by
  rw [numBits_map] at hy
  obtain ⟨i, _, rfl⟩ := List.mem_map.1 hy
  unfold numF; omega
theorem vnumBits_zero (n : Nat) : numBits 0 n = List.replicate n 0 := by
  refine List.ext_getElem (by simp [numBits_length]) fun i h1 h2 => ?_
  simp [numBits_map, numF]
theorem numBits_wrap (x : Int) (n : Nat) : numBits (x + 2 ^ n) n = numBits x n := by
  rw [numBits_map, numBits_map]
  refine List.map_congr_left fun i hi => ?_
  have hi := List.mem_range.1 hi
  unfold numF
  congr 1
  obtain ⟨d, hd⟩ : ∃ d, n = (n - 1 - i) + 1 + d := ⟨n - (n - 1 - i) - 1, by omega⟩
  generalize hj : n - 1 - i = j at hd ⊢
  have e : (2 : Int) ^ n = 2 ^ j * (2 * 2 ^ d) := by rw [hd, Int.pow_add, Int.pow_succ, Int.mul_assoc]
  have hp : (2 : Int) ^ j ≠ 0 := Int.ne_of_gt (Int.pow_pos (by decide))
  rw [e, Int.add_mul_ediv_left _ _ hp]
  generalize (2 : Int) ^ d = y
  omega

set_option maxRecDepth 100000 in
set_option maxHeartbeats 1000000 in
theorem qnumber_any (x : Int) (n : Nat) (w : World) (hn : n ≤ 40) (hx0 : -9223372036854775808 ≤ x) (hx1 : x ≤ 9223372036854775807) :
    Calls Try.prog 102 #[.int .i64 x, .int .i64 n] w fun e w' => ∃ g c, e = .returned (.slice (some ⟨g, 0, none⟩) n c) ∧ Row8 w' (.slice (some ⟨g, 0, none⟩) n c) (numBits x n) ∧ Upd NoB w w' ∧ w.heap.size ≤ g := by
  obtain ⟨i0, hi, hz0, hz1, hz2⟩ := info_parts Try.info5
  go_enter Try.func102, Try.ntmps102
  go_wp2_with (refine wpList_make_full _ rfl _ _ 32 rfl 0 5 i0 (.int .u8 0) 1 Try.underlying32 hi hz0 hz1 .i64 .i64 _ _ n rfl rfl rfl rfl ?c1 ?c2 ?c3 ?_)
  case c1 => rw [hz2]; omega
  case c2 => unfold maxLen; omega
  case c3 => omega
  intro w1 hown hgr
  have hown : w1.ownsRow 0 5 1 (.slice (some ⟨w.heap.size, 0, none⟩) n n) n (u8s (fillTo (numF x n) n 0)) := by
    rw [fillTo_zero]
    have e := toList_madeCells_one (.int .u8 0) n
    rw [← e]
    simpa using hown
  have hu1 : Upd NoB w w1 := (Upd.refl _ _).grown hgr (fun k e => by cases e)
  have Hown := Lib.hid hown; clear hown
  clear hgr
  go_wp2
  obtain ⟨g, hg⟩ : ∃ g, g = w.heap.size := ⟨_, rfl⟩
  rw [← hg] at Hown ⊢
  have hg1 : w.heap.size ≤ g := by omega
  have Hg := Lib.hid hg; clear hg
  clear hown
  go_loopw [10] (fun i wr => ∃ k : Nat, k ≤ n ∧ i = .int .i64 k ∧ wr.ownsRow 0 5 1 (.slice (some ⟨g, 0, none⟩) n n) n (u8s (fillTo (numF x n) n k)) ∧ Upd NoB w wr) (fun i _ => n - (intOf i).toNat)
  case atStart => exact ⟨0, Nat.zero_le _, rfl, Hown.out, hu1⟩
  case round =>
    obtain ⟨k, hk, rfl, ho, hu⟩ := hrel
    by_cases hlt : k < n
    · have hgk : wr.cell? ⟨g, k, none⟩ = some (.int .u8 (fillTo (numF x n) n k)[k]! ) := by
        rw [ho.cellAt k (by omega), u8s_get, if_pos (by rw [fillTo_length]; exact hlt)]
        simp [List.getD_eq_getElem?_getD, fillTo_length, hlt]
      have hgf := ho.frozenAt k
      have hst := ho.stored k (.int .u8 (numF x n k : Nat))
      rw [fillTo_succ _ hlt] at hst
      obtain ⟨m, hm⟩ : ∃ m : Nat, m = n - 1 - k := ⟨_, rfl⟩
      have em : (n : Int) - 1 - k = (m : Int) := by omega
      obtain ⟨y, hy⟩ : ∃ y : Nat, y = numF x n k := ⟨_, rfl⟩
      have hbit : Go.bits .and .i64 (x / 2 ^ m) 1 = (y : Int) := by rw [i64_and1, hy]; unfold numF; rw [← hm]; omega
      have hy1 : y ≤ 1 := by rw [hy]; unfold numF; omega
      rw [← hy] at hst
      have hm1 : m < 64 := by omega
      have k1 : IntKind.i64.wrap ((n : Int) - 1) = (n : Int) - 1 := IntWalk.i64_in _ (by omega)
      have Hst := Lib.hid hst; clear hst
      have Ho := Lib.hid ho; clear ho
      have Hy := Lib.hid hy; clear hy
      have Hm := Lib.hid hm; clear hm
      clear k1
      go_wp2
      go_roundw
      case rel => exact ⟨k + 1, by omega, by go_num, Hst.out.1, hu.setCell _ (fun h => by exfalso; have h : g < w.heap.size := h; omega)⟩
      case measure => simp [intOf]; omega
    · obtain rfl : k = n := by omega
      rw [fillTo_all, ← numBits_map] at ho
      have Ho := Lib.hid ho; clear ho
      go_wp2
      go_ret
      refine ⟨g, k, rfl, ⟨?_, fun j => ?_⟩, hu, hg1⟩
      · rw [numBits_length]; exact Ho.out
      · exact getD_255 (numBits_01 _ _) j

def unF (n : Nat) (i : Nat) : Nat := if i = n then 1 else 0
theorem unary_bits (n : Nat) : numBits 0 n ++ numBits 1 1 = (List.range (n + 1)).map (unF n) := by
  rw [List.range_succ, List.map_append, vnumBits_zero]
  congr 1
  · refine List.ext_getElem (by simp) fun i h1 h2 => ?_
    have : i ≠ n := by simp at h1; omega
    simp [unF, this]
  · simp [unF]; decide
set_option maxRecDepth 100000 in
set_option maxHeartbeats 1000000 in
theorem qun_any (n : Nat) (w : World) (hn : n ≤ 1000) :
    Calls Try.prog 110 #[.int .i64 n] w fun e w' => ∃ g c, e = .returned (.slice (some ⟨g, 0, none⟩) (n + 1) c) ∧ Row8 w' (.slice (some ⟨g, 0, none⟩) (n + 1) c) (numBits 0 n ++ numBits 1 1) ∧ Upd NoB w w' ∧ w.heap.size ≤ g := by
  obtain ⟨i0, hi, hz0, hz1, hz2⟩ := info_parts Try.info5
  go_enter Try.func110, Try.ntmps110
  go_wp2_with (refine wpList_make_full _ rfl _ _ 32 rfl 0 5 i0 (.int .u8 0) 1 Try.underlying32 hi hz0 hz1 .i64 .i64 _ _ (n + 1) rfl rfl rfl rfl ?c1 ?c2 ?c3 ?_)
  case c1 => rw [hz2]; omega
  case c2 => unfold maxLen; omega
  case c3 => omega
  intro w1 hown hgr
  have hown : w1.ownsRow 0 5 1 (.slice (some ⟨w.heap.size, 0, none⟩) (n + 1) (n + 1)) (n + 1) (u8s (fillTo (fun _ => 0) (n + 1) 0)) := by
    rw [fillTo_zero]
    have e := toList_madeCells_one (.int .u8 0) (n + 1)
    rw [← e]
    simpa using hown
  have hu1 : Upd NoB w w1 := (Upd.refl _ _).grown hgr (fun k e => by cases e)
  have hgk : w1.cell? ⟨w.heap.size, n, none⟩ = some (.int .u8 0) := by
    rw [hown.cellAt n (by omega), u8s_get, if_pos (by rw [fillTo_length]; omega)]
    simp [List.getD_eq_getElem?_getD, fillTo]
  have hgf := hown.frozenAt n
  have hst := hown.stored n (.int .u8 (1 : Nat))
  have hl : (u8s (fillTo (fun _ => 0) (n + 1) 0)).set n (.int .u8 (1 : Nat)) = u8s ((List.range (n + 1)).map (unF n)) := by
    refine List.ext_getElem (by simp [u8s, fillTo]) fun j h1 h2 => ?_
    rw [List.getElem_set]
    simp only [u8s, fillTo, List.getElem_map, List.getElem_range, unF]
    by_cases hj : n = j
    · subst hj; simp
    · have hj2 : ¬ j = n := fun e => hj e.symm
      simp [hj, hj2]
  rw [hl, ← unary_bits] at hst
  obtain ⟨g, hg⟩ : ∃ g, g = w.heap.size := ⟨_, rfl⟩
  rw [← hg] at hst hgk hgf ⊢
  have Hst := Lib.hid hst; have Hg := Lib.hid hg
  clear hown hgr hst hl hg
  go_wp2
  go_ret
  refine ⟨g, n + 1, rfl, ⟨?_, fun j => ?_⟩, hu1.setCell _ (fun h => by exfalso; have h : g < w.heap.size := h; have := Hg.out; omega), by have := Hg.out; omega⟩
  · rw [List.length_append, numBits_length, numBits_length]; exact Hst.out.1
  · exact getD_255 (fun y hy => (List.mem_append.1 hy).elim (numBits_01 _ _ y) (numBits_01 _ _ y)) j
set_option maxRecDepth 100000 in
set_option maxHeartbeats 1000000 in
theorem of_any_at (sv : Value) (zs : List Nat) (n : Nat) (w : World) (h : Bytes w sv zs) (hn : n ≤ 8 * zs.length) (hl : zs.length ≤ 1099511627776) :
    Calls Try.prog 67 #[sv, .int .i64 n] w fun e w' => ∃ g c, e = .returned (.slice (some ⟨g, 0, none⟩) n c) ∧ Row8 w' (.slice (some ⟨g, 0, none⟩) n c) (bitsOf zs 0 n) ∧ Upd NoB w w' ∧ w.heap.size ≤ g := by
  obtain ⟨i0, hi, hz0, hz1, hz2⟩ := info_parts Try.info5
  obtain ⟨a, cap, rfl⟩ : ∃ a cap, sv = .slice a zs.length cap := by obtain ⟨_, a, cap, rfl, _⟩ := h; exact ⟨a, cap, rfl⟩
  have hlt : ∀ k, zs ≠ [] ∧ (Value.slice a zs.length cap).ownBlock = some k → k < w.heap.size := fun k hk => by obtain ⟨c, t, fr, hc⟩ := h.lt hk.1 k hk.2; exact lt_of_block hc
  have H := Lib.hid h; clear h
  have Hlt := Lib.hid hlt; clear hlt
  go_enter Try.func67, Try.ntmps67
  go_wp2_with (refine wpList_make_full _ rfl _ _ 32 rfl 0 5 i0 (.int .u8 0) 1 Try.underlying32 hi hz0 hz1 .i64 .i64 _ _ n rfl rfl rfl rfl ?c1 ?c2 ?c3 ?_)
  case c1 => rw [hz2]; omega
  case c2 => unfold maxLen; omega
  case c3 => omega
  intro w1 hown hgr
  have hown : w1.ownsRow 0 5 1 (.slice (some ⟨w.heap.size, 0, none⟩) n n) n (u8s (fillTo (bitOf zs) n 0)) := by
    rw [fillTo_zero]
    have e := toList_madeCells_one (.int .u8 0) n
    rw [← e]
    simpa using hown
  have hu1 : Upd NoB w w1 := (Upd.refl _ _).grown hgr (fun k e => by cases e)
  have Hown := Lib.hid hown; clear hown
  clear hgr
  go_wp2
  obtain ⟨g, hg⟩ : ∃ g, g = w.heap.size := ⟨_, rfl⟩
  rw [← hg] at Hown ⊢
  have hg1 : w.heap.size ≤ g := by omega
  have Hg := Lib.hid hg; clear hg
  clear hown
  go_loopw [10] (fun i wr => ∃ k : Nat, k ≤ n ∧ i = .int .i64 k ∧ wr.ownsRow 0 5 1 (.slice (some ⟨g, 0, none⟩) n n) n (u8s (fillTo (bitOf zs) n k)) ∧ Upd NoB w wr) (fun i _ => n - (intOf i).toNat)
  case atStart => exact ⟨0, Nat.zero_le _, rfl, Hown.out, hu1⟩
  case round =>
    obtain ⟨k, hk, rfl, ho, hu⟩ := hrel
    by_cases hlt : k < n
    · have hgk : wr.cell? ⟨g, k, none⟩ = some (.int .u8 (fillTo (bitOf zs) n k)[k]! ) := by
        rw [ho.cellAt k (by omega), u8s_get, if_pos (by rw [fillTo_length]; exact hlt)]
        simp [List.getD_eq_getElem?_getD, fillTo_length, hlt]
      have hgf := ho.frozenAt k
      have hst := ho.stored k (.int .u8 (bitOf zs k : Nat))
      rw [fillTo_succ _ hlt] at hst
      have hB := H.out.keep (D := fun k => zs ≠ [] ∧ (Value.slice a zs.length cap).ownBlock = some k) (hu.keepD (fun k hk => ⟨Hlt.out k hk, noB k⟩)) (fun hz k hk => ⟨hz, hk⟩)
      obtain ⟨h255, a', cap', he, _, hz⟩ := hB
      cases he
      have hz' : zs ≠ [] := by rintro rfl; simp at hn; omega
      rcases hz with hz | ⟨b, off, rfl, hz⟩
      · exact absurd hz hz'
      have hzj := hz (k / 8) (by omega)
      have hz1 := h255 (k / 8)
      have hx : bitOf zs k = zs.getD (k / 8) 0 / 2 ^ (7 - k % 8) % 2 := rfl
      have hkz : k / 8 < zs.length := by omega
      have hx1 := bitOf_le zs k
      generalize zs.getD (k / 8) 0 = z at *
      generalize bitOf zs k = x at *
      have hbit : Go.bits .and .u8 ((z : Int) / 2 ^ (7 - k % 8)) 1 = (x : Int) := and_one hz1 hx
      have Hst := Lib.hid hst; clear hst
      have Ho := Lib.hid ho; clear ho
      have Hx := Lib.hid hx; clear hx
      clear hz h255
      go_wp2
      go_roundw
      case rel => exact ⟨k + 1, by omega, by go_num, Hst.out.1, hu.setCell _ (fun h => by exfalso; have h : g < w.heap.size := h; omega)⟩
      case measure => simp [intOf]; omega
    · obtain rfl : k = n := by omega
      rw [fillTo_all, ← bitsOf_zero] at ho
      have Ho := Lib.hid ho; clear ho
      go_wp2
      go_ret
      refine ⟨g, k, rfl, ⟨?_, fun j => ?_⟩, hu, hg1⟩
      · rw [bitsOf_length]; exact Ho.out
      · exact getD_255 (bitsOf_01 _ _ _) j
end Go.Proofs.Ytjnbnhnkjhnbkaa
