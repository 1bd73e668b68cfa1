/- the writer: numbers of several bits, fields -/
import Derived.Test.YtjnbnhnkjhnbkaaIter
namespace Go.Proofs.Ytjnbnhnkjhnbkaa
open Go.RowKit Go.Shelf

theorem i64_and1 (n : Int) : Go.bits .and .i64 n 1 = n % 2 := by
  have h1 : (BitVec.ofInt 64 1).toNat = 2 ^ 1 - 1 := by decide
  have key : (BitVec.ofInt 64 n &&& BitVec.ofInt 64 1).toNat = (n % ((2 ^ 64 : Nat) : Int)).toNat % 2 ^ 1 := by
    rw [BitVec.toNat_and, BitVec.toNat_ofInt, h1, Nat.and_two_pow_sub_one_eq_mod]
  show IntKind.i64.wrap ((BitVec.ofInt 64 n &&& BitVec.ofInt 64 1).toNat : Nat) = n % 2
  rw [key, IntKind.wrap_i64]
  omega

theorem ediv_neg_one {x d : Int} (h1 : x < 0) (h2 : -d ≤ x) : x / d = -1 := by
  have hd : 0 < d := by omega
  have h3 := Int.ediv_mul_le x (show d ≠ 0 by omega)
  have h4 := Int.lt_ediv_add_one_mul_self x hd
  have h5 : x / d < 0 := Int.ediv_neg_of_neg_of_pos h1 hd
  have h6 : -1 ≤ x / d := by
    rcases Int.lt_or_le (x / d) (-1) with h | h
    · have : (x / d + 1) * d ≤ (-1) * d := Int.mul_le_mul_of_nonneg_right (by omega) (by omega)
      omega
    · exact h
  omega
theorem shr_min {x : Int} (m : Nat) (h0 : -9223372036854775808 ≤ x) (h1 : x ≤ 9223372036854775807) : x / 2 ^ min m 64 = x / 2 ^ m := by
  rcases Nat.lt_or_ge 64 m with h | h
  · have e : min m 64 = 64 := by omega
    rw [e]
    have hp : (2 : Int) ^ 64 ≤ 2 ^ m := by
      have := Nat.pow_le_pow_right (n := 2) (by decide) (show 64 ≤ m by omega)
      exact_mod_cast this
    have hp' : (2 : Int) ^ 64 = 18446744073709551616 := by decide
    rw [hp'] at hp ⊢
    rcases Int.lt_or_le x 0 with hx | hx
    · rw [ediv_neg_one hx (by omega), ediv_neg_one hx (by omega)]
    · rw [Int.ediv_eq_zero_of_lt hx (by omega), Int.ediv_eq_zero_of_lt hx (by omega)]
  · rw [show min m 64 = m by omega]

/-- The first k of the n bits of v, from the highest one on. -/
def numTo (v : Int) (n k : Nat) : List Nat := (List.range k).map fun i => (v / 2 ^ (n - 1 - i) % 2).toNat
def numBits (v : Int) (n : Nat) : List Nat := numTo v n n
theorem numTo_succ (v : Int) (n k : Nat) : numTo v n (k + 1) = numTo v n k ++ [(v / 2 ^ (n - 1 - k) % 2).toNat] := by simp [numTo, List.range_succ]
theorem numTo_length (v : Int) (n k : Nat) : (numTo v n k).length = k := by simp [numTo]
theorem numBits_length (v : Int) (n : Nat) : (numBits v n).length = n := by simp [numBits, numTo]

/-- What a call of the writer at b leaves. -/
def WPost (b : Nat) (v0 : Value) (w : World) (l : List Nat) (w' : World) : Prop := ∃ v, WAt w' b l v ∧ Upd (wfoot b v0) w w' ∧ newOr w v0 v
theorem WPost.next {b : Nat} {v0 v1 : Value} {w w1 w2 : World} {l : List Nat} (u : Upd (wfoot b v0) w w1) (n1 : newOr w v0 v1) (h : WPost b v1 w1 l w2) : WPost b v0 w l w2 := by
  obtain ⟨v, ha, hu, hn⟩ := h
  refine ⟨v, ha, u.trans hu ?_, n1.trans hn u.size⟩
  rintro i hi (rfl | hi')
  · exact .inl rfl
  · rcases n1 i hi' with h | h
    · exact .inr h
    · omega

theorem room_any (b : Nat) (n : Nat) (w : World) (h : w.cell? ⟨b, 1, none⟩ = some (.int .i64 n)) (hn : n ≤ 1099511627776) :
    Calls Try.prog 62 #[.pointer (some ⟨b, 0, none⟩)] w fun e w' => e = .returned (.int .i64 (1048576 - (n : Int))) ∧ w = w' := by
  go_enter Try.func62, Try.ntmps62
  go_wp2
  go_ret
  exact ⟨rfl, rfl⟩

theorem wlen_some (b : Nat) (n : Int) (w : World) (h : w.cell? ⟨b, 1, none⟩ = some (.int .i64 n)) :
    Calls Try.prog 28 #[.pointer (some ⟨b, 0, none⟩)] w fun e w' => e = .returned (.int .i64 n) ∧ w = w' := by
  go_enter Try.func28, Try.ntmps28
  go_wp2
  go_ret
  exact ⟨rfl, rfl⟩
theorem wlen_nil (w : World) :
    Calls Try.prog 28 #[.pointer none] w fun e w' => e = .returned (.int .i64 0) ∧ w = w' := by
  go_enter Try.func28, Try.ntmps28
  go_wp2
  go_ret
  exact ⟨rfl, rfl⟩

set_option maxRecDepth 100000 in
set_option maxHeartbeats 1000000 in
theorem number_any (b : Nat) (l : List Nat) (v : Value) (x : Int) (n : Nat) (w : World) (h : WAt w b l v) (hl : l.length + n < 1099511627776) (hn : n ≤ 2000) (hx0 : -9223372036854775808 ≤ x) (hx1 : x ≤ 9223372036854775807) :
    Calls Try.prog 109 #[.pointer (some ⟨b, 0, none⟩), .agg #[.int .i64 x, .int .i64 n]] w fun e w' => e = .returned (.tuple #[]) ∧ WPost b v w (l ++ numBits x n) w' := by
  have hbs := lt_of_block h.1
  obtain ⟨w1, hw1⟩ : ∃ w1, w1 = w.alloc (.cells #[.int .i64 x, .int .i64 n] 113) := ⟨_, rfl⟩
  have b1 : w1.heap[w.heap.size]? = some (.cells #[.int .i64 x, .int .i64 n] 113 (0, 0)) := by rw [hw1]; exact heap_alloc_new w _
  have u1 : Upd (wfoot b v) w w1 := by rw [hw1]; exact (Upd.refl _ _).alloc _
  have a1 : WAt w1 b l v := by
    rw [hw1]; exact h.upd ((Upd.refl NoB _).alloc _) (fun _ _ h => h)
  have hne : b ≠ w.heap.size := by omega
  have hrow : ∀ k, v.ownBlock = some k → k < w.heap.size := fun k hk => (h.2.1.lt k hk).2
  have c0 : w1.cell? ⟨w.heap.size, 0, none⟩ = some (.int .i64 x) := by simp [World.cell?, b1]
  have c1 : w1.cell? ⟨w.heap.size, 1, none⟩ = some (.int .i64 n) := by simp [World.cell?, b1]
  go_enter Try.func109, Try.ntmps109
  go_wp2_with fail
  rw [← hw1]
  have Hw1 := Lib.hid hw1; clear hw1
  have B1 := Lib.hid b1; clear b1
  have A1 := Lib.hid a1; clear a1
  have Hne := Lib.hid hne; clear hne
  clear h
  go_loopw [4] (fun i wr => ∃ (k : Nat) (vk : Value), k ≤ n ∧ i = .int .i64 ((n : Int) - 1 - k) ∧ WAt wr b (l ++ numTo x n k) vk ∧ Upd (wfoot b v) w wr ∧ newOr w v vk ∧ wr.heap[w.heap.size]? = some (.cells #[.int .i64 x, .int .i64 n] 113 (0, 0)))
    (fun i _ => (intOf i + 1).toNat)
  case atStart => exact ⟨0, v, Nat.zero_le _, by go_num, by simpa [numTo] using A1.out, u1, newOr.refl _ _, B1.out⟩
  case round =>
    obtain ⟨k, vk, hk, rfl, ha, hu, hnw, hB⟩ := hrel
    have hc : wr.cell? ⟨w.heap.size, 0, none⟩ = some (.int .i64 x) := by simp [World.cell?, hB]
    have HB := Lib.hid hB; clear hB
    clear c0 c1 u1
    by_cases hlt : k < n
    · obtain ⟨m, hm⟩ : ∃ m : Nat, m = n - 1 - k := ⟨_, rfl⟩
      have em : (n : Int) - 1 - k = (m : Int) := by omega
      rw [em]
      obtain ⟨y, hy⟩ : ∃ y : Nat, y = (x / 2 ^ m % 2).toNat := ⟨_, rfl⟩
      have hbit : Go.bits .and .i64 (x / 2 ^ min m 64) 1 = (y : Int) := by rw [i64_and1, shr_min m hx0 hx1, hy]; omega
      have hsnoc : l ++ numTo x n (k + 1) = (l ++ numTo x n k) ++ [y] := by rw [numTo_succ, ← hm, ← hy, List.append_assoc]
      have hy1 : y ≤ 1 := by omega
      have hm1 : m < 2000 := by omega
      have hll : (l ++ numTo x n k).length < 1099511627776 := by rw [List.length_append, numTo_length]; omega
      have Hy := Lib.hid hy; clear hy
      have Hm := Lib.hid hm; clear hm
      have Hem := Lib.hid em; clear em
      have Hs := Lib.hid hsnoc; clear hsnoc
      have Ha := Lib.hid ha; clear ha
      go_wp2_with (go_at_call 65; refine (add_any b _ vk y _ Ha.out hll hy1).mono ?_; rintro e w2 ⟨rfl, v2, ha2, hu2, hn2⟩)
      go_roundw
      case rel =>
        refine ⟨k + 1, v2, by omega, ?_, by rw [Hs.out]; exact ha2, ?_, hnw.trans hn2 hu.size, hu2.heap HB.out ?_⟩
        · rw [← Hem.out]; go_num
        · refine hu.trans hu2 ?_
          rintro i hi (rfl | hi')
          · exact .inl rfl
          · rcases hnw i hi' with h | h
            · exact .inr h
            · omega
        · rintro (h | h)
          · exact Hne.out h.symm
          · exact row_ne Ha.out.2.1 HB.out (by decide) h
      case measure => simp [intOf] <;> omega
    · obtain rfl : k = n := by omega
      have Ha := Lib.hid ha; clear ha
      go_wp2
      go_end0
      exact ⟨rfl, vk, Ha.out, hu, hnw⟩
end Go.Proofs.Ytjnbnhnkjhnbkaa
