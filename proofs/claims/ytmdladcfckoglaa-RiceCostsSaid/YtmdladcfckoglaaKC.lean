/- rice: the word of a number, and how many bits it has -/
import Derived.Test.YtmdladcfckoglaaKB
import Derived.Laws.Rows
namespace Go.Proofs.Ytmdladcfckoglaa
open Go.RowKit Go.Shelf

theorem cells3 {w : World} {b : Nat} {u v x : Value} {t : TypeId} (h : w.heap[b]? = some (.cells #[u, v, x] t (0, 0))) : w.cell? ⟨b, 0, none⟩ = some u ∧ w.cell? ⟨b, 1, none⟩ = some v ∧ w.cell? ⟨b, 2, none⟩ = some x := by simp [World.cell?, h]
theorem and_mask (u k : Nat) (hu : u ≤ 4294967295) (hk : k ≤ 32) : Go.bits .and .i64 (u : Int) ((2 : Int) ^ k - 1) = ((u % 2 ^ k : Nat) : Int) := by
  have hp := Nat.pow_le_pow_right (n := 2) (by decide) hk
  have hp0 := Nat.two_pow_pos k
  have h32 : 2 ^ 32 = 4294967296 := by decide
  rw [h32] at hp
  have e1 : ((2 : Int) ^ k - 1) = ((2 ^ k - 1 : Nat) : Int) := by rw [Int.ofNat_sub hp0]; simp
  have e2 : (BitVec.ofInt 64 ((2 ^ k - 1 : Nat) : Int)).toNat = 2 ^ k - 1 := by
    rw [BitVec.toNat_ofInt]
    generalize 2 ^ k = p at *
    omega
  have e3 : (BitVec.ofInt 64 (u : Int)).toNat = u := by rw [BitVec.toNat_ofInt]; omega
  have hm := Nat.mod_le u (2 ^ k)
  rw [e1]
  have key : (BitVec.ofInt 64 (u : Int) &&& BitVec.ofInt 64 ((2 ^ k - 1 : Nat) : Int)).toNat = u % 2 ^ k := by
    rw [BitVec.toNat_and, e2, e3, Nat.and_two_pow_sub_one_eq_mod]
  show IntKind.i64.wrap ((BitVec.ofInt 64 (u : Int) &&& BitVec.ofInt 64 ((2 ^ k - 1 : Nat) : Int)).toNat : Nat) = _
  rw [key]
  generalize u % 2 ^ k = y at *
  rw [IntKind.wrap_i64]
  omega
theorem pow14 {k : Nat} (hk : k ≤ 14) : (1 : Int) ≤ 2 ^ k ∧ (2 : Int) ^ k ≤ 16384 := by
  have h1 := Nat.pow_le_pow_right (n := 2) (by decide) hk
  have h2 := Nat.two_pow_pos k
  have e : (2 : Int) ^ k = ((2 ^ k : Nat) : Int) := by simp
  have e2 : 2 ^ 14 = 16384 := by decide
  rw [e2] at h1
  rw [e]
  generalize 2 ^ k = p at *
  omega
theorem shr_nat (u k : Nat) : (u : Int) / 2 ^ k = ((u / 2 ^ k : Nat) : Int) := by simp

set_option maxRecDepth 100000 in
theorem wordOf_any (u k : Nat) (w : World) (hu : u ≤ 4294967295) (hk : k ≤ 14) : Calls Try.prog 68 #[.int .i64 (u : Int), .int .i64 (k : Int)] w fun e w' =>
    e = .returned (.agg #[.int .i64 (wUn u k : Nat), .int .i64 (wRe u k : Nat), .int .i64 (wWi u k : Nat)]) ∧ Upd NoB w w' := by
  have hq := shr_nat u k
  have hqle : u / 2 ^ k ≤ u := Nat.div_le_self _ _
  by_cases h : u / 2 ^ k < 24
  · have Hu := Lib.hid (show wUn u k = u / 2 ^ k from if_pos h)
    have Hr := Lib.hid (show wRe u k = u % 2 ^ k from if_pos h)
    have Hw := Lib.hid (show wWi u k = k from if_pos h)
    have hand := and_mask u k hu (by omega)
    obtain ⟨p1, p2⟩ := pow14 hk
    have hm : u % 2 ^ k ≤ u := Nat.mod_le _ _
    rw [Hu.out, Hr.out, Hw.out]
    generalize u / 2 ^ k = q at *
    generalize u % 2 ^ k = m at *
    have t : decide ((q : Int) < 24) = true := decide_eq_true (by omega)
    clear h
    go_enter Try.func68, Try.ntmps68
    go_wp2
    exact bodyPost_ret (results_cell_row rfl _ _ w.heap.size 88 _ (0, 0) _ rfl (heap_alloc_new w _) Try.underlying88 rfl (by kernel_rfl)) rfl ⟨rfl, (Upd.refl _ _).alloc _⟩
  · have Hu := Lib.hid (show wUn u k = 24 from if_neg h)
    have Hr := Lib.hid (show wRe u k = u from if_neg h)
    have Hw := Lib.hid (show wWi u k = 32 from if_neg h)
    rw [Hu.out, Hr.out, Hw.out]
    generalize u / 2 ^ k = q at *
    have t : decide ((q : Int) < 24) = false := decide_eq_false (by omega)
    clear h
    go_enter Try.func68, Try.ntmps68
    go_wp2
    exact bodyPost_ret (results_cell_row rfl _ _ w.heap.size 88 _ (0, 0) _ rfl (heap_alloc_new w _) Try.underlying88 rfl (by kernel_rfl)) rfl ⟨rfl, (Upd.refl _ _).alloc _⟩
theorem wbits_any (a b c : Nat) (w : World) (ha : a ≤ 24) (hc : c ≤ 32) : Calls Try.prog 70 #[.agg #[.int .i64 (a : Int), .int .i64 (b : Int), .int .i64 (c : Int)]] w fun e w' => e = .returned (.int .i64 ((a + 1 + c : Nat) : Int)) ∧ w' = w.alloc (.cells #[.int .i64 (a : Int), .int .i64 (b : Int), .int .i64 (c : Int)] 88) := by
  go_enter Try.func70, Try.ntmps70
  go_wp2
  go_ret
  exact ⟨rfl, rfl⟩
end Go.Proofs.Ytmdladcfckoglaa
