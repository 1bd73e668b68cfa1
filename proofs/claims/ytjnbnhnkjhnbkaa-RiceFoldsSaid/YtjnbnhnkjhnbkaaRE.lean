/- the reference's reader and the reader say the same -/
import Derived.Test.YtjnbnhnkjhnbkaaRU
namespace Go.Proofs.Ytjnbnhnkjhnbkaa
open Go.RowKit Go.Shelf

theorem bitsOf_get (zs : List Nat) (s n k : Nat) : (bitsOf zs s n)[k]? = if k < n then some (bitOf zs (s + k)) else none := by
  unfold bitsOf
  by_cases h : k < n
  · rw [if_pos h]; simp [h]
  · rw [if_neg h]; exact List.getElem?_eq_none (by simp; omega)
theorem bitsOf_drop (zs : List Nat) (s n k : Nat) : (bitsOf zs s n).drop k = bitsOf zs (s + k) (n - k) := by
  refine List.ext_getElem? fun j => ?_
  rw [List.getElem?_drop, bitsOf_get, bitsOf_get]
  by_cases h : k + j < n
  · rw [if_pos h, if_pos (by omega), Nat.add_assoc]
  · rw [if_neg h, if_neg (by omega)]
theorem bitsOf_firsts (zs : List Nat) (s n k : Nat) (h : k ≤ n) : (bitsOf zs s n).take k = bitsOf zs s k := by
  refine List.ext_getElem? fun j => ?_
  rw [List.getElem?_take, bitsOf_get, bitsOf_get]
  by_cases hj : j < k
  · rw [if_pos hj, if_pos (by omega), if_pos hj]
  · rw [if_neg hj, if_neg hj]
theorem nextR_bits (zs : List Nat) (cnt at_ n : Nat) (h : at_ ≤ cnt) : nextR (bitsOf zs 0 cnt) at_ n = if (cnt : Int) - at_ < n then ([], 3, at_) else (bitsOf zs at_ n, 0, at_ + n) := by
  unfold nextR
  rw [bitsOf_length, bitsOf_drop, Nat.zero_add]
  by_cases h3 : (cnt : Int) - at_ < n
  · rw [if_pos h3, if_pos h3]
  · rw [if_neg h3, if_neg h3, bitsOf_firsts _ _ _ _ (by omega)]
theorem getQ_eq (zs : List Nat) (cnt at_ : Nat) (n : Int) (h : at_ ≤ cnt) : getQ (bitsOf zs 0 cnt) at_ n = getR zs cnt at_ n := by
  unfold getQ getR
  by_cases h1 : n < 0 ∨ 32 < n
  · rw [if_pos h1, if_pos h1]
  · rw [if_neg h1, if_neg h1, nextR_bits _ _ _ _ h, Int.toNat_of_nonneg (by omega)]
    by_cases h3 : (cnt : Int) - at_ < n
    · rw [if_pos h3, if_pos h3]; rfl
    · rw [if_neg h3, if_neg h3]
theorem valBits_cons (x : Nat) (l : List Nat) : valBits (x :: l) = x * 2 ^ l.length + valBits l := by
  have : ∀ (l : List Nat) (v : Nat), l.foldl (fun v x => 2 * v + x) v = v * 2 ^ l.length + l.foldl (fun v x => 2 * v + x) 0 := by
    intro l
    induction l with
    | nil => intro v; simp
    | cons y l ih =>
      intro v
      rw [List.foldl_cons, ih, List.foldl_cons, ih (2 * 0 + y), List.length_cons, Nat.pow_succ, Nat.add_mul]
      rw [Nat.mul_zero, Nat.zero_add, Nat.mul_comm (2 ^ l.length) 2, ← Nat.mul_assoc, Nat.mul_comm v 2, Nat.add_assoc]
  unfold valBits
  rw [List.foldl_cons, this, Nat.mul_zero, Nat.zero_add]
theorem bitsOf_cons (zs : List Nat) (s n : Nat) : bitsOf zs s (n + 1) = bitOf zs s :: bitsOf zs (s + 1) n := by
  unfold bitsOf
  rw [List.range_succ_eq_map, List.map_cons, List.map_map]
  congr 1
  refine List.map_congr_left fun i _ => ?_
  simp only [Function.comp]
  congr 1; omega
theorem unaQ_eq (zs : List Nat) (cnt at_ : Nat) (n : Int) : unaQ (bitsOf zs 0 cnt) at_ n = unaR zs cnt at_ n := by
  unfold unaQ unaR
  rw [bitsOf_drop, Nat.zero_add]
theorem zscan_bit (most : Nat) : ∀ (l : List Nat) (n : Nat), (zscan most l n).2 = 0 → n ≤ (zscan most l n).1 ∧ l[(zscan most l n).1 - n]? = some 1
  | [], n, h => by cases h
  | x :: l, n, h => by
    unfold zscan at h ⊢
    by_cases hx : x = 1
    · rw [if_pos hx]; simp [hx]
    · rw [if_neg hx] at h ⊢
      by_cases hn : n = most
      · rw [if_pos hn] at h; cases h
      · rw [if_neg hn] at h ⊢
        obtain ⟨h1, h2⟩ := zscan_bit most l (n + 1) h
        refine ⟨by omega, ?_⟩
        obtain ⟨d, hd⟩ : ∃ d, (zscan most l (n + 1)).1 = n + 1 + d := ⟨_, (Nat.add_sub_of_le h1).symm⟩
        rw [hd] at h2 ⊢
        rw [show n + 1 + d - (n + 1) = d by omega] at h2
        rw [show n + 1 + d - n = d + 1 by omega, List.getElem?_cons_succ]
        exact h2
/-- Bytes that are cut off say no bits less. -/
theorem bitsOf_cut (zs : List Nat) (n m : Nat) (h : n ≤ 8 * m) : bitsOf (zs.take m) 0 n = bitsOf zs 0 n := by
  refine List.ext_getElem? fun j => ?_
  rw [bitsOf_get, bitsOf_get]
  by_cases hj : j < n
  · rw [if_pos hj, if_pos hj]
    unfold bitOf
    simp only [Nat.zero_add, List.getD_eq_getElem?_getD, List.getElem?_take, if_pos (show j / 8 < m by omega)]
  · rw [if_neg hj, if_neg hj]

/-! Open of the reference -/
def QORes (w : World) (zs : List Nat) (n : Int) (e : Ending) (w' : World) : Prop :=
  ((n < 0 ∨ 8 * (zs.length : Int) < n) ∧ e = .returned (.tuple #[.pointer none, .int .i64 1]) ∧ Upd NoB w w') ∨
  (¬ (n < 0 ∨ 8 * (zs.length : Int) < n) ∧ 1048576 < n ∧ e = .returned (.tuple #[.pointer none, .int .i64 2]) ∧ Upd NoB w w') ∨
  (¬ (n < 0 ∨ 8 * (zs.length : Int) < n) ∧ n ≤ 1048576 ∧ ∃ p sv, e = .returned (.tuple #[.pointer (some ⟨p, 0, none⟩), .int .i64 0]) ∧ w.heap.size ≤ p ∧ QAt w' p sv (bitsOf zs 0 n.toNat) 0 ∧ newB w sv ∧ Upd NoB w w')
set_option maxRecDepth 100000 in
set_option maxHeartbeats 1000000 in
theorem qopen_any (sv : Value) (zs : List Nat) (n : Int) (w : World) (h : Bytes w sv zs) (hl : zs.length ≤ 1099511627776) :
    Calls Try.prog 34 #[sv, .int .i64 n] w fun e w' => QORes w zs n e w' := by
  obtain ⟨a, cap, rfl⟩ : ∃ a cap, sv = .slice a zs.length cap := by obtain ⟨_, a, cap, rfl, _⟩ := h; exact ⟨a, cap, rfl⟩
  by_cases h1 : n < 0
  · have hr : n < 0 ∨ 8 * (zs.length : Int) < n := .inl h1
    have Hr := Lib.hid hr; clear hr h
    go_enter Try.func34, Try.ntmps34
    go_wp2
    go_ret2
    exact .inl ⟨Hr.out, rfl, Upd.refl _ _⟩
  by_cases h2 : 8 * (zs.length : Int) < n
  · have hr : n < 0 ∨ 8 * (zs.length : Int) < n := .inr h2
    have Hr := Lib.hid hr; clear hr h
    go_enter Try.func34, Try.ntmps34
    go_wp2
    go_ret2
    exact .inl ⟨Hr.out, rfl, Upd.refl _ _⟩
  have hr : ¬ (n < 0 ∨ 8 * (zs.length : Int) < n) := by omega
  have Hr := Lib.hid hr; clear hr
  by_cases h3 : 1048576 < n
  · clear h
    go_enter Try.func34, Try.ntmps34
    go_wp2
    go_ret2
    exact .inr (.inl ⟨Hr.out, h3, rfl, Upd.refl _ _⟩)
  obtain ⟨m, rfl⟩ := Int.eq_ofNat_of_zero_le (show 0 ≤ n by omega)
  have hof := of_any _ zs m w h (by omega) hl
  have Hof := Lib.hid hof; clear hof h
  go_enter Try.func34, Try.ntmps34
  go_wp2_with fail
  refine (Hof.out).mono ?_
  rintro e w2 ⟨v, rfl, r2, u2, n2⟩
  obtain ⟨va, vc, hv⟩ := row8_slice r2
  rw [bitsOf_length] at hv
  subst hv
  have R2 := Lib.hid r2; have U2 := Lib.hid u2; have N2 := Lib.hid n2
  clear r2 u2 n2
  go_wp2_with fail
  go_ret2
  have hb := heap_alloc_new w2 (.cells #[.slice va m vc, .int .i64 0] 99)
  have u3 : Upd NoB w2 (w2.alloc (.cells #[.slice va m vc, .int .i64 0] 99)) := (Upd.refl _ _).alloc _
  refine .inr (.inr ⟨Hr.out, by omega, w2.heap.size, .slice va m vc, rfl, U2.out.size, ⟨hb, ?_, ?_, Nat.zero_le _, ?_, ?_⟩, N2.out, U2.out.then u3⟩)
  · rw [Int.toNat_natCast]; exact bytes_later R2.out.bytes u3
  · rw [Int.toNat_natCast]; exact bitsOf_01 _ _ _
  · rw [Int.toNat_natCast, bitsOf_length]; omega
  · intro _ e
    have := (R2.out.1.lt _ e).2; omega
end Go.Proofs.Ytjnbnhnkjhnbkaa
