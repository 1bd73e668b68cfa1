/- the reference's reader: Get, Signed, Unary -/
import Derived.Test.YtjnbnhnkjhnbkaaRR
namespace Go.Proofs.Ytjnbnhnkjhnbkaa
open Go.RowKit Go.Shelf

set_option maxRecDepth 100000 in
set_option maxHeartbeats 1000000 in
theorem qvalue_any (sv : Value) (bs : List Nat) (w : World) (h : Bytes w sv bs) (h01 : ∀ x ∈ bs, x ≤ 1) (hl : bs.length ≤ 40) :
    Calls Try.prog 100 #[sv] w fun e w' => e = .returned (.int .i64 (valBits bs : Nat)) ∧ w = w' := by
  obtain ⟨_, a, cap, rfl, _, hz⟩ := h
  have HZ := Lib.hid hz; clear hz
  have H01 := Lib.hid h01; clear h01
  obtain ⟨L, hL⟩ : ∃ L, L = bs.length := ⟨_, rfl⟩
  have HL := Lib.hid hL
  rw [← hL] at hl ⊢
  clear hL
  go_enter Try.func100, Try.ntmps100
  go_wp2
  go_loop [3, 8] (fun v i => ∃ k : Nat, k ≤ L ∧ i = .int .i64 k ∧ v = .int .i64 (valBits (bs.take k) : Nat)) (fun _ i => L - (intOf i).toNat)
  case atStart => exact ⟨0, Nat.zero_le _, rfl, rfl⟩
  case round =>
    obtain ⟨k, hk, rfl, rfl⟩ := hrel
    by_cases hlt : k < L
    · obtain ⟨x, hx⟩ : ∃ x, bs[k]? = some x := ⟨_, List.getElem?_eq_getElem (by rw [← HL.out]; exact hlt)⟩
      have hx1 := H01.out x (List.mem_of_getElem? hx)
      have hnext : valBits (bs.take (k + 1)) = 2 * valBits (bs.take k) + x := by rw [List.take_add_one, hx]; exact valBits_snoc _ _
      have hv : valBits (bs.take k) < 2 ^ 40 := Nat.lt_of_lt_of_le (valBits_lt (fun y hy => H01.out y (List.mem_of_mem_take hy))) (Nat.pow_le_pow_right (by decide) (by rw [List.length_take]; omega))
      rcases HZ.out with hz | ⟨b, off, rfl, hz⟩
      · rw [hz] at hx; simp at hx
      have hcell := hz k (by rw [← HL.out]; exact hlt)
      rw [List.getD_eq_getElem?_getD, hx] at hcell
      simp only [Option.getD_some] at hcell
      generalize valBits (bs.take k) = v at *
      have hv2 : v < 1099511627776 := hv
      have Hx := Lib.hid hx; have Hnext := Lib.hid hnext
      clear hz hx hnext hv
      go_wp2
      go_round
      case rel => exact ⟨k + 1, by omega, by go_num, by rw [Hnext.out]; go_num⟩
      case measure => simp [intOf]; omega
    · obtain rfl : k = L := by omega
      go_wp2
      go_ret
      rw [HL.out, List.take_length]
      exact ⟨rfl, rfl⟩

def getQ (bs : List Nat) (at_ : Nat) (n : Int) : Int × Int × Nat :=
  if n < 0 ∨ 32 < n then (0, 1, at_) else ((valBits (nextR bs at_ n.toNat).1 : Int), (nextR bs at_ n.toNat).2)
/-- What a call of a reader of the reference comes to. -/
def QRes (b : Nat) (sv : Value) (bs : List Nat) (w : World) (r : Int × Int × Nat) (e : Ending) (w' : World) : Prop :=
  e = .returned (.tuple #[.int .i64 r.1, .int .i64 r.2.1]) ∧ QAt w' b sv bs r.2.2 ∧ Upd (fun k => k = b) w w'
theorem nextR_len (bs : List Nat) (at_ n : Nat) : (nextR bs at_ n).1.length ≤ n := by
  unfold nextR; split
  · simp
  · simp; omega
theorem nextR_01 {bs : List Nat} (h : ∀ x ∈ bs, x ≤ 1) (at_ n : Nat) : ∀ x ∈ (nextR bs at_ n).1, x ≤ 1 := by
  unfold nextR; split
  · simp
  · intro x hx; exact h x (List.mem_of_mem_drop (List.mem_of_mem_take hx))
theorem qget_nil (n : Int) (w : World) : Calls Try.prog 80 #[.pointer none, .int .i64 n] w fun e w' => e = .returned (.tuple #[.int .i64 0, .int .i64 1]) ∧ w = w' := by
  go_enter Try.func80, Try.ntmps80
  go_wp2
  go_ret2
  exact ⟨rfl, rfl⟩
set_option maxRecDepth 100000 in
set_option maxHeartbeats 1000000 in
theorem qget_any (b : Nat) (sv : Value) (bs : List Nat) (at_ : Nat) (n : Int) (w : World) (h : QAt w b sv bs at_) :
    Calls Try.prog 80 #[.pointer (some ⟨b, 0, none⟩), .int .i64 n] w fun e w' => QRes b sv bs w (getQ bs at_ n) e w' := by
  have H := Lib.hid h; clear h
  by_cases h1 : n < 0
  · have hr : getQ bs at_ n = (0, 1, at_) := if_pos (.inl h1)
    have Hr := Lib.hid hr; clear hr
    go_enter Try.func80, Try.ntmps80
    go_wp2
    go_ret2
    rw [Hr.out]
    exact ⟨rfl, H.out, Upd.refl _ _⟩
  by_cases h2 : 32 < n
  · have hr : getQ bs at_ n = (0, 1, at_) := if_pos (.inr h2)
    have Hr := Lib.hid hr; clear hr
    go_enter Try.func80, Try.ntmps80
    go_wp2
    go_ret2
    rw [Hr.out]
    exact ⟨rfl, H.out, Upd.refl _ _⟩
  obtain ⟨m, rfl⟩ := Int.eq_ofNat_of_zero_le (show 0 ≤ n by omega)
  have hr : getQ bs at_ m = ((valBits (nextR bs at_ m).1 : Int), (nextR bs at_ m).2) := by rw [getQ, if_neg (by omega), Int.toNat_natCast]
  have hlen := nextR_len bs at_ m
  have h01 := nextR_01 H.out.2.2.1 at_ m
  have Hr := Lib.hid hr; have Hlen := Lib.hid hlen; have H01 := Lib.hid h01
  clear hr hlen h01
  go_enter Try.func80, Try.ntmps80
  go_wp2_with fail
  refine (next_any b sv bs at_ m w H.out).mono ?_
  rintro e w2 ⟨v, rfl, hb, hq, hu⟩
  obtain ⟨va, vc, rfl⟩ : ∃ va vc, v = .slice va (nextR bs at_ m).1.length vc := by obtain ⟨_, a, c, he, _⟩ := hb; exact ⟨a, c, he⟩
  generalize nextR bs at_ m = R at *
  obtain ⟨R1, R2, R3⟩ := R
  have HB := Lib.hid hb; have HQ := Lib.hid hq; have HU := Lib.hid hu
  clear hb hq hu
  go_wp2_with fail
  refine (qvalue_any _ R1 w2 HB.out H01.out (by have := Hlen.out; have : R1.length ≤ m := this; omega)).mono ?_
  rintro e w3 ⟨rfl, rfl⟩
  go_wp2_with fail
  go_ret2
  rw [Hr.out]
  exact ⟨rfl, HQ.out, HU.out⟩
end Go.Proofs.Ytjnbnhnkjhnbkaa
