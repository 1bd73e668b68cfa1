/- the reference: sums -/
import Derived.Test.YtdjaileeklhkmaaRef2
namespace Go.Proofs.Ytdjaileeklhkmaa
open Go.RowKit Go.Shelf

theorem i64_xor_nat (a b : Nat) (ha : a < 4294967296) (hb : b < 4294967296) : Go.bits .xor .i64 (a : Int) (b : Int) = ((a ^^^ b : Nat) : Int) := by
  have hx : a ^^^ b < 2 ^ 32 := Nat.xor_lt_two_pow (by omega) (by omega)
  have key : (BitVec.ofInt 64 (a : Int) ^^^ BitVec.ofInt 64 (b : Int)).toNat = a ^^^ b := by
    rw [BitVec.toNat_xor, BitVec.ofInt_natCast, BitVec.ofInt_natCast, BitVec.toNat_ofNat, BitVec.toNat_ofNat, Nat.mod_eq_of_lt (by omega), Nat.mod_eq_of_lt (by omega)]
  show IntKind.i64.wrap ((BitVec.ofInt 64 (a : Int) ^^^ BitVec.ofInt 64 (b : Int)).toNat : Nat) = _
  rw [key]
  exact IntWalk.i64_in _ (by omega)
theorem foldl_take_next {α β : Type} {f : β → α → β} {l : List α} {k : Nat} {x : α} {b : β} (h : l[k]? = some x) : (l.take (k + 1)).foldl f b = f ((l.take k).foldl f b) x := by
  rw [List.take_add_one, h, Option.toList_some, List.foldl_append]; rfl

set_option maxRecDepth 100000 in
set_option maxHeartbeats 1000000 in
theorem refcrc16_any (sv : Value) (zs : List Nat) (w : World) (h : Bytes w sv zs) (hl : zs.length ≤ 1099511627776) :
    Calls Try.prog 31 #[sv] w fun e w' => e = .returned (.int .i64 ((bitsOf zs 0 (8 * zs.length)).foldl c16 65535 : Nat)) ∧ Upd NoB w w' := by
  obtain ⟨a, cap, rfl⟩ : ∃ a cap, sv = .slice a zs.length cap := by obtain ⟨_, a, cap, rfl, _⟩ := h; exact ⟨a, cap, rfl⟩
  have hof := of_any (.slice a zs.length cap) zs (8 * zs.length) w h (Nat.le_refl _) hl
  simp only [Int.natCast_mul, Int.cast_ofNat_Int] at hof
  obtain ⟨l, hlist⟩ : ∃ l, l = bitsOf zs 0 (8 * zs.length) := ⟨_, rfl⟩
  have hll : l.length = 8 * zs.length := by rw [hlist, bitsOf_length]
  have h01 : ∀ x ∈ l, x ≤ 1 := by rw [hlist]; exact bitsOf_01 _ _ _
  rw [← hlist] at hof ⊢
  have Hof := Lib.hid hof; clear hof
  have Hlist := Lib.hid hlist; clear hlist
  have Hll := Lib.hid hll; clear hll
  have H01 := Lib.hid h01; clear h01
  clear h
  go_enter Try.func31, Try.ntmps31
  go_wp2_with (go_at_call 42; refine Hof.out.mono ?_; rintro e w2 ⟨v, rfl, hr8, hu2, hn2⟩; obtain ⟨a2, c2, rfl⟩ := row8_slice hr8)
  have hB := hr8.bytes
  have HB := Lib.hid hB; clear hB hr8
  have Hu2 := Lib.hid hu2; clear hu2
  have hl63 : l.length ≤ 8796093022208 := by have := Hll.out; omega
  go_loop [3, 13] (fun r i => ∃ k : Nat, k ≤ l.length ∧ i = .int .i64 k ∧ r = .int .i64 ((l.take k).foldl c16 65535 : Nat)) (fun _ i => l.length - (intOf i).toNat)
  case atStart => exact ⟨0, Nat.zero_le _, rfl, rfl⟩
  case round =>
    obtain ⟨k, hk, rfl, rfl⟩ := hrel
    by_cases hlt : k < l.length
    · obtain ⟨x, hx⟩ : ∃ x, l[k]? = some x := ⟨l[k], List.getElem?_eq_getElem hlt⟩
      have hx1 := H01.out x (List.mem_of_getElem? hx)
      have hnext := foldl_take_next (f := c16) (b := 65535) hx
      have hrlt := fold16_lt (l.take k) 65535 (by omega)
      obtain ⟨_, a', c', he, _, hz⟩ := HB.out
      cases he
      rcases hz with hz | ⟨b, off, rfl, hz⟩
      · rw [hz] at hlt; simp at hlt
      have hcell := hz k hlt
      rw [List.getD_eq_getElem?_getD, hx] at hcell
      simp only [Option.getD_some] at hcell
      generalize (l.take k).foldl c16 65535 = r at *
      have Hx := Lib.hid hx; clear hx
      have Hnext := Lib.hid hnext; clear hnext
      clear hz
      by_cases h : r / 32768 = x
      · have hc : c16 r x = 2 * r % 65536 := if_pos h
        have h' : ((r : Int) / 32768 != (x : Int)) = false := by simp; omega
        have Hc := Lib.hid hc; clear hc h
        go_wp2
        go_round
        case rel => exact ⟨k + 1, by omega, by go_num, by rw [Hnext.out, Hc.out]; go_num⟩
        case measure => simp [intOf]; omega
      · have hc : c16 r x = (2 * r % 65536) ^^^ 32773 := if_neg h
        have h' : ((r : Int) / 32768 != (x : Int)) = true := by simp; omega
        have h2 : Go.bits .xor .i64 (2 * (r : Int) % 65536) 32773 = ((2 * r % 65536 ^^^ 32773 : Nat) : Int) := by
          have := i64_xor_nat (2 * r % 65536) 32773 (by omega) (by omega)
          rw [← this]; congr 1
        have Hc := Lib.hid hc; clear hc h
        go_wp2
        go_round
        case rel => exact ⟨k + 1, by omega, by go_num, by rw [Hnext.out, Hc.out]⟩
        case measure => simp [intOf]; omega
    · obtain rfl : k = l.length := by omega
      rw [List.take_length] at *
      go_wp2
      go_ret
      exact ⟨rfl, Hu2.out⟩

theorem xor_inj32 (r : Nat) (hr : r < 4294967296) : Go.bits .xor .i64 (r : Int) 4294967295 = ((r ^^^ 4294967295 : Nat) : Int) := i64_xor_nat r 4294967295 hr (by omega)

set_option maxRecDepth 100000 in
set_option maxHeartbeats 2000000 in
theorem refcrc32_any (sv : Value) (zs : List Nat) (w : World) (h : Bytes w sv zs) (hl : zs.length ≤ 1099511627776) :
    Calls Try.prog 33 #[sv] w fun e w' => e = .returned (.int .i64 ((lowOf zs).foldl c32 4294967295 ^^^ 4294967295 : Nat)) ∧ w' = w := by
  obtain ⟨h255, a, cap, rfl, _, hz⟩ := h
  have HZ := Lib.hid hz; clear hz
  have H2 := Lib.hid h255; clear h255
  go_enter Try.func33, Try.ntmps33
  go_wp2_with fail
  go_loop [3, 10] (fun r i => ∃ k : Nat, k ≤ zs.length ∧ i = .int .i64 k ∧ r = .int .i64 ((lowOf (zs.take k)).foldl c32 4294967295 : Nat)) (fun _ i => zs.length - (intOf i).toNat)
  case atStart => exact ⟨0, Nat.zero_le _, rfl, rfl⟩
  case round =>
    obtain ⟨k, hk, rfl, rfl⟩ := hrel
    by_cases hlt : k < zs.length
    · rcases HZ.out with hz | ⟨b, off, rfl, hz⟩
      · rw [hz] at hlt; simp at hlt
      have hcell := hz k hlt
      have hz1 := H2.out k
      have hzg : zs[k]? = some (zs.getD k 0) := by simp [List.getD_eq_getElem?_getD, hlt]
      generalize zs.getD k 0 = z at *
      have hnext := lowOf_next hzg
      have hr0 := fold32_lt (lowOf (zs.take k)) 4294967295 (by omega)
      obtain ⟨r0, hr0e⟩ : ∃ r0, r0 = (lowOf (zs.take k)).foldl c32 4294967295 := ⟨_, rfl⟩
      rw [← hr0e] at hr0 ⊢
      have hfin : (lowOf (zs.take (k + 1))).foldl c32 4294967295 = (lowB z 8).foldl c32 r0 := by rw [hnext, List.foldl_append, hr0e]
      have Hfin := Lib.hid hfin; clear hfin hnext hzg hr0e
      clear hz
      go_wp2
      go_loop [3, 14] (fun r i => ∃ m : Nat, m ≤ 8 ∧ i = .int .i64 m ∧ r = .int .i64 ((lowB z m).foldl c32 r0 : Nat)) (fun _ i => 8 - (intOf i).toNat)
      case atStart => exact ⟨0, by omega, rfl, rfl⟩
      case round =>
        obtain ⟨m, hm, rfl, rfl⟩ := hrel
        by_cases hm8 : m < 8
        · have hnx : (lowB z (m + 1)).foldl c32 r0 = c32 ((lowB z m).foldl c32 r0) (z / 2 ^ m % 2) := by rw [lowB_succ, List.foldl_append]; rfl
          have hr1 := fold32_lt (lowB z m) r0 hr0
          generalize (lowB z m).foldl c32 r0 = r at *
          obtain ⟨x, hx⟩ : ∃ x, x = z / 2 ^ m % 2 := ⟨_, rfl⟩
          rw [← hx] at hnx
          have hx1 : x ≤ 1 := by omega
          have hbit : Go.bits .and .u8 ((z : Int) / 2 ^ m) 1 = (x : Int) := and_one hz1 hx
          have hmin : min m 8 = m := by omega
          have hand : Go.bits .and .i64 (r : Int) 1 = (r : Int) % 2 := i64_and1 r
          have Hnx := Lib.hid hnx; clear hnx
          have Hx := Lib.hid hx; clear hx
          by_cases h : r % 2 = x
          · have hc : c32 r x = r / 2 := if_pos h
            have h' : ((r : Int) % 2 != (x : Int)) = false := by simp; omega
            have Hc := Lib.hid hc; clear hc h
            go_wp2
            go_round
            case rel => exact ⟨m + 1, by omega, by go_num, by rw [Hnx.out, Hc.out]; go_num⟩
            case measure => simp [intOf]; omega
          · have hc : c32 r x = (r / 2) ^^^ 3988292384 := if_neg h
            have h' : ((r : Int) % 2 != (x : Int)) = true := by simp; omega
            have h2 : Go.bits .xor .i64 ((r : Int) / 2) 3988292384 = ((r / 2 ^^^ 3988292384 : Nat) : Int) := by
              have := i64_xor_nat (r / 2) 3988292384 (by omega) (by omega)
              rw [← this]; congr 1
            have Hc := Lib.hid hc; clear hc h
            go_wp2
            go_round
            case rel => exact ⟨m + 1, by omega, by go_num, by rw [Hnx.out, Hc.out]⟩
            case measure => simp [intOf]; omega
        · obtain rfl : m = 8 := by omega
          rw [← Hfin.out]
          go_wp2
          go_round
          case rel => exact ⟨k + 1, by omega, by go_num, rfl⟩
          case measure => simp [intOf]; omega
    · obtain rfl : k = zs.length := by omega
      rw [List.take_length] at *
      have hr0 := fold32_lt (lowOf zs) 4294967295 (by omega)
      have hx := xor_inj32 _ hr0
      have Hx := Lib.hid hx; clear hx
      go_wp2
      go_ret
      exact ⟨by rw [← Hx.out]; rfl, rfl⟩
end Go.Proofs.Ytdjaileeklhkmaa
