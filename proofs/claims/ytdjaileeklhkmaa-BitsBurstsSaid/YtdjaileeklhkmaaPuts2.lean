/- the writer's calls, more -/
import Derived.Test.YtdjaileeklhkmaaPuts
namespace Go.Proofs.Ytdjaileeklhkmaa
open Go.RowKit Go.Shelf

theorem pow2_le {m k : Nat} (h : m ≤ k) : (2 : Int) ^ m ≤ 2 ^ k := by
  have := Nat.pow_le_pow_right (n := 2) (by decide) h
  exact_mod_cast this
theorem pow2_pos (m : Nat) : (0 : Int) < 2 ^ m := Int.pow_pos (by decide)

theorem new_any (w : World) : Calls Try.prog 13 #[] w fun e w' => e = .returned (.pointer (some ⟨w.heap.size, 0, none⟩)) ∧ w' = w.alloc (.cells #[.slice none 0 0, .int .i64 0] 29) := by
  go_enter Try.func13, Try.ntmps13
  go_wp2
  go_ret
  exact ⟨rfl, rfl⟩
theorem WAt_new (w : World) : WAt (w.alloc (.cells #[.slice none 0 0, .int .i64 0] 29)) w.heap.size [] (.slice none 0 0) :=
  ⟨heap_alloc_new w _, World.ownsRow_nil _ _ _ _, bit01_nil⟩

def unaryBad (n : Int) : Prop := ¬ (0 ≤ n ∧ n ≤ 1000)
set_option maxRecDepth 100000 in
set_option maxHeartbeats 1000000 in
theorem unary_any (b : Nat) (l : List Nat) (v : Value) (n : Int) (w : World) (h : WAt w b l v) (hl : l.length ≤ 1048576) :
    Calls Try.prog 46 #[.pointer (some ⟨b, 0, none⟩), .int .i64 n] w fun e w' => WRes b v w l (unaryBad n) (numBits 0 n.toNat ++ numBits 1 1) e w' := by
  by_cases h1 : n < 0
  · have hb : unaryBad n := fun hh => by omega
    have Hb := Lib.hid hb; clear hb h
    go_enter Try.func46, Try.ntmps46
    go_wp2
    go_ret
    exact WRes.bad Hb.out
  by_cases h2 : 1000 < n
  · have hb : unaryBad n := fun hh => by omega
    have Hb := Lib.hid hb; clear hb h
    go_enter Try.func46, Try.ntmps46
    go_wp2
    go_ret
    exact WRes.bad Hb.out
  obtain ⟨m, rfl⟩ := Int.eq_ofNat_of_zero_le (show 0 ≤ n by omega)
  have hm : m ≤ 1000 := by omega
  have hb : ¬ unaryBad (m : Int) := fun hh => hh ⟨by omega, by omega⟩
  have Hb := Lib.hid hb; clear hb
  have ha1 := h.upd (w' := w.alloc (.cells #[.int .i64 0, .int .i64 m, .int .i64 1, .int .i64 (1 : Nat)] 89)) ((Upd.refl NoB _).alloc _) (fun k _ => noB k)
  have hs1 := flds2 w 0 1 m 1 ⟨by show m ≤ 1001; omega, by show (-9223372036854775808 : Int) ≤ 0; decide, by show (0 : Int) ≤ 9223372036854775807; decide⟩ (by decide)
  have Ha1 := Lib.hid ha1; clear ha1 h
  have Hs1 := Lib.hid hs1; clear hs1
  go_enter Try.func46, Try.ntmps46
  go_wp2_with (go_at_call 73; refine (write_res b l v _ _ _ Ha1.out hl Hs1.out (by simp) _ Hb.out (numBits 0 m ++ numBits 1 1) (by simp [fldBits])).mono ?_; rintro e w2 ⟨r, rfl, hr⟩)
  go_ret
  exact WRes.after ((Upd.refl NoB _).alloc _) ⟨r, rfl, hr⟩

def signedBad (x n : Int) : Prop := ¬ (1 ≤ n ∧ n ≤ 32 ∧ -2 ^ (n.toNat - 1) ≤ x ∧ x < 2 ^ (n.toNat - 1))
set_option maxRecDepth 100000 in
set_option maxHeartbeats 1000000 in
theorem signed_any (b : Nat) (l : List Nat) (v : Value) (x n : Int) (w : World) (h : WAt w b l v) (hl : l.length ≤ 1048576) :
    Calls Try.prog 49 #[.pointer (some ⟨b, 0, none⟩), .int .i64 x, .int .i64 n] w fun e w' => WRes b v w l (signedBad x n) (numBits x n.toNat) e w' := by
  by_cases h1 : n < 1
  · have hb : signedBad x n := fun hh => by omega
    have Hb := Lib.hid hb; clear hb h
    go_enter Try.func49, Try.ntmps49
    go_wp2
    go_ret
    exact WRes.bad Hb.out
  by_cases h2 : 32 < n
  · have hb : signedBad x n := fun hh => by omega
    have Hb := Lib.hid hb; clear hb h
    go_enter Try.func49, Try.ntmps49
    go_wp2
    go_ret
    exact WRes.bad Hb.out
  obtain ⟨m, rfl⟩ := Int.eq_ofNat_of_zero_le (show 0 ≤ n by omega)
  have hm0 : 1 ≤ m := by omega
  have hm : m ≤ 32 := by omega
  have hp := pow2_le (show m - 1 ≤ 31 by omega)
  have hp0 := pow2_pos (m - 1)
  have hp' : (2 : Int) ^ 31 = 2147483648 := by decide
  rw [hp'] at hp
  clear hp' h1 h2
  have q1 : ((m : Int) - 1).toNat = m - 1 := by omega
  by_cases h3 : x < -2 ^ (m - 1)
  · have hb : signedBad x m := fun hh => by have := hh.2.2.1; rw [Int.toNat_natCast] at this; omega
    have Hb := Lib.hid hb; clear hb h
    go_enter Try.func49, Try.ntmps49
    go_wp2
    go_ret
    exact WRes.bad Hb.out
  by_cases h4 : x < 2 ^ (m - 1)
  · have hb : ¬ signedBad x m := fun hh => hh ⟨by omega, by omega, by rw [Int.toNat_natCast]; omega, by rw [Int.toNat_natCast]; exact h4⟩
    have Hb := Lib.hid hb; clear hb
    have h3' : -2 ^ (m - 1) ≤ x := by omega
    clear h3
    have ha1 := h.upd (w' := w.alloc (.cells #[.int .i64 x, .int .i64 m] 89)) ((Upd.refl NoB _).alloc _) (fun k _ => noB k)
    have hs1 := flds1 w x m ⟨by show m ≤ 1001; omega, by show (-9223372036854775808 : Int) ≤ x; omega, by show x ≤ 9223372036854775807; omega⟩
    have Ha1 := Lib.hid ha1; clear ha1 h
    have Hs1 := Lib.hid hs1; clear hs1
    go_enter Try.func49, Try.ntmps49
    go_wp2_with (go_at_call 73; refine (write_res b l v _ _ _ Ha1.out hl Hs1.out (by simp) _ Hb.out (numBits x m) (by simp [fldBits])).mono ?_; rintro e w2 ⟨r, rfl, hr⟩)
    go_ret
    exact WRes.after ((Upd.refl NoB _).alloc _) ⟨r, rfl, hr⟩
  · have hb : signedBad x m := fun hh => by have := hh.2.2.2; rw [Int.toNat_natCast] at this; omega
    have Hb := Lib.hid hb; clear hb h
    have h3' : -2 ^ (m - 1) ≤ x := by omega
    have h4' : 2 ^ (m - 1) ≤ x := by omega
    clear h3 h4
    go_enter Try.func49, Try.ntmps49
    go_wp2
    go_ret
    exact WRes.bad Hb.out

def gammaBad (n : Int) : Prop := ¬ (1 ≤ n ∧ n < 2097152)
theorem log2_up {x k : Nat} (h1 : 2 ^ k ≤ x) (h2 : x < 2 ^ (k + 1)) : Nat.log2 x = k := by
  have hx : x ≠ 0 := by have := Nat.two_pow_pos k; omega
  exact (Nat.log2_eq_iff hx).2 ⟨h1, h2⟩
set_option maxRecDepth 100000 in
set_option maxHeartbeats 1000000 in
theorem gamma_any (b : Nat) (l : List Nat) (v : Value) (n : Int) (w : World) (h : WAt w b l v) (hl : l.length ≤ 1048576) :
    Calls Try.prog 48 #[.pointer (some ⟨b, 0, none⟩), .int .i64 n] w fun e w' => WRes b v w l (gammaBad n) (numBits 0 (Nat.log2 n.toNat) ++ numBits n (Nat.log2 n.toNat + 1)) e w' := by
  by_cases h1 : n < 1
  · have hb : gammaBad n := fun hh => by omega
    have Hb := Lib.hid hb; clear hb h
    go_enter Try.func48, Try.ntmps48
    go_wp2
    go_ret
    exact WRes.bad Hb.out
  by_cases h2 : 2097152 ≤ n
  · have hb : gammaBad n := fun hh => by omega
    have Hb := Lib.hid hb; clear hb h
    go_enter Try.func48, Try.ntmps48
    go_wp2
    go_ret
    exact WRes.bad Hb.out
  obtain ⟨x, rfl⟩ := Int.eq_ofNat_of_zero_le (show 0 ≤ n by omega)
  rw [Int.toNat_natCast]
  have hx0 : 1 ≤ x := by omega
  have hx1 : x < 2097152 := by omega
  have hb : ¬ gammaBad (x : Int) := fun hh => hh ⟨by omega, by omega⟩
  have Hb := Lib.hid hb; clear hb h1 h2
  have H := Lib.hid h; clear h
  go_enter Try.func48, Try.ntmps48
  go_wp2_with fail
  go_loop [5] (fun i => ∃ k : Nat, k ≤ 20 ∧ 2 ^ k ≤ x ∧ i = .int .i64 k) (fun i => 21 - (intOf i).toNat)
  case atStart => exact ⟨0, by omega, by simpa using hx0, rfl⟩
  case round =>
    obtain ⟨k, hk, hkx, rfl⟩ := hrel
    have hpow := Nat.pow_succ 2 k
    by_cases hlt : 2 ^ (k + 1) ≤ x
    · have hk2 : k + 1 ≤ 20 := by
        rcases Nat.lt_or_ge k 20 with h | h
        · omega
        · have := Nat.pow_le_pow_right (n := 2) (by decide) (show 21 ≤ k + 1 by omega)
          have e : 2 ^ 21 = 2097152 := by decide
          omega
      have hpos : (0 : Int) < (x : Int) / 2 ^ (k + 1) := by
        have := Nat.div_pos hlt (Nat.two_pow_pos _)
        have e : ((x : Int) / 2 ^ (k + 1)) = ((x / 2 ^ (k + 1) : Nat) : Int) := by simp
        rw [e]; omega
      have Hlt := Lib.hid hlt; clear hlt hpow
      have Hkx := Lib.hid hkx; clear hkx
      go_wp2
      go_round
      case rel => exact ⟨k + 1, hk2, Hlt.out, by go_num⟩
      case measure => simp [intOf]; omega
    · have hlog : Nat.log2 x = k := log2_up hkx (by omega)
      have hz : ¬ ((0 : Int) < (x : Int) / 2 ^ (k + 1)) := by
        have := Nat.div_eq_of_lt (show x < 2 ^ (k + 1) by omega)
        have e : ((x : Int) / 2 ^ (k + 1)) = ((x / 2 ^ (k + 1) : Nat) : Int) := by simp
        rw [e, this]; omega
      have Hlog := Lib.hid hlog
      clear hlog hpow hlt
      have Hkx := Lib.hid hkx; clear hkx
      have ha1 := H.out.upd (w' := w.alloc (.cells #[.int .i64 0, .int .i64 k, .int .i64 x, .int .i64 (k + 1 : Nat)] 89)) ((Upd.refl NoB _).alloc _) (fun k _ => noB k)
      have hs1 := flds2 w 0 x k (k + 1) ⟨by show k ≤ 1001; omega, by show (-9223372036854775808 : Int) ≤ 0; decide, by show (0 : Int) ≤ 9223372036854775807; decide⟩ ⟨by show k + 1 ≤ 1001; omega, by show (-9223372036854775808 : Int) ≤ x; omega, by show (x : Int) ≤ 9223372036854775807; omega⟩
      have Ha1 := Lib.hid ha1; clear ha1
      have Hs1 := Lib.hid hs1; clear hs1
      go_wp2_with (go_at_call 73; refine (write_res b l v _ _ _ Ha1.out hl Hs1.out (by simp) _ Hb.out (numBits 0 k ++ numBits x (k + 1)) (by simp [fldBits])).mono ?_; rintro e w2 ⟨r, rfl, hr⟩)
      go_ret
      rw [Hlog.out]
      exact WRes.after ((Upd.refl NoB _).alloc _) ⟨r, rfl, hr⟩
end Go.Proofs.Ytdjaileeklhkmaa
