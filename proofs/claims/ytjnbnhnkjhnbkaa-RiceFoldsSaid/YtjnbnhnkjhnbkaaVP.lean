/- the calls of the reference's writer -/
import Derived.Test.YtjnbnhnkjhnbkaaVN
namespace Go.Proofs.Ytjnbnhnkjhnbkaa
open Go.RowKit Go.Shelf

theorem VAt.later {w w' : World} {b : Nat} {l : List Nat} {v : Value} (h : VAt w b l v) (u : Upd NoB w w') : VAt w' b l v := h.upd u (fun k _ => noB k)
set_option maxRecDepth 100000 in
set_option maxHeartbeats 1000000 in
theorem vPut_any (b : Nat) (l : List Nat) (v : Value) (x n : Int) (w : World) (h : VAt w b l v) (hl : l.length ≤ 1048576) :
    Calls Try.prog 82 #[.pointer (some ⟨b, 0, none⟩), .int .i64 x, .int .i64 n] w fun e w' => VRes b v w l (putBad x n) (numBits x n.toNat) e w' := by
  have H := Lib.hid h; clear h
  by_cases h1 : n < 0
  · have hb : putBad x n := fun hh => by omega
    have Hb := Lib.hid hb; clear hb
    go_enter Try.func82, Try.ntmps82
    go_wp2
    go_ret
    exact VRes.bad Hb.out
  by_cases h2 : 32 < n
  · have hb : putBad x n := fun hh => by omega
    have Hb := Lib.hid hb; clear hb
    go_enter Try.func82, Try.ntmps82
    go_wp2
    go_ret
    exact VRes.bad Hb.out
  by_cases h3 : x < 0
  · have hb : putBad x n := fun hh => by omega
    have Hb := Lib.hid hb; clear hb
    go_enter Try.func82, Try.ntmps82
    go_wp2
    go_ret
    exact VRes.bad Hb.out
  obtain ⟨m, rfl⟩ := Int.eq_ofNat_of_zero_le (show 0 ≤ n by omega)
  have hp : (2 : Int) ^ m ≤ 2 ^ 32 := by
    have := Nat.pow_le_pow_right (n := 2) (by decide) (show m ≤ 32 by omega)
    exact_mod_cast this
  have hp' : (2 : Int) ^ 32 = 4294967296 := by decide
  rw [hp'] at hp
  have h0 : (0 : Int) ≤ 2 ^ m := Int.le_of_lt (Int.pow_pos (by decide))
  by_cases h4 : x < 2 ^ m
  · have hb : ¬ putBad x m := fun hh => hh ⟨by omega, by omega, by omega, h4⟩
    have Hb := Lib.hid hb; clear hb
    have hx1 : x ≤ 9223372036854775807 := by omega
    clear hp'
    go_enter Try.func82, Try.ntmps82
    go_wp2_with fail
    refine (qnumber_any x m w (by omega) (by omega) hx1).mono ?_
    rintro e w2 ⟨g, c, rfl, r2, u2, _⟩
    have R2 := Lib.hid r2.bytes; have U2 := Lib.hid u2; clear r2 u2
    go_wp2_with fail
    have hput := vput_any b l v g 0 c (numBits x m) w2 (H.out.later U2.out) hl (by rw [numBits_length]; exact R2.out) (numBits_01 _ _) (by rw [numBits_length]; omega) _ Hb.out
    rw [numBits_length] at hput
    refine hput.mono ?_
    rintro e w3 ⟨r, rfl, hr⟩
    have Hr := Lib.hid hr; clear hr hput
    go_wp2_with fail
    go_ret
    exact VRes.after U2.out ⟨r, rfl, Hr.out⟩
  · have hb : putBad x m := fun hh => h4 hh.2.2.2
    have h4' : (2 : Int) ^ m ≤ x := by omega
    have Hb := Lib.hid hb; clear hb
    clear hp' h4
    go_enter Try.func82, Try.ntmps82
    go_wp2
    go_ret
    exact VRes.bad Hb.out

set_option maxRecDepth 100000 in
set_option maxHeartbeats 1000000 in
theorem vUnary_any (b : Nat) (l : List Nat) (v : Value) (n : Int) (w : World) (h : VAt w b l v) (hl : l.length ≤ 1048576) :
    Calls Try.prog 96 #[.pointer (some ⟨b, 0, none⟩), .int .i64 n] w fun e w' => VRes b v w l (unaryBad n) (numBits 0 n.toNat ++ numBits 1 1) e w' := by
  have H := Lib.hid h; clear h
  by_cases h1 : n < 0
  · have hb : unaryBad n := fun hh => by omega
    have Hb := Lib.hid hb; clear hb
    go_enter Try.func96, Try.ntmps96
    go_wp2
    go_ret
    exact VRes.bad Hb.out
  by_cases h2 : 1000 < n
  · have hb : unaryBad n := fun hh => by omega
    have Hb := Lib.hid hb; clear hb
    go_enter Try.func96, Try.ntmps96
    go_wp2
    go_ret
    exact VRes.bad Hb.out
  obtain ⟨m, rfl⟩ := Int.eq_ofNat_of_zero_le (show 0 ≤ n by omega)
  have hb : ¬ unaryBad (m : Int) := fun hh => hh ⟨by omega, by omega⟩
  have Hb := Lib.hid hb; clear hb
  go_enter Try.func96, Try.ntmps96
  go_wp2_with fail
  refine (qun_any m w (by omega)).mono ?_
  rintro e w2 ⟨g, c, rfl, r2, u2, _⟩
  have R2 := Lib.hid r2.bytes; have U2 := Lib.hid u2; clear r2 u2
  go_wp2_with fail
  have hln : (numBits 0 m ++ numBits 1 1).length = m + 1 := by rw [List.length_append, numBits_length, numBits_length]
  have hput := vput_any b l v g 0 c (numBits 0 m ++ numBits 1 1) w2 (H.out.later U2.out) hl (by rw [hln]; exact R2.out) (fun y hy => (List.mem_append.1 hy).elim (numBits_01 _ _ y) (numBits_01 _ _ y)) (by rw [hln]; omega) _ Hb.out
  rw [hln] at hput
  refine hput.mono ?_
  rintro e w3 ⟨r, rfl, hr⟩
  have Hr := Lib.hid hr; clear hr hput hln
  go_wp2_with fail
  go_ret
  exact VRes.after U2.out ⟨r, rfl, Hr.out⟩

set_option maxRecDepth 100000 in
set_option maxHeartbeats 1000000 in
theorem vAppend_any (b : Nat) (l : List Nat) (v : Value) (sv : Value) (zs : List Nat) (n : Int) (w : World) (h : VAt w b l v) (hl : l.length ≤ 1048576) (hs : Bytes w sv zs) (hz : zs.length ≤ 1099511627776) :
    Calls Try.prog 25 #[.pointer (some ⟨b, 0, none⟩), sv, .int .i64 n] w fun e w' => VRes b v w l (appendBad zs n) (bitsOf zs 0 n.toNat) e w' := by
  obtain ⟨a, cap, rfl⟩ : ∃ a cap, sv = .slice a zs.length cap := by obtain ⟨_, a, cap, rfl, _⟩ := hs; exact ⟨a, cap, rfl⟩
  have H := Lib.hid h; have HS := Lib.hid hs; clear h hs
  by_cases h1 : n < 0
  · have hb : appendBad zs n := fun hh => by omega
    have Hb := Lib.hid hb; clear hb
    go_enter Try.func25, Try.ntmps25
    go_wp2
    go_ret
    exact VRes.bad Hb.out
  by_cases h2 : 8 * (zs.length : Int) < n
  · have hb : appendBad zs n := fun hh => by omega
    have Hb := Lib.hid hb; clear hb
    go_enter Try.func25, Try.ntmps25
    go_wp2
    go_ret
    exact VRes.bad Hb.out
  obtain ⟨m, rfl⟩ := Int.eq_ofNat_of_zero_le (show 0 ≤ n by omega)
  have hb : ¬ appendBad zs (m : Int) := fun hh => hh ⟨by omega, by omega⟩
  have hmz : m ≤ 8 * zs.length := by omega
  have Hb := Lib.hid hb; have Hmz := Lib.hid hmz; clear hb hmz
  go_enter Try.func25, Try.ntmps25
  go_wp2_with fail
  refine (of_any_at _ zs m w HS.out Hmz.out hz).mono ?_
  rintro e w2 ⟨g, c, rfl, r2, u2, _⟩
  have R2 := Lib.hid r2.bytes; have U2 := Lib.hid u2; clear r2 u2
  go_wp2_with fail
  have hput := vput_any b l v g 0 c (bitsOf zs 0 m) w2 (H.out.later U2.out) hl (by rw [bitsOf_length]; exact R2.out) (bitsOf_01 _ _ _) (by rw [bitsOf_length]; have := Hmz.out; omega) _ Hb.out
  rw [bitsOf_length] at hput
  refine hput.mono ?_
  rintro e w3 ⟨r, rfl, hr⟩
  have Hr := Lib.hid hr; clear hr hput
  go_wp2_with fail
  go_ret
  exact VRes.after U2.out ⟨r, rfl, Hr.out⟩
end Go.Proofs.Ytjnbnhnkjhnbkaa
