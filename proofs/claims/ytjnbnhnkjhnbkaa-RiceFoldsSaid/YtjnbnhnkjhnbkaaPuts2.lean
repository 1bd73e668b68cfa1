/- the writer's calls, more -/
import Derived.Test.YtjnbnhnkjhnbkaaPuts
namespace Go.Proofs.Ytjnbnhnkjhnbkaa
open Go.RowKit Go.Shelf

theorem pow2_le {m k : Nat} (h : m ≤ k) : (2 : Int) ^ m ≤ 2 ^ k := by
  have := Nat.pow_le_pow_right (n := 2) (by decide) h
  exact_mod_cast this
theorem pow2_pos (m : Nat) : (0 : Int) < 2 ^ m := Int.pow_pos (by decide)

theorem new_any (w : World) : Calls Try.prog 23 #[] w fun e w' => e = .returned (.pointer (some ⟨w.heap.size, 0, none⟩)) ∧ w' = w.alloc (.cells #[.slice none 0 0, .int .i64 0] 79) := by
  go_enter Try.func23, Try.ntmps23
  go_wp2
  go_ret
  exact ⟨rfl, rfl⟩
theorem WAt_new (w : World) : WAt (w.alloc (.cells #[.slice none 0 0, .int .i64 0] 79)) w.heap.size [] (.slice none 0 0) :=
  ⟨heap_alloc_new w _, World.ownsRow_nil _ _ _ _, bit01_nil⟩

def unaryBad (n : Int) : Prop := ¬ (0 ≤ n ∧ n ≤ 1000)
set_option maxRecDepth 100000 in
set_option maxHeartbeats 1000000 in
theorem unary_any (b : Nat) (l : List Nat) (v : Value) (n : Int) (w : World) (h : WAt w b l v) (hl : l.length ≤ 1048576) :
    Calls Try.prog 72 #[.pointer (some ⟨b, 0, none⟩), .int .i64 n] w fun e w' => WRes b v w l (unaryBad n) (numBits 0 n.toNat ++ numBits 1 1) e w' := by
  by_cases h1 : n < 0
  · have hb : unaryBad n := fun hh => by omega
    have Hb := Lib.hid hb; clear hb h
    go_enter Try.func72, Try.ntmps72
    go_wp2
    go_ret
    exact WRes.bad Hb.out
  by_cases h2 : 1000 < n
  · have hb : unaryBad n := fun hh => by omega
    have Hb := Lib.hid hb; clear hb h
    go_enter Try.func72, Try.ntmps72
    go_wp2
    go_ret
    exact WRes.bad Hb.out
  obtain ⟨m, rfl⟩ := Int.eq_ofNat_of_zero_le (show 0 ≤ n by omega)
  have hm : m ≤ 1000 := by omega
  have hb : ¬ unaryBad (m : Int) := fun hh => hh ⟨by omega, by omega⟩
  have Hb := Lib.hid hb; clear hb
  have ha1 := h.upd (w' := w.alloc (.cells #[.int .i64 0, .int .i64 m, .int .i64 1, .int .i64 (1 : Nat)] 113)) ((Upd.refl NoB _).alloc _) (fun k _ => noB k)
  have hs1 := flds2 w 0 1 m 1 ⟨by show m ≤ 1001; omega, by show (-9223372036854775808 : Int) ≤ 0; decide, by show (0 : Int) ≤ 9223372036854775807; decide⟩ (by decide)
  have Ha1 := Lib.hid ha1; clear ha1 h
  have Hs1 := Lib.hid hs1; clear hs1
  go_enter Try.func72, Try.ntmps72
  go_wp2_with (go_at_call 95; refine (write_res b l v _ _ _ Ha1.out hl Hs1.out (by simp) _ Hb.out (numBits 0 m ++ numBits 1 1) (by simp [fldBits])).mono ?_; rintro e w2 ⟨r, rfl, hr⟩)
  go_ret
  exact WRes.after ((Upd.refl NoB _).alloc _) ⟨r, rfl, hr⟩

def signedBad (x n : Int) : Prop := ¬ (1 ≤ n ∧ n ≤ 32 ∧ -2 ^ (n.toNat - 1) ≤ x ∧ x < 2 ^ (n.toNat - 1))
def gammaBad (n : Int) : Prop := ¬ (1 ≤ n ∧ n < 2097152)
theorem log2_up {x k : Nat} (h1 : 2 ^ k ≤ x) (h2 : x < 2 ^ (k + 1)) : Nat.log2 x = k := by
  have hx : x ≠ 0 := by have := Nat.two_pow_pos k; omega
  exact (Nat.log2_eq_iff hx).2 ⟨h1, h2⟩
end Go.Proofs.Ytjnbnhnkjhnbkaa
