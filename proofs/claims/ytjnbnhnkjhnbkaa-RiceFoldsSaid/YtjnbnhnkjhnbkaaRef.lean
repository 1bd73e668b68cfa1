/- the reference: Same, Of, the sums -/
import Derived.Test.YtjnbnhnkjhnbkaaOpen
namespace Go.Proofs.Ytjnbnhnkjhnbkaa
open Go.RowKit Go.Shelf

def sameB (xs ys : List Nat) : Bool := decide (xs = ys)
theorem sameB_iff {xs ys : List Nat} : sameB xs ys = true ↔ xs = ys := decide_eq_true_iff
theorem sameB_self (xs : List Nat) : sameB xs xs = true := sameB_iff.2 rfl

set_option maxRecDepth 100000 in
set_option maxHeartbeats 1000000 in
theorem same_any (sa sb : Value) (xs ys : List Nat) (w : World) (ha : Bytes w sa xs) (hb : Bytes w sb ys) (hl : xs.length ≤ 1099511627776) :
    Calls Try.prog 30 #[sa, sb] w fun e w' => e = .returned (.bool (sameB xs ys)) ∧ ∃ n, w' = w.drewN n := by
  obtain ⟨a255, a, ca, rfl, _, ha⟩ := ha
  obtain ⟨b255, b, cb, rfl, _, hb⟩ := hb
  have HA := Lib.hid ha; clear ha
  have HB := Lib.hid hb; clear hb
  have A2 := Lib.hid a255; clear a255
  have B2 := Lib.hid b255; clear b255
  by_cases hlen : xs.length = ys.length
  · have hlb : ((xs.length : Int) != (ys.length : Int)) = false := by simp; omega
    have Hlen := Lib.hid hlen; clear hlen
    go_enter Try.func30, Try.ntmps30
    go_wp2_with fail
    go_loopw [13] (fun i wr => ∃ (k n : Nat), k ≤ xs.length ∧ i = .int .i64 k ∧ (∀ j, j < k → xs[j]? = ys[j]?) ∧ wr = w.drewN n) (fun i _ => xs.length - (intOf i).toNat)
    case atStart => exact ⟨0, 0, Nat.zero_le _, rfl, fun j hj => by omega, rfl⟩
    case round =>
      obtain ⟨k, n, hk, rfl, heq, rfl⟩ := hrel
      have Heq := Lib.hid heq; clear heq
      by_cases hlt : k < xs.length
      · have hltb : k < ys.length := by have := Hlen.out; omega
        rcases HA.out with hz | ⟨ba, oa, rfl, hca⟩
        · subst hz; simp at hlt
        rcases HB.out with hz | ⟨bb, ob, rfl, hcb⟩
        · subst hz; simp at hltb
        have d1 := hca k hlt
        have d2 := hcb k hltb
        have g1 : xs[k]? = some (xs.getD k 0) := by simp [List.getD_eq_getElem?_getD, hlt]
        have g2 : ys[k]? = some (ys.getD k 0) := by simp [List.getD_eq_getElem?_getD, hltb]
        have q1 : (k : Int) < xs.length := by omega
        have q2 : (k : Int) < ys.length := by omega
        generalize xs.getD k 0 = x at *
        generalize ys.getD k 0 = y at *
        have G1 := Lib.hid g1; clear g1
        have G2 := Lib.hid g2; clear g2
        clear hca hcb
        by_cases hxy : x = y
        · subst hxy
          have hne : ((x : Int) != (x : Int)) = false := by simp
          go_wp2
          go_quiet (fail)
          go_wp2
          go_roundw
          case rel =>
            refine ⟨k + 1, n + nq, by omega, by go_num, fun j hj => ?_, rfl⟩
            rcases Nat.lt_or_ge j k with h | h
            · exact Heq.out j h
            · obtain rfl : j = k := by omega
              rw [G1.out, G2.out]
          case measure => simp [intOf]; omega
        · have hne : ((x : Int) != (y : Int)) = true := by simp; omega
          have hf : sameB xs ys = false := decide_eq_false (fun e => by
            have h1 := G1.out; have h2 := G2.out
            rw [e, h2] at h1
            injection h1 with h1
            exact hxy h1.symm)
          have Hf := Lib.hid hf; clear hf
          go_wp2
          go_quiet (fail)
          go_wp2
          go_ret
          exact ⟨by rw [Hf.out]; rfl, n + nq, by rw [World.drewN_drewN]⟩
      · obtain rfl : k = xs.length := by omega
        have hf : sameB xs ys = true := sameB_iff.2 (List.ext_getElem? fun j => by
          rcases Nat.lt_or_ge j xs.length with h | h
          · exact Heq.out j h
          · rw [List.getElem?_eq_none h, List.getElem?_eq_none (by have := Hlen.out; omega)])
        have Hf := Lib.hid hf; clear hf
        go_wp2
        go_ret
        exact ⟨by rw [Hf.out]; rfl, n, rfl⟩
  · have hlb : ((xs.length : Int) != (ys.length : Int)) = true := by simp; omega
    have hf : sameB xs ys = false := decide_eq_false (fun e => hlen (by rw [e]))
    have Hf := Lib.hid hf; clear hf hlen
    go_enter Try.func30, Try.ntmps30
    go_wp2
    go_ret
    exact ⟨by rw [Hf.out]; rfl, 0, rfl⟩
end Go.Proofs.Ytjnbnhnkjhnbkaa
