/- product, series and circle of the reference -/
import Derived.Test.YtpmhioaoniijbaaDoorFaw
import Derived.Test.YtpmhioaoniijbaaDoorFca
import Derived.Deep.QuietTactic
import Derived.BigQuiet
namespace Go.Proofs.YtpmhioaoniijbaaDoor
open Go.RowKit Go.Shelf

set_option maxRecDepth 100000 in
theorem product_any (a b : Nat) (w : World) (ha : a ≤ 1152921504606846976) (hb : b ≤ 1152921504606846976) :
    Calls Tryd.prog 87 #[.int .i64 a, .int .i64 b] w fun e w' => e = .returned (.int .i64 (a * b / 1152921504606846976 : Nat)) ∧ w' = w := by
  have pe := prod_eq a b
  obtain ⟨a1, e1⟩ : ∃ x, a / 1073741824 = x := ⟨_, rfl⟩
  obtain ⟨b1, e2⟩ : ∃ x, b / 1073741824 = x := ⟨_, rfl⟩
  obtain ⟨a0, e3⟩ : ∃ x, a % 1073741824 = x := ⟨_, rfl⟩
  obtain ⟨b0, e4⟩ : ∃ x, b % 1073741824 = x := ⟨_, rfl⟩
  rw [e1, e2, e3, e4] at pe
  have i1 : (a : Int) / 1073741824 = (a1 : Int) := by omega
  have i2 : (b : Int) / 1073741824 = (b1 : Int) := by omega
  have i3 : (a : Int) % 1073741824 = (a0 : Int) := by omega
  have i4 : (b : Int) % 1073741824 = (b0 : Int) := by omega
  have m1 := Nat.mul_le_mul (show a1 ≤ 1073741824 by omega) (show b1 ≤ 1073741824 by omega)
  have m2 := Nat.mul_le_mul (show a1 ≤ 1073741824 by omega) (show b0 ≤ 1073741824 by omega)
  have m3 := Nat.mul_le_mul (show a0 ≤ 1073741824 by omega) (show b1 ≤ 1073741824 by omega)
  have m4 := Nat.mul_le_mul (show a0 ≤ 1073741824 by omega) (show b0 ≤ 1073741824 by omega)
  have j1 : (a1 : Int) * b1 = ((a1 * b1 : Nat) : Int) := by simp
  have j2 : (a1 : Int) * b0 = ((a1 * b0 : Nat) : Int) := by simp
  have j3 : (a0 : Int) * b1 = ((a0 * b1 : Nat) : Int) := by simp
  have j4 : (a0 : Int) * b0 = ((a0 * b0 : Nat) : Int) := by simp
  generalize a1 * b1 = p1 at *
  generalize a1 * b0 = p2 at *
  generalize a0 * b1 = p3 at *
  generalize a0 * b0 = p4 at *
  obtain ⟨N, eN⟩ : ∃ N, a * b / 1152921504606846976 = N := ⟨_, rfl⟩
  rw [eN] at pe ⊢
  have w1 : IntKind.i64.wrap ((a1 : Int) * b1) = (p1 : Int) := by rw [j1]; exact IntWalk.i64_in _ (by omega)
  have w2 : IntKind.i64.wrap ((a1 : Int) * b0) = (p2 : Int) := by rw [j2]; exact IntWalk.i64_in _ (by omega)
  have w3 : IntKind.i64.wrap ((a0 : Int) * b1) = (p3 : Int) := by rw [j3]; exact IntWalk.i64_in _ (by omega)
  have w4 : IntKind.i64.wrap ((a0 : Int) * b0) = (p4 : Int) := by rw [j4]; exact IntWalk.i64_in _ (by omega)
  have n1 : (p1 : Int) ≤ 1152921504606846976 := by omega
  have n2 : (p2 : Int) ≤ 1152921504606846976 := by omega
  have n3 : (p3 : Int) ≤ 1152921504606846976 := by omega
  have n4 : (p4 : Int) ≤ 1152921504606846976 := by omega
  have PE := Lib.hid pe
  clear pe e1 e2 e3 e4 m1 m2 m3 m4 j1 j2 j3 j4 eN
  go_enter Tryd.func87, Tryd.ntmps87
  go_wp2
  go_ret
  exact ⟨ret_int (by have := PE.out; omega), rfl⟩
theorem SI.facts {x G : Nat} {tot s sg : Int} {t k f : Nat} (h : SI x G tot s sg t k f) : -1 ≤ sg ∧ sg ≤ 1 ∧ t ≤ 1152921504606846976 ∧ -2305843009213693952 ≤ s - 2 * t ∧ s + 2 * t ≤ 2305843009213693952 ∧ k ≤ G ∧ (-(t : Int) ≤ sg * (t : Int) ∧ sg * (t : Int) ≤ t) := by
  have h1 := h.sg1
  have h4 := h.lo
  have h5 := h.hi
  have h6 := h.kk
  clear h
  refine ⟨by omega, by omega, by omega, h4, h5, by omega, ?_⟩
  rcases h1 with rfl | rfl <;> omega
theorem round_facts (t k x : Nat) (tb : t ≤ 1152921504606846976) (hx : x ≤ 1152921504606846976) (kb : k ≤ 125) (ht : 0 < t) : ∃ A B c z : Nat,
    (∀ w, Calls Tryd.prog 87 #[.int .i64 t, .int .i64 x] w fun e w' => e = .returned (.int .i64 A) ∧ w' = w) ∧ (∀ w, Calls Tryd.prog 87 #[.int .i64 A, .int .i64 x] w fun e w' => e = .returned (.int .i64 B) ∧ w' = w) ∧
    2 ≤ c ∧ c ≤ 20000 ∧ ((k : Int) + 1) * (k + 2) = (c : Int) ∧ (B : Int) / (c : Int) = (z : Int) ∧ z < t ∧ nxt x t k = z ∧ (B : Int) ≤ 1152921504606846976 := by
  have hA := Nat.le_trans (prod_le (t := t) hx) tb
  have hB := Nat.le_trans (prod_le (t := t * x / 1152921504606846976) hx) hA
  have hc2 : 2 ≤ (k + 1) * (k + 2) := Nat.mul_le_mul (show 1 ≤ k + 1 by omega) (show 2 ≤ k + 2 by omega)
  have hc3 : (k + 1) * (k + 2) ≤ 126 * 127 := Nat.mul_le_mul (show k + 1 ≤ 126 by omega) (show k + 2 ≤ 127 by omega)
  have hz : nxt x t k < t := by
    have := nxt_le (t := t) (k := k) hx
    generalize nxt x t k = q at *
    clear hA hB
    omega
  refine ⟨_, _, (k + 1) * (k + 2), _, fun w => product_any t x w tb hx, fun w => product_any _ x w hA hx, hc2, Nat.le_trans hc3 (by decide), by simp, rfl, hz, rfl, Int.ofNat_le.2 hB⟩
set_option maxRecDepth 100000 in
set_option maxHeartbeats 400000 in
theorem series_any (first k0 x : Nat) (w : World) (hf : first ≤ 1152921504606846976) (hk : k0 ≤ 1) (hx : x ≤ 1152921504606846976) :
    Calls Tryd.prog 67 #[.int .i64 first, .int .i64 k0, .int .i64 x] w fun e w' => e = .returned (.int .i64 (ser x 62 first k0 : Nat)) ∧ w' = w := by
  obtain ⟨tot, et⟩ : ∃ tot : Int, ((ser x 62 first k0 : Nat) : Int) = tot := ⟨_, rfl⟩
  have St := Lib.hid (SI.start et hf hk)
  rw [et]
  clear et
  go_enter Tryd.func67, Tryd.ntmps67
  go_wp2_with fail
  go_loop [1, 7, 8, 9] (fun kv sv gv tv => ∃ (s sg : Int) (t k f : Nat), kv = .int .i64 k ∧ sv = .int .i64 s ∧ gv = .int .i64 sg ∧ tv = .int .i64 t ∧ SI x 125 tot s sg t k f) (fun _ _ _ tv => (intOf tv).toNat)
  case atStart => exact ⟨0, 1, first, k0, 62, rfl, rfl, rfl, rfl, St.out⟩
  case round =>
    obtain ⟨s, sg, t, k, f, rfl, rfl, rfl, rfl, hr⟩ := hrel
    by_cases ht : 0 < t
    · obtain ⟨f', hn⟩ := hr.next hx ht
      have Hn := Lib.hid hn; clear hn
      have hr2 := hr.facts
      clear hr
      obtain ⟨g1, g2, tb, sb1, sb2, kb, hu0⟩ := hr2
      obtain ⟨A, B, c, z, p1, p2, cb1, cb2, ec2, w4, zb, enx, B1⟩ := round_facts t k x tb hx kb ht
      rw [enx] at Hn
      have P1 := Lib.hid p1; have P2 := Lib.hid p2; clear p1 p2 enx
      obtain ⟨u, eu⟩ : ∃ u, sg * (t : Int) = u := ⟨_, rfl⟩
      rw [eu] at Hn hu0
      have w1 : IntKind.i64.wrap (sg * (t : Int)) = u := by rw [eu]; exact IntWalk.i64_in _ (by clear ec2 w4 Hn; omega)
      have w1' : wrap64 (sg * (t : Int)) = u := by rw [eu]; exact IntWalk.wrap64_in _ (by clear ec2 w4 Hn; omega)
      clear eu
      have w2 : IntKind.i64.wrap (s + u) = s + u := IntWalk.i64_in _ (by clear ec2 w4 w1 w1' Hn; omega)
      obtain ⟨ka, hka⟩ : ∃ ka : Int, (k : Int) + 1 = ka := ⟨_, rfl⟩
      obtain ⟨kc, hkc⟩ : ∃ kc : Int, (k : Int) + 2 = kc := ⟨_, rfl⟩
      have v1 : IntKind.i64.wrap ((k : Int) + 1) = ka := by rw [hka]; exact IntWalk.i64_in _ (by clear ec2 w4 w1 w1' w2 Hn; omega)
      have v2 : IntKind.i64.wrap ((k : Int) + 2) = kc := by rw [hkc]; exact IntWalk.i64_in _ (by clear ec2 w4 w1 w1' w2 v1 Hn; omega)
      have v1' : wrap64 ((k : Int) + 1) = ka := by rw [hka]; exact IntWalk.wrap64_in _ (by clear ec2 w4 w1 w1' w2 v1 v2 Hn; omega)
      have v2' : wrap64 ((k : Int) + 2) = kc := by rw [hkc]; exact IntWalk.wrap64_in _ (by clear ec2 w4 w1 w1' w2 v1 v2 v1' Hn; omega)
      rw [hka, hkc] at ec2
      have w3 : IntKind.i64.wrap (ka * kc) = (c : Int) := by rw [ec2]; exact IntWalk.i64_in _ (by clear ec2 w4 w1 w1' w2 v1 v2 v1' v2' Hn hka hkc; omega)
      have w3' : wrap64 (ka * kc) = (c : Int) := by rw [ec2]; exact IntWalk.wrap64_in _ (by clear ec2 w4 w1 w1' w2 w3 v1 v2 v1' v2' Hn hka hkc; omega)
      have HKc := Lib.hid hkc
      obtain ⟨ci, hci⟩ : ∃ ci : Int, (c : Int) = ci := ⟨_, rfl⟩
      rw [hci] at w3 w3' w4 ec2
      have c0 : ci ≠ 0 := by clear ec2 w4 w1 w1' w2 w3 w3' v1 v2 v1' v2' hka hkc Hn; omega
      have c1 : (1 : Int) ≤ ci := by clear ec2 w4 w1 w1' w2 w3 w3' v1 v2 v1' v2' hka hkc Hn; omega
      have z1 : (z : Int) ≤ 1152921504606846976 := by clear ec2 w4 w1 w1' w2 w3 w3' v1 v2 v1' v2' hka hkc Hn; omega
      have w5 : wrap64 (z : Int) = (z : Int) := IntWalk.wrap64_in _ (by clear ec2 w4 w1 w1' w2 w3 w3' v1 v2 v1' v2' hka hkc Hn; omega)
      have MM := Lib.hid (show z < t by clear ec2 w4 w1 w1' w2 w3 w3' v1 v2 v1' v2' hka hkc Hn; omega)
      have wq : IntKind.i64.wrap ((B : Int).tdiv ci) = (z : Int) := by
        rw [IntWalk.i64_quo _ _ (by clear ec2 w4 w1 w1' w2 w3 w3' v1 v2 v1' v2' hka hkc Hn; omega)]; exact w4
      have wq2 : wrap64 ((B : Int) / ci) = (z : Int) := by rw [w4]; exact w5
      have WQ := Lib.hid wq2
      clear wq2
      clear ec2 hu0 zb cb1 cb2 tb sb1 sb2 kb hka hkc hci c1 w4 B1
      go_wp2_with fail
      refine (P1.out _).mono ?_
      rintro e w' ⟨rfl, rfl⟩
      go_wp2_with fail
      refine (P2.out _).mono ?_
      rintro e w' ⟨rfl, rfl⟩
      go_wp2
      go_round
      case rel => exact ⟨s + u, -sg, z, k + 2, f', by first | (rw [← HKc.out]; go_num) | go_num, by first | rfl | rw [w2], rfl, by rw [WQ.out], Hn.out⟩
      case measure =>
        have hm := MM.out
        have q := WQ.out
        simp only [intOf, Array.getD_eq_getD_getElem?, List.getElem?_toArray, List.getElem?_cons_succ, List.getElem?_cons_zero, Option.getD_some]
        rw [q, Int.toNat_natCast, Int.toNat_natCast]
        exact hm
    · obtain rfl : t = 0 := by omega
      have E := Lib.hid hr.done; clear hr
      go_wp2
      go_ret
      exact ⟨ret_int E.out, rfl⟩
end Go.Proofs.YtpmhioaoniijbaaDoor
