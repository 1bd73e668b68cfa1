/- linear: the reference's products -/
import Derived.Test.YtopjjdfnnjgnlaaTXm
import Derived.BigQuiet
namespace Go.Proofs.Ytopjjdfnnjgnlaa
open Go.RowKit Go.Shelf

set_option maxRecDepth 100000 in
set_option maxHeartbeats 4000000 in
theorem rproducts_any (sv : Value) (xs : List Int) (j : Nat) (w : World) (h : Ints w sv xs) (hin : inM 2097152 xs = true) (hl : xs.length ≤ 8192) (hj : j ≤ 12) : Calls Try.prog 75 #[sv, .int .i64 (j : Int)] w fun e w' => e = .returned (.int .i64 (dotL xs (xs.drop j))) ∧ ∃ m, w' = w.drewN m := by
  have HX := Lib.hid h
  have HP := Lib.hid (fun k => like_part hin hl j k)
  have HSt := Lib.hid (fun k (hk : k + j < xs.length) => (show ∃ x y, xs[k]? = some x ∧ xs[k + j]? = some y ∧ (-4611686018427387904 ≤ x * y ∧ x * y ≤ 4611686018427387904) ∧ dotK xs (xs.drop j) (k + 1) = dotK xs (xs.drop j) k + x * y by
    have e1 : xs[k]? = some (xs.getD k 0) := getD_of (by omega)
    have e2 : xs[k + j]? = some (xs.getD (k + j) 0) := getD_of hk
    have e3 : (xs.drop j)[k]? = some (xs.getD (k + j) 0) := by rw [List.getElem?_drop, Nat.add_comm j k]; exact e2
    exact ⟨_, _, e1, e2, like_mul (m := j) hin e1 e3, dotK_succ _ _ _ _ _ e1 e3⟩))
  have HAll := Lib.hid (show dotK xs (xs.drop j) (xs.length - j) = dotL xs (xs.drop j) by
    have := dotK_all xs (xs.drop j)
    rw [List.length_drop, Nat.min_eq_right (Nat.sub_le _ j)] at this
    exact this)
  have HZ := Lib.hid (show dotK xs (xs.drop j) 0 = 0 by unfold dotK; rw [List.take_zero, dotL_nil])
  obtain ⟨a, cap, rfl⟩ := h.form
  obtain ⟨DK, hDK⟩ : ∃ DK, dotK xs (xs.drop j) = DK := ⟨_, rfl⟩
  obtain ⟨DL, hDL⟩ : ∃ DL, dotL xs (xs.drop j) = DL := ⟨_, rfl⟩
  rw [hDK] at HP HSt HAll HZ
  rw [hDL] at HAll ⊢
  obtain ⟨L, hL⟩ : ∃ L, xs.length = L := ⟨_, rfl⟩
  rw [hL] at HX HSt HAll hl ⊢
  clear h hin hDK hDL hL
  go_enter Try.func75, Try.ntmps75
  go_wp2_with fail
  go_loopw [5, 6] (fun s i wr => ∃ k mq : Nat, k ≤ L - j ∧ i = .int .i64 k ∧ s = .int .i64 (DK k) ∧ wr = w.drewN mq) (fun _ i _ => L - (intOf i).toNat)
  case atStart => exact ⟨0, 0, Nat.zero_le _, rfl, by rw [HZ.out], rfl⟩
  case round =>
    obtain ⟨k, mq, hk, rfl, rfl, rfl⟩ := hrel
    by_cases hlt : k + j < L
    · obtain ⟨x, y, hx, hy, hq, hst⟩ := HSt.out k hlt
      obtain ⟨bb, off, ha, c0⟩ := HX.out.cellAt hx
      obtain ⟨bb', off', ha', c1⟩ := HX.out.cellAt hy
      subst ha
      cases ha'
      have p0 := HP.out k
      have p1 := HP.out (k + 1)
      rw [hst] at p1
      obtain ⟨q, hqq⟩ : ∃ q, x * y = q := ⟨_, rfl⟩
      rw [hqq] at hq hst p1
      have HSt1 := Lib.hid hst
      obtain ⟨k1, hk1⟩ : ∃ k1, k + j = k1 := ⟨_, rfl⟩
      rw [hk1] at c1
      generalize DK k = S at *
      have e1 : wrap64 (x * y) = q := by rw [hqq]; exact IntWalk.wrap64_in _ (by omega)
      have e2 : IntKind.i64.wrap (x * y) = q := by rw [hqq]; exact IntWalk.i64_in _ (by clear e1; omega)
      have e3 : wrap64 (S + q) = S + q := IntWalk.wrap64_in _ (by clear e1 e2; omega)
      have e4 : IntKind.i64.wrap (S + q) = S + q := IntWalk.i64_in _ (by clear e1 e2 e3; omega)
      have e5 : wrap64 ((k : Int) + (j : Int)) = (k1 : Int) := by rw [IntWalk.wrap64_in _ (by clear e1 e2 e3 e4; omega)]; clear e1 e2 e3 e4; omega
      have e6 : IntKind.i64.wrap ((k : Int) + (j : Int)) = (k1 : Int) := by rw [IntWalk.i64_in _ (by clear e1 e2 e3 e4 e5; omega)]; clear e1 e2 e3 e4 e5; omega
      have l1 : k1 < L := by clear e1 e2 e3 e4 e5 e6; omega
      have l0 : k < L := by clear e1 e2 e3 e4 e5 e6; omega
      have l1i : (k1 : Int) < (L : Int) := by clear e1 e2 e3 e4 e5 e6; omega
      have l0i : (k : Int) < (L : Int) := by clear e1 e2 e3 e4 e5 e6; omega
      have HR := Lib.hid (show k + 1 ≤ L - j by clear e1 e2 e3 e4 e5 e6; omega)
      clear hx hy hq hst p0 p1 hqq hk1 hlt hk
      go_wp2
      go_quiet (fail)
      go_wp2
      go_roundw
      case rel => exact ⟨k + 1, mq + nq, HR.out, by go_num, by rw [HSt1.out], rfl⟩
      case measure => clear e1 e2 e3 e4 e5 e6; simp [intOf]; omega
    · have hkj : k = L - j := by omega
      have e7 : wrap64 ((k : Int) + (j : Int)) = (k : Int) + (j : Int) := IntWalk.wrap64_in _ (by omega)
      have e8 : IntKind.i64.wrap ((k : Int) + (j : Int)) = (k : Int) + (j : Int) := IntWalk.i64_in _ (by clear e7; omega)
      have l2 : ((k : Int) + (j : Int) < (L : Int)) = False := eq_false (by clear e7 e8; omega)
      have l3 : decide ((k : Int) + (j : Int) < (L : Int)) = false := decide_eq_false (by clear e7 e8; omega)
      have HDk := Lib.hid (show DK k = DL by rw [hkj]; exact HAll.out)
      rw [HDk.out]
      clear hkj hlt hk
      go_wp2_with fail
      go_ret
      exact ⟨rfl, mq, rfl⟩
end Go.Proofs.Ytopjjdfnnjgnlaa
