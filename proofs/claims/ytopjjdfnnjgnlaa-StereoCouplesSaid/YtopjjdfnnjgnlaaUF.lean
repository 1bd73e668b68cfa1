/- stereo: costs, gainOf -/
import Derived.Test.YtopjjdfnnjgnlaaUE
namespace Go.Proofs.Ytopjjdfnnjgnlaa
open Go.RowKit Go.Shelf

set_option maxRecDepth 100000 in
set_option maxHeartbeats 4000000 in
theorem costI_any (b off n cap : Nat) (p : Nat → Int × Int) (w : World) (h : PrsA w b off p n) (hn : n ≤ 128) (hp : ∀ i, InP 2097152 (p i)) :
    Calls Try.prog 88 #[.slice (some ⟨b, off, none⟩) n cap, .func (.func 89) #[] #[]] w fun r w' => r = .returned (.int .i64 (sm (fun t => csP ( (p t))) n)) ∧ Upd NoB w w' := by
  have H := Lib.hid h
  have HB := Lib.hid (fun k => sm_bd (A := 0) (B := 32256) (g := fun t => csP ( (p t))) (n := k) (fun i _ => csP_bd ((hp i).mono (by decide))))
  have HS := Lib.hid (fun k => sm_succ (fun t => csP ( (p t))) k)
  have HP := Lib.hid hp
  clear h hp
  go_enter Try.func88, Try.ntmps88
  go_wp2_with fail
  go_loopw [5, 11] (fun s i wr => ∃ k : Nat, k ≤ n ∧ i = .int .i64 k ∧ s = .int .i64 (sm (fun t => csP ( (p t))) k) ∧ Upd NoB w wr) (fun _ i _ => n - (intOf i).toNat)
  case atStart => exact ⟨0, Nat.zero_le _, rfl, rfl, Upd.refl _ _⟩
  case round =>
    obtain ⟨k, hk, rfl, rfl, hu⟩ := hrel
    have HU := Lib.hid hu
    by_cases hlt : k < n
    · obtain ⟨c0, c1⟩ := (H.out.later hu) k hlt
      have hIn := HP.out k
      have HC := Lib.hid (fun w => pItself_any (p k).1 (p k).2 w)
      have hb := HB.out k
      have hs := HS.out k
      have l1 := lgA_bd (c := ( (p k)).1) (by have := hIn.mono (B := 1073741824) (by decide); exact this.1)
      have l2 := lgA_bd (c := ( (p k)).2) (by have := hIn.mono (B := 1073741824) (by decide); exact this.2)
      have HL1 := Lib.hid (fun w => logOf_any ( (p k)).1 w (by have := hIn.mono (B := 1073741824) (by decide); exact this.1))
      have HL2 := Lib.hid (fun w => logOf_any ( (p k)).2 w (by have := hIn.mono (B := 1073741824) (by decide); exact this.2))
      have hcs : csP ( (p k)) = lgA ( (p k)).1 + lgA ( (p k)).2 := rfl
      rw [hcs] at hs
      obtain ⟨q1, hq1⟩ : ∃ q, lgA ( (p k)).1 = q := ⟨_, rfl⟩
      obtain ⟨q2, hq2⟩ : ∃ q, lgA ( (p k)).2 = q := ⟨_, rfl⟩
      rw [hq1] at l1 hs HL1
      rw [hq2] at l2 hs HL2
      have HSu := Lib.hid hs
      clear hcs hq1 hq2 hIn hs
      
      generalize (p k).1 = x at *
      generalize (p k).2 = y at *
      generalize sm (fun t => csP ( (p t))) k = S at *
      have hS1 : S ≤ 32256 * 128 := by omega
      have hS0 : 0 ≤ S := by omega
      clear hu hb
      go_wp2_with fail
      refine (HC.out _).mono ?_
      rintro e w2 ⟨rfl, u2⟩
      have U2 := Lib.hid ((HU.out.alloc (.cells #[.int .i64 x, .int .i64 y] 66)).then u2)
      clear u2
      go_wp2_with fail
      have hb3 := heap_alloc_new w2 (.cells #[.int .i64 x, .int .i64 y] 66)
      have u3 : Upd NoB w2 (w2.alloc (.cells #[.int .i64 x, .int .i64 y] 66)) := (Upd.refl _ _).alloc _
      have U3 := Lib.hid (U2.out.then u3)
      generalize w2.alloc (.cells #[.int .i64 x, .int .i64 y] 66) = w3 at *
      generalize w2.heap.size = g3 at *
      have B3 := Lib.hid hb3
      have d0 := cell_of_block0 hb3
      have d1 := cell_of_block1 hb3
      have e0 := cell_of_block0 (show w3.drew.heap[g3]? = _ from hb3)
      have e1 := cell_of_block1 (show w3.drew.heap[g3]? = _ from hb3)
      have z1 : wrap64 (q1 + q2) = q1 + q2 := IntWalk.wrap64_in _ (by omega)
      have z2 : IntKind.i64.wrap (q1 + q2) = q1 + q2 := IntWalk.i64_in _ (by omega)
      have z3 : wrap64 (S + (q1 + q2)) = S + (q1 + q2) := IntWalk.wrap64_in _ (by omega)
      have z4 : IntKind.i64.wrap (S + (q1 + q2)) = S + (q1 + q2) := IntWalk.i64_in _ (by omega)
      have p1 : (k : Int) < n := by omega
      have hn8 : (n : Int) ≤ 128 := by omega
      clear hb3 u3 l1 l2 hS0 hS1 c0 c1
      go_region_with (first
        | (go_at_call 111; (with_reducible refine (HL1.out _).mono ?_); rintro e w4 ⟨rfl, u4⟩; have U4 := Lib.hid (show Upd NoB w w4 from (U3.out.drew).then u4); have hb4 := u4.heap (show w3.drew.heap[g3]? = _ from B3.out) (noB _); have f0 := cell_of_block0 hb4; have f1 := cell_of_block1 hb4; clear u4 hb4)
        | (go_at_call 111; (with_reducible refine (HL2.out _).mono ?_); rintro e w5 ⟨rfl, u5⟩; have U5 := Lib.hid (show Upd NoB w w5 from U4.out.then u5); clear u5))
      all_goals
        go_wp2_with fail
        go_roundw
        case rel => exact ⟨k + 1, by omega, by go_num, by rw [HSu.out], U5.out⟩
        case measure => simp [intOf]; omega
    · obtain rfl : k = n := by omega
      clear hlt hu
      go_wp2_with fail
      go_ret
      exact ⟨rfl, HU.out⟩
set_option maxRecDepth 100000 in
set_option maxHeartbeats 4000000 in
theorem costM_any (b off n cap : Nat) (p : Nat → Int × Int) (w : World) (h : PrsA w b off p n) (hn : n ≤ 128) (hp : ∀ i, InP 2097152 (p i)) :
    Calls Try.prog 88 #[.slice (some ⟨b, off, none⟩) n cap, .func (.func 59) #[] #[]] w fun r w' => r = .returned (.int .i64 (sm (fun t => csP (midP (p t))) n)) ∧ Upd NoB w w' := by
  have H := Lib.hid h
  have HB := Lib.hid (fun k => sm_bd (A := 0) (B := 32256) (g := fun t => csP (midP (p t))) (n := k) (fun i _ => csP_bd ((mid_in (hp i)).mono (by decide))))
  have HS := Lib.hid (fun k => sm_succ (fun t => csP (midP (p t))) k)
  have HP := Lib.hid hp
  clear h hp
  go_enter Try.func88, Try.ntmps88
  go_wp2_with fail
  go_loopw [5, 11] (fun s i wr => ∃ k : Nat, k ≤ n ∧ i = .int .i64 k ∧ s = .int .i64 (sm (fun t => csP (midP (p t))) k) ∧ Upd NoB w wr) (fun _ i _ => n - (intOf i).toNat)
  case atStart => exact ⟨0, Nat.zero_le _, rfl, rfl, Upd.refl _ _⟩
  case round =>
    obtain ⟨k, hk, rfl, rfl, hu⟩ := hrel
    have HU := Lib.hid hu
    by_cases hlt : k < n
    · obtain ⟨c0, c1⟩ := (H.out.later hu) k hlt
      have hIn := HP.out k
      have HC := Lib.hid (fun w => pMid_any (p k) w (hIn.mono (by decide)))
      have hb := HB.out k
      have hs := HS.out k
      have l1 := lgA_bd (c := (midP (p k)).1) (by have := (mid_in hIn).mono (B := 1073741824) (by decide); exact this.1)
      have l2 := lgA_bd (c := (midP (p k)).2) (by have := (mid_in hIn).mono (B := 1073741824) (by decide); exact this.2)
      have HL1 := Lib.hid (fun w => logOf_any (midP (p k)).1 w (by have := (mid_in hIn).mono (B := 1073741824) (by decide); exact this.1))
      have HL2 := Lib.hid (fun w => logOf_any (midP (p k)).2 w (by have := (mid_in hIn).mono (B := 1073741824) (by decide); exact this.2))
      have hcs : csP (midP (p k)) = lgA (midP (p k)).1 + lgA (midP (p k)).2 := rfl
      rw [hcs] at hs
      obtain ⟨q1, hq1⟩ : ∃ q, lgA (midP (p k)).1 = q := ⟨_, rfl⟩
      obtain ⟨q2, hq2⟩ : ∃ q, lgA (midP (p k)).2 = q := ⟨_, rfl⟩
      rw [hq1] at l1 hs HL1
      rw [hq2] at l2 hs HL2
      have HSu := Lib.hid hs
      clear hcs hq1 hq2 hIn hs
      generalize (midP (p k)).1 = a1 at *
      generalize (midP (p k)).2 = a2 at *
      generalize (p k).1 = x at *
      generalize (p k).2 = y at *
      generalize sm (fun t => csP (midP (p t))) k = S at *
      have hS1 : S ≤ 32256 * 128 := by omega
      have hS0 : 0 ≤ S := by omega
      clear hu hb
      go_wp2_with fail
      refine (HC.out _).mono ?_
      rintro e w2 ⟨rfl, u2⟩
      have U2 := Lib.hid ((HU.out.alloc (.cells #[.int .i64 x, .int .i64 y] 66)).then u2)
      clear u2
      go_wp2_with fail
      have hb3 := heap_alloc_new w2 (.cells #[.int .i64 a1, .int .i64 a2] 66)
      have u3 : Upd NoB w2 (w2.alloc (.cells #[.int .i64 a1, .int .i64 a2] 66)) := (Upd.refl _ _).alloc _
      have U3 := Lib.hid (U2.out.then u3)
      generalize w2.alloc (.cells #[.int .i64 a1, .int .i64 a2] 66) = w3 at *
      generalize w2.heap.size = g3 at *
      have B3 := Lib.hid hb3
      have d0 := cell_of_block0 hb3
      have d1 := cell_of_block1 hb3
      have e0 := cell_of_block0 (show w3.drew.heap[g3]? = _ from hb3)
      have e1 := cell_of_block1 (show w3.drew.heap[g3]? = _ from hb3)
      have z1 : wrap64 (q1 + q2) = q1 + q2 := IntWalk.wrap64_in _ (by omega)
      have z2 : IntKind.i64.wrap (q1 + q2) = q1 + q2 := IntWalk.i64_in _ (by omega)
      have z3 : wrap64 (S + (q1 + q2)) = S + (q1 + q2) := IntWalk.wrap64_in _ (by omega)
      have z4 : IntKind.i64.wrap (S + (q1 + q2)) = S + (q1 + q2) := IntWalk.i64_in _ (by omega)
      have p1 : (k : Int) < n := by omega
      have hn8 : (n : Int) ≤ 128 := by omega
      clear hb3 u3 l1 l2 hS0 hS1 c0 c1
      go_region_with (first
        | (go_at_call 111; (with_reducible refine (HL1.out _).mono ?_); rintro e w4 ⟨rfl, u4⟩; have U4 := Lib.hid (show Upd NoB w w4 from (U3.out.drew).then u4); have hb4 := u4.heap (show w3.drew.heap[g3]? = _ from B3.out) (noB _); have f0 := cell_of_block0 hb4; have f1 := cell_of_block1 hb4; clear u4 hb4)
        | (go_at_call 111; (with_reducible refine (HL2.out _).mono ?_); rintro e w5 ⟨rfl, u5⟩; have U5 := Lib.hid (show Upd NoB w w5 from U4.out.then u5); clear u5))
      all_goals
        go_wp2_with fail
        go_roundw
        case rel => exact ⟨k + 1, by omega, by go_num, by rw [HSu.out], U5.out⟩
        case measure => simp [intOf]; omega
    · obtain rfl : k = n := by omega
      clear hlt hu
      go_wp2_with fail
      go_ret
      exact ⟨rfl, HU.out⟩
set_option maxRecDepth 100000 in
set_option maxHeartbeats 1000000 in
theorem gainOf_any (b off n cap : Nat) (p : Nat → Int × Int) (w : World) (h : PrsA w b off p n) (hn : n ≤ 128) (hp : ∀ i, InP 2097152 (p i)) :
    Calls Try.prog 51 #[.slice (some ⟨b, off, none⟩) n cap] w fun r w' => r = .returned (.int .i64 (gnF p n)) ∧ Upd NoB w w' := by
  have HA := Lib.hid (costI_any b off n cap p w h hn hp)
  have HB := Lib.hid (fun w' (u : Upd NoB w w') => costM_any b off n cap p w' (h.later u) hn hp)
  have b1 := sm_bd (A := 0) (B := 32256) (g := fun t => csP (p t)) (n := n) (fun i _ => csP_bd ((hp i).mono (by decide)))
  have b2 := sm_bd (A := 0) (B := 32256) (g := fun t => csP (midP (p t))) (n := n) (fun i _ => csP_bd ((mid_in (hp i)).mono (by decide)))
  have HR := Lib.hid (show gnF p n = sm (fun t => csP (p t)) n - sm (fun t => csP (midP (p t))) n from rfl)
  rw [HR.out]
  generalize sm (fun t => csP (p t)) n = X at *
  generalize sm (fun t => csP (midP (p t))) n = Y at *
  have z1 : wrap64 (X - Y) = X - Y := IntWalk.wrap64_in _ (by omega)
  have z2 : IntKind.i64.wrap (X - Y) = X - Y := IntWalk.i64_in _ (by omega)
  clear h hp b1 b2
  go_enter Try.func51, Try.ntmps51
  go_wp2_with fail
  refine HA.out.mono ?_
  rintro e w2 ⟨rfl, u2⟩
  have U2 := Lib.hid u2
  clear u2
  go_wp2_with fail
  refine (HB.out w2 U2.out).mono ?_
  rintro e w3 ⟨rfl, u3⟩
  have U3 := Lib.hid (U2.out.then u3)
  clear u3
  go_wp2_with fail
  go_ret
  exact ⟨rfl, U3.out⟩
end Go.Proofs.Ytopjjdfnnjgnlaa
