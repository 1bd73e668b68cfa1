/- linear: differences and sums in place -/
import Derived.Test.YtopjjdfnnjgnlaaTB
import Derived.StillTailTactics
namespace Go.Proofs.Ytopjjdfnnjgnlaa
open Go.RowKit Go.Shelf

theorem ext_getD {xs ys : List Int} (hl : xs.length = ys.length) (h : ∀ b, b < xs.length → xs.getD b 0 = ys.getD b 0) : xs = ys := by
  refine List.ext_getElem hl fun b h1 h2 => ?_
  have := h b h1
  rw [List.getD_eq_getElem?_getD, List.getD_eq_getElem?_getD, List.getElem?_eq_getElem h1, List.getElem?_eq_getElem h2] at this
  exact this
theorem difG_get : ∀ (l : List Int) (b : Int) (j : Nat), j < l.length → (difG b l).getD j 0 = l.getD j 0 - (if j = 0 then b else l.getD (j - 1) 0)
  | [], _, j, h => by simp at h
  | x :: l, b, 0, _ => by simp [difG]
  | x :: l, b, j + 1, h => by
    have h' : j < l.length := by simpa using h
    have := difG_get l x j h'
    rw [show (difG b (x :: l)).getD (j + 1) 0 = (difG x l).getD j 0 from rfl, this]
    rcases j with _ | j
    · rfl
    · rfl
theorem sumG_zero (b x : Int) (l : List Int) : (sumG b (x :: l)).getD 0 0 = b + x := rfl
theorem sumG_get : ∀ (l : List Int) (b : Int) (j : Nat), j + 1 < l.length → (sumG b l).getD (j + 1) 0 = (sumG b l).getD j 0 + l.getD (j + 1) 0
  | [], _, j, h => by simp at h
  | [x], _, j, h => by simp at h
  | x :: y :: l, b, 0, _ => rfl
  | x :: y :: l, b, j + 1, h => sumG_get (y :: l) (b + x) j (by simpa using h)
theorem sumG_in {M : Int} : ∀ (l : List Int) (b B : Int), 0 ≤ M → (-B ≤ b ∧ b ≤ B) → inM M l = true → inM (B + M * l.length) (sumG b l) = true
  | [], _, _, _, _, _ => rfl
  | x :: l, b, B, hM, hb, h => by
    have h1 := inM_yes h
    have hx := h1 x List.mem_cons_self
    have ih := inM_yes (sumG_in l (b + x) (B + M) hM (by omega) (inM_all fun y hy => h1 y (List.mem_cons_of_mem _ hy)))
    have hn : 0 ≤ M * (l.length : Int) := Int.mul_nonneg hM (by omega)
    rw [List.length_cons, Int.natCast_add, Int.mul_add]
    refine inM_all fun y hy => ?_
    have hy : y ∈ (b + x) :: sumG (b + x) l := hy
    rw [List.mem_cons] at hy
    rcases hy with rfl | hy
    · omega
    · have := ih y hy
      omega
theorem getD_in {M : Int} {xs : List Int} (hM : 0 ≤ M) (h : inM M xs = true) (j : Nat) : -M ≤ xs.getD j 0 ∧ xs.getD j 0 ≤ M := by
  rw [List.getD_eq_getElem?_getD]
  cases e : xs[j]? with
  | none => exact ⟨by show -M ≤ 0; omega, by show 0 ≤ M; omega⟩
  | some x => exact inM_yes h x (List.mem_of_getElem? e)
theorem getD_set (ys : List Int) (k : Nat) (x : Int) (hk : k < ys.length) (j : Nat) : (ys.set k x).getD j 0 = if k = j then x else ys.getD j 0 := by
  rw [List.getD_eq_getElem?_getD, List.getElem?_set]
  by_cases e : k = j
  · rw [if_pos e, if_pos e, if_pos hk]; rfl
  · rw [if_neg e, if_neg e, List.getD_eq_getElem?_getD]
set_option maxRecDepth 100000 in
theorem differ0_any (v : Value) (w : World) (h : ∃ a c, v = .slice a 0 c) : Calls Try.prog 68 #[v] w fun e w' => e = .returned (.tuple #[]) ∧ w = w' := by
  obtain ⟨a, c, rfl⟩ := h
  go_enter Try.func68, Try.ntmps68
  go_wp2_with fail
  go_loop [2] (fun i => i = .int .i64 (-1)) (fun _ => 0)
  case atStart => rfl
  case round =>
    subst hrel
    go_wp2
    go_end0
    exact ⟨rfl, rfl⟩
set_option maxRecDepth 100000 in
set_option maxHeartbeats 4000000 in
theorem differ_any (b cap : Nat) (xs : List Int) (w : World) (h : OwnR w b cap xs) (h0 : 0 < xs.length) (hl : xs.length ≤ 8192) (hv : inM 1099511627776 xs = true) :
    Calls Try.prog 68 #[.slice (some ⟨b, 0, none⟩) xs.length cap] w fun e w' => e = .returned (.tuple #[]) ∧ OwnR w' b cap (difG 0 xs) ∧ Upd (fun k => k = b) w w' := by
  have H := Lib.hid h
  have HV := Lib.hid (fun j => getD_in (by decide) hv j)
  have HD := Lib.hid (fun j hj => difG_get xs 0 j hj)
  have HDl := Lib.hid (difG_len 0 xs)
  obtain ⟨L, hL⟩ : ∃ L, xs.length = L := ⟨_, rfl⟩
  have HL := Lib.hid hL
  rw [hL] at hl h0 HD HDl ⊢
  have hs : wrap64 ((L : Int) - 1) = ((L - 1 : Nat) : Int) := by rw [IntWalk.wrap64_in _ (by omega)]; omega
  have hs2 : IntKind.i64.wrap ((L : Int) - 1) = ((L - 1 : Nat) : Int) := by rw [IntWalk.i64_in _ (by omega)]; omega
  obtain ⟨N, hN⟩ : ∃ N, L - 1 = N := ⟨_, rfl⟩
  have HN := Lib.hid (show L = N + 1 by omega)
  rw [hN] at hs hs2
  clear h hL hv hN
  go_enter Try.func68, Try.ntmps68
  go_wp2_with fail
  go_loopw [2] (fun i wr => ∃ (z : Nat) (ys : List Int), z < L ∧ i = .int .i64 (z : Int) ∧ OwnR wr b cap ys ∧ ys.length = L ∧ (∀ j, j < L → ys.getD j 0 = if j ≤ z then xs.getD j 0 else xs.getD j 0 - xs.getD (j - 1) 0) ∧ Upd (fun k => k = b) w wr) (fun i _ => (intOf i).toNat)
  case atStart => exact ⟨N, xs, by have := HN.out; omega, rfl, H.out, HL.out, fun j hj => by rw [if_pos (by have := HN.out; omega)], Upd.refl _ _⟩
  case round =>
    obtain ⟨z, ys, hz, rfl, ho, hyl, hys, hu⟩ := hrel
    have HU := Lib.hid hu
    by_cases hz0 : 0 < z
    · obtain ⟨k, hk⟩ : ∃ k, z = k + 1 := ⟨z - 1, by omega⟩
      have HK := Lib.hid hk
      have hw1 : wrap64 ((z : Int) - 1) = (k : Int) := by rw [IntWalk.wrap64_in _ (by omega)]; omega
      have hw2 : IntKind.i64.wrap ((z : Int) - 1) = (k : Int) := by rw [IntWalk.i64_in _ (by omega)]; omega
      have hkL : k < L := by omega
      obtain ⟨c1, f1⟩ := ho.cell (k := z) (by omega)
      obtain ⟨c2, f2⟩ := ho.cell (k := k) (by omega)
      have e1 := hys z hz
      have e2 := hys k hkL
      rw [if_pos (Nat.le_refl _)] at e1
      rw [if_pos (by omega)] at e2
      have hY := HV.out z
      have hX := HV.out k
      rw [← e1] at hY
      rw [← e2] at hX
      have HE1 := Lib.hid e1; have HE2 := Lib.hid e2
      generalize ys.getD z 0 = Y at *
      generalize ys.getD k 0 = X at *
      have HO := Lib.hid ho; have HYl := Lib.hid hyl; have HYs := Lib.hid hys
      have d1 := (Upd.refl NoB wr).drew.cell c1 (noB _)
      have g1 : wr.drew.frozen? ⟨b, z, none⟩ = false := f1
      have y1 : wrap64 (Y - X) = Y - X := IntWalk.wrap64_in _ (by omega)
      have y2 : IntKind.i64.wrap (Y - X) = Y - X := IntWalk.i64_in _ (by omega)
      clear ho hyl hys hu e1 e2 hk hY hX f2 f1
      go_wp2
      refine wp_region_still_tail 11 (by kernel_rfl) (by kernel_rfl) ?_
      simp only [List.take_succ_cons, List.take_zero, List.drop_succ_cons, List.drop_zero]
      repeat still_step
      refine wpStill_nil ?_
      change wpList _ _ _ _ _ wr.drew
      go_wp2
      go_roundw
      case rel =>
        have hK := HK.out
        refine ⟨k, ys.set z (Y - X), by omega, by go_num, ((HO.out.upd (Upd.refl NoB wr).drew (noB _)).set z (by rw [HYl.out]; exact hz) (Y - X)), by rw [List.length_set]; exact HYl.out, fun j hj => ?_, HU.out.drew.setCell _ (fun _ => rfl)⟩
        rw [getD_set _ _ _ (by rw [HYl.out]; exact hz)]
        by_cases e : z = j
        · subst e
          rw [if_pos rfl, if_neg (by omega), HE1.out, HE2.out, show z - 1 = k by omega]
        · rw [if_neg e, HYs.out j hj]
          by_cases h1 : j ≤ k
          · rw [if_pos h1, if_pos (by omega)]
          · rw [if_neg h1, if_neg (by omega)]
      case measure => have := HK.out; simp [intOf]; omega
    · obtain rfl : z = 0 := by omega
      have HO := Lib.hid ho
      have HY := Lib.hid (show ys = difG 0 xs from ext_getD (by rw [hyl, HDl.out]) fun j hj => by
        rw [hys j (by omega), HD.out j (by omega)]
        by_cases e : j = 0
        · subst e; rw [if_pos (Nat.le_refl _), if_pos rfl]; omega
        · rw [if_neg (by omega), if_neg e])
      clear ho hyl hys hu hz0
      go_wp2
      go_end0
      exact ⟨rfl, by rw [← HY.out]; exact HO.out, HU.out⟩
set_option maxRecDepth 100000 in
theorem addUp0_any (v : Value) (w : World) (h : ∃ a c, v = .slice a 0 c) : Calls Try.prog 72 #[v] w fun e w' => e = .returned (.tuple #[]) ∧ w = w' := by
  obtain ⟨a, c, rfl⟩ := h
  go_enter Try.func72, Try.ntmps72
  go_wp2_with fail
  go_loop [2] (fun i => i = .int .i64 1) (fun _ => 0)
  case atStart => rfl
  case round =>
    subst hrel
    go_wp2
    go_end0
    exact ⟨rfl, rfl⟩
set_option maxRecDepth 100000 in
set_option maxHeartbeats 4000000 in
theorem addUp_any (b cap : Nat) (xs : List Int) (w : World) (h : OwnR w b cap xs) (h0 : 0 < xs.length) (hl : xs.length ≤ 8192) (hv : inM 67108864 xs = true) :
    Calls Try.prog 72 #[.slice (some ⟨b, 0, none⟩) xs.length cap] w fun e w' => e = .returned (.tuple #[]) ∧ OwnR w' b cap (sumG 0 xs) ∧ Upd (fun k => k = b) w w' := by
  have H := Lib.hid h
  have HV := Lib.hid (fun j => getD_in (by decide) hv j)
  have HS := Lib.hid (fun j hj => sumG_get xs 0 j hj)
  have HSl := Lib.hid (sumG_len 0 xs)
  have HSb := Lib.hid (fun j => getD_in (M := 549755813888) (by decide) (inM_mono (by omega) (sumG_in xs 0 0 (by decide) (by decide) hv)) j)
  have HS0 := Lib.hid (show (sumG 0 xs).getD 0 0 = xs.getD 0 0 by
    cases xs with
    | nil => rfl
    | cons x l => rw [sumG_zero]; simp)
  obtain ⟨L, hL⟩ : ∃ L, xs.length = L := ⟨_, rfl⟩
  have HL := Lib.hid hL
  rw [hL] at hl h0 HS HSl ⊢
  clear h hL hv
  go_enter Try.func72, Try.ntmps72
  go_wp2_with fail
  go_loopw [2] (fun i wr => ∃ (k z : Nat) (ys : List Int), k < L ∧ Hid (z = k + 1) ∧ i = .int .i64 (z : Int) ∧ OwnR wr b cap ys ∧ ys.length = L ∧ (∀ j, j < L → ys.getD j 0 = if j ≤ k then (sumG 0 xs).getD j 0 else xs.getD j 0) ∧ Upd (fun k => k = b) w wr) (fun i _ => L - (intOf i).toNat)
  case atStart => exact ⟨0, 1, xs, h0, rfl, rfl, H.out, HL.out, fun j hj => by
    by_cases e : j ≤ 0
    · obtain rfl : j = 0 := by omega
      rw [if_pos e, HS0.out]
    · rw [if_neg e], Upd.refl _ _⟩
  case round =>
    obtain ⟨k, z, ys, hkL, hz, rfl, ho, hyl, hys, hu⟩ := hrel
    have HU := Lib.hid hu
    have hzk : z = k + 1 := hz
    have HK := Lib.hid hzk
    by_cases hlt : z < L
    · have hw1 : wrap64 ((z : Int) - 1) = (k : Int) := by rw [IntWalk.wrap64_in _ (by omega)]; omega
      have hw2 : IntKind.i64.wrap ((z : Int) - 1) = (k : Int) := by rw [IntWalk.i64_in _ (by omega)]; omega
      obtain ⟨c1, f1⟩ := ho.cell (k := z) (by omega)
      obtain ⟨c2, f2⟩ := ho.cell (k := k) (by omega)
      have e1 := hys z hlt
      have e2 := hys k hkL
      rw [if_neg (by omega)] at e1
      rw [if_pos (Nat.le_refl _)] at e2
      have hY := HV.out z
      have hX := HSb.out k
      rw [← e1] at hY
      rw [← e2] at hX
      have HE1 := Lib.hid e1; have HE2 := Lib.hid e2
      generalize ys.getD z 0 = Y at *
      generalize ys.getD k 0 = X at *
      have HO := Lib.hid ho; have HYl := Lib.hid hyl; have HYs := Lib.hid hys
      have d1 := (Upd.refl NoB wr).drew.cell c1 (noB _)
      have g1 : wr.drew.frozen? ⟨b, z, none⟩ = false := f1
      have y1 : wrap64 (Y + X) = Y + X := IntWalk.wrap64_in _ (by omega)
      have y2 : IntKind.i64.wrap (Y + X) = Y + X := IntWalk.i64_in _ (by omega)
      have hzi : (z : Int) < (L : Int) := by omega
      have hz8 : z ≤ 8192 := by omega
      clear ho hyl hys hu e1 e2 hY hX f2 f1 hzk hz
      go_wp2
      refine wp_region_still_tail 11 (by kernel_rfl) (by kernel_rfl) ?_
      simp only [List.take_succ_cons, List.take_zero, List.drop_succ_cons, List.drop_zero]
      repeat still_step
      refine wpStill_nil ?_
      change wpList _ _ _ _ _ wr.drew
      go_wp2
      go_roundw
      case rel =>
        have hK := HK.out
        refine ⟨z, z + 1, ys.set z (Y + X), hlt, rfl, by go_num, ((HO.out.upd (Upd.refl NoB wr).drew (noB _)).set z (by rw [HYl.out]; exact hlt) (Y + X)), by rw [List.length_set]; exact HYl.out, fun j hj => ?_, HU.out.drew.setCell _ (fun _ => rfl)⟩
        rw [getD_set _ _ _ (by rw [HYl.out]; exact hlt)]
        by_cases e : z = j
        · subst e
          rw [if_pos rfl, if_pos (Nat.le_refl _), HE1.out, HE2.out, hK, HS.out k (by omega)]
          omega
        · rw [if_neg e, HYs.out j hj]
          by_cases h1 : j ≤ k
          · rw [if_pos h1, if_pos (by omega)]
          · rw [if_neg h1, if_neg (by omega)]
      case measure => simp [intOf]; omega
    · have HO := Lib.hid ho
      have HY := Lib.hid (show ys = sumG 0 xs from ext_getD (by rw [hyl, HSl.out]) fun j hj => by
        rw [hys j (by omega), if_pos (by omega)])
      have hzi : decide ((z : Int) < (L : Int)) = false := decide_eq_false (by omega)
      clear ho hyl hys hu hzk hz
      go_wp2
      go_end0
      exact ⟨rfl, by rw [← HY.out]; exact HO.out, HU.out⟩
end Go.Proofs.Ytopjjdfnnjgnlaa
