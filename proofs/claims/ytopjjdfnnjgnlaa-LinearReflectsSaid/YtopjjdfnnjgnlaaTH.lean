/- linear: slices.Reverse -/
import Derived.Test.YtopjjdfnnjgnlaaTG
namespace Go.Proofs.Ytopjjdfnnjgnlaa
open Go.RowKit Go.Shelf

theorem rev_getD (xs : List Int) (p : Nat) (h : p < xs.length) : xs.reverse.getD p 0 = xs.getD (xs.length - 1 - p) 0 := by
  rw [List.getD_eq_getElem?_getD, List.getD_eq_getElem?_getD, List.getElem?_reverse h]
set_option maxRecDepth 100000 in
theorem reverse0_any (v : Value) (w : World) (h : ∃ a c, v = .slice a 0 c) : Calls Try.prog 107 #[v] w fun e w' => e = .returned (.tuple #[]) ∧ w = w' := by
  obtain ⟨a, c, rfl⟩ := h
  go_enter Try.func107, Try.ntmps107
  go_wp2_with fail
  go_loop [2, 3] (fun i j => i = .int .i64 0 ∧ j = .int .i64 (-1)) (fun _ _ => 0)
  case atStart => exact ⟨rfl, rfl⟩
  case round =>
    obtain ⟨rfl, rfl⟩ := hrel
    go_wp2
    go_end0
    exact ⟨rfl, rfl⟩
set_option maxRecDepth 100000 in
set_option maxHeartbeats 4000000 in
theorem reverse_any (b cap : Nat) (xs : List Int) (w : World) (h : OwnR w b cap xs) (h0 : 0 < xs.length) (hl : xs.length ≤ 8192) :
    Calls Try.prog 107 #[.slice (some ⟨b, 0, none⟩) xs.length cap] w fun e w' => e = .returned (.tuple #[]) ∧ OwnR w' b cap xs.reverse ∧ Upd (fun k => k = b) w w' := by
  have H := Lib.hid h
  have HR := Lib.hid (fun p hp => rev_getD xs p hp)
  have HRl := Lib.hid (show xs.reverse.length = xs.length from List.length_reverse)
  obtain ⟨L, hL⟩ : ∃ L, xs.length = L := ⟨_, rfl⟩
  have HL := Lib.hid hL
  rw [hL] at hl h0 HR HRl ⊢
  obtain ⟨N, hN⟩ : ∃ N, L - 1 = N := ⟨_, rfl⟩
  have hs : wrap64 ((L : Int) - 1) = (N : Int) := by rw [IntWalk.wrap64_in _ (by omega)]; omega
  have hs2 : IntKind.i64.wrap ((L : Int) - 1) = (N : Int) := by rw [IntWalk.i64_in _ (by omega)]; omega
  have HN := Lib.hid (show L = N + 1 by omega)
  clear h hL hN
  go_enter Try.func107, Try.ntmps107
  go_wp2_with fail
  go_loopw [2, 3] (fun i j wr => ∃ (p q : Nat) (z : Int) (ys : List Int), Hid (z = (q : Int) - 1) ∧ Hid (p + q = L) ∧ Hid (p ≤ q) ∧ i = .int .i64 (p : Int) ∧ j = .int .i64 z ∧ OwnR wr b cap ys ∧ ys.length = L ∧ (∀ t, t < L → ys.getD t 0 = if t < p ∨ q ≤ t then xs.getD (L - 1 - t) 0 else xs.getD t 0) ∧ Upd (fun k => k = b) w wr) (fun i _ _ => L - (intOf i).toNat)
  case atStart => exact ⟨0, L, (N : Int), xs, by have := HN.out; show _ = _; omega, by show _ = _; omega, Nat.zero_le _, rfl, rfl, H.out, HL.out, fun t ht => by rw [if_neg (by omega)], Upd.refl _ _⟩
  case round =>
    obtain ⟨p, q, z, ys, hz, hpq, hle, rfl, rfl, ho, hyl, hys, hu⟩ := hrel
    have hz : z = (q : Int) - 1 := hz
    have hpq : p + q = L := hpq
    have hle : p ≤ q := hle
    have HU := Lib.hid hu
    by_cases hlt : p + 1 < q
    · obtain ⟨j, hj⟩ : ∃ j, q = j + 1 := ⟨q - 1, by omega⟩
      obtain rfl : z = (j : Int) := by omega
      have hpj : (p : Int) < (j : Int) := by omega
      have hpjn : p < j := by omega
      have hpL : p < L := by omega
      have hjL : j < L := by omega
      obtain ⟨c1, f1⟩ := ho.cell (k := p) (by omega)
      obtain ⟨c2, f2⟩ := ho.cell (k := j) (by omega)
      have e1 := hys p hpL
      have e2 := hys j hjL
      rw [if_neg (by omega)] at e1 e2
      have HE1 := Lib.hid e1; have HE2 := Lib.hid e2
      generalize ys.getD p 0 = X at *
      generalize ys.getD j 0 = Y at *
      have hodr : OwnR wr b cap ys := ho
      have HO := Lib.hid hodr; have HYl := Lib.hid hyl; have HYs := Lib.hid hys
      have HQ := Lib.hid hj; have HPQ := Lib.hid hpq
      have hne : ¬ p = j := by omega
      have hne2 : ¬ j = p := by omega
      have k1 : ∀ v, (wr.setCell ⟨b, p, none⟩ v).frozen? ⟨b, j, none⟩ = false := fun v => by
        obtain ⟨c, hc, _⟩ := hodr
        exact blk_free (block_set hc v) j
      have k2 : ∀ v, (wr.setCell ⟨b, j, none⟩ v).frozen? ⟨b, p, none⟩ = false := fun v => by
        obtain ⟨c, hc, _⟩ := hodr
        exact blk_free (block_set hc v) p
      have m1 : ∀ v, (wr.setCell ⟨b, p, none⟩ v).cell? ⟨b, j, none⟩ = some (.int .i64 Y) := fun v => by
        obtain ⟨c, hc, _⟩ := hodr
        rw [blk_cell (block_set hc v) j, Array.getElem?_setIfInBounds, if_neg hne]
        rw [blk_cell hc j] at c2; exact c2
      have m2 : ∀ v, (wr.setCell ⟨b, j, none⟩ v).cell? ⟨b, p, none⟩ = some (.int .i64 X) := fun v => by
        obtain ⟨c, hc, _⟩ := hodr
        rw [blk_cell (block_set hc v) p, Array.getElem?_setIfInBounds, if_neg hne2]
        rw [blk_cell hc p] at c1; exact c1
      have y1 : wrap64 ((j : Int) - 1) = (j : Int) - 1 := IntWalk.wrap64_in _ (by omega)
      have y2 : IntKind.i64.wrap ((j : Int) - 1) = (j : Int) - 1 := IntWalk.i64_in _ (by omega)
      have HFin := Lib.hid (show ∀ t, t < L → ((ys.set p Y).set j X).getD t 0 = if t < p + 1 ∨ j ≤ t then xs.getD (L - 1 - t) 0 else xs.getD t 0 from fun t ht => by
        rw [getD_set _ _ _ (by rw [List.length_set, hyl]; exact hjL)]
        by_cases e : j = t
        · subst e
          rw [if_pos rfl, if_pos (.inr (Nat.le_refl _)), HE1.out, show L - 1 - j = p by omega]
        · rw [if_neg e, getD_set _ _ _ (by rw [hyl]; exact hpL)]
          by_cases e2 : p = t
          · subst e2
            rw [if_pos rfl, if_pos (.inl (by omega)), HE2.out, show L - 1 - p = j by omega]
          · rw [if_neg e2, hys t ht]
            by_cases h1 : t < p ∨ q ≤ t
            · rw [if_pos h1, if_pos (by omega)]
            · rw [if_neg h1, if_neg (by omega)])
      have HCm := Lib.hid (show (ys.set j X).set p Y = (ys.set p Y).set j X from List.set_comm _ _ hne2)
      clear ho hodr hyl hys hu e1 e2 hj hpq hle hz
      go_wp2
      go_region
      all_goals
        go_wp2
        go_roundw
        case rel =>
          have hQ := HQ.out; have hPQ := HPQ.out
          refine ⟨p + 1, j, (j : Int) - 1, (ys.set p Y).set j X, rfl, by show _ = _; omega, by show _ ≤ _; omega, by go_num, rfl, ?_, by rw [List.length_set, List.length_set]; exact HYl.out, HFin.out, ?_⟩
          · first
              | exact ((HO.out.set p (by rw [HYl.out]; exact hpL) Y).set j (by rw [List.length_set, HYl.out]; exact hjL) X).upd (S := NoB) (Upd.refl _ _).drew (noB _)
              | (rw [← HCm.out]; exact ((HO.out.set j (by rw [HYl.out]; exact hjL) X).set p (by rw [List.length_set, HYl.out]; exact hpL) Y).upd (S := NoB) (Upd.refl _ _).drew (noB _))
          · exact ((HU.out.setCell _ (fun _ => rfl)).setCell _ (fun _ => rfl)).drew
        case measure => simp [intOf]; omega
    · have hpz : decide ((p : Int) < z) = false := decide_eq_false (by omega)
      have HO := Lib.hid ho
      have HY := Lib.hid (show ys = xs.reverse from ext_getD (by rw [hyl, HRl.out]) fun t ht => by
        rw [hys t (by omega), HR.out t (by omega)]
        by_cases h1 : t < p ∨ q ≤ t
        · rw [if_pos h1]
        · rw [if_neg h1, show L - 1 - t = t by omega])
      clear ho hyl hys hu hz hpq hle
      go_wp2
      go_end0
      exact ⟨rfl, by rw [← HY.out]; exact HO.out, HU.out⟩
end Go.Proofs.Ytopjjdfnnjgnlaa
