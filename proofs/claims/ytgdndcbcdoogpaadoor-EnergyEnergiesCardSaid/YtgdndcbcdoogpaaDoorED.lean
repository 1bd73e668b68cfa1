/- energy: the reference's Spread; the law Spread -/
import Derived.Test.YtgdndcbcdoogpaaDoorEC
namespace Go.Proofs.YtgdndcbcdoogpaaDoor
open Go.RowKit Go.Shelf

/-- what the reference has of place b behind t places of its row, which begins at R -/
def rvT (xs : List Int) (b R : Nat) : Nat → Int
  | 0 => 0
  | t + 1 => max (rvT xs b R t) (xs.getD (R + t) 0 - spD (R + t) b)
theorem rvT_ge (xs : List Int) (b R : Nat) : ∀ (t i : Nat), i < t → xs.getD (R + i) 0 - spD (R + i) b ≤ rvT xs b R t
  | 0, i, h => by omega
  | t + 1, i, h => by
    unfold rvT
    by_cases e : i = t
    · subst e; omega
    · have := rvT_ge xs b R t i (by omega); omega
theorem rvT_nn (xs : List Int) (b R : Nat) : ∀ t, 0 ≤ rvT xs b R t
  | 0 => Int.le_refl _
  | t + 1 => by have := rvT_nn xs b R t; unfold rvT; omega
theorem rvT_at (xs : List Int) (b R : Nat) : ∀ t, rvT xs b R t = 0 ∨ ∃ i, i < t ∧ rvT xs b R t = xs.getD (R + i) 0 - spD (R + i) b
  | 0 => .inl rfl
  | t + 1 => by
    have e : rvT xs b R (t + 1) = max (rvT xs b R t) (xs.getD (R + t) 0 - spD (R + t) b) := rfl
    by_cases h : xs.getD (R + t) 0 - spD (R + t) b ≤ rvT xs b R t
    · rcases rvT_at xs b R t with h0 | ⟨i, hi, h1⟩
      · exact .inl (by omega)
      · exact .inr ⟨i, by omega, by omega⟩
    · exact .inr ⟨t, by omega, by omega⟩
theorem rvT_le {xs : List Int} (hc : CoS xs) (b R t : Nat) : rvT xs b R t ≤ 15872 := by
  rcases rvT_at xs b R t with h | ⟨i, _, h⟩
  · omega
  · have := (getD_cos hc (R + i)).2
    have := spD_nn (R + i) b
    omega
theorem getD_co0 {xs : List Int} (h : CoS xs) (b : Nat) : 0 ≤ xs.getD b 0 := (getD_cos h b).1
theorem rvT_all {xs : List Int} {m : Nat} (h : sdE xs (m : Int) = 0) {b : Nat} (hb : b < xs.length) : rvT xs b (m * (b / m)) m = (sdS xs (m : Int)).getD b 0 := by
  obtain ⟨m', e, h1, _, _, h4, _, _, h7, hA⟩ := sd_at h
  obtain rfl : m' = m := by omega
  obtain ⟨p1, j, hj, p2⟩ := hA b hb
  obtain ⟨j1, j2⟩ := (div_row h1).1 hj
  have g := rvT_ge xs b (m' * (b / m')) m' (j - m' * (b / m')) (by omega)
  rw [show m' * (b / m') + (j - m' * (b / m')) = j by omega] at g
  have g0 := getD_co0 h7 b
  rcases rvT_at xs b (m' * (b / m')) m' with h0 | ⟨i, hi, h0⟩
  · omega
  · have := p1 (m' * (b / m') + i) ((div_row h1).2 (by omega))
    omega
theorem sd_len {xs : List Int} {n : Int} (h : sdE xs n = 0) : (sdS xs n).length = xs.length := by
  obtain ⟨_, _, _, _, _, _, _, h2, _⟩ := sd_at h
  exact h2
theorem sdE_six {xs : List Int} {m : Nat} (h1 : 1 ≤ m) (h2 : m ≤ 15) (h3 : ¬ 32 < xs.length) (h4 : xs.length % m = 0) {k : Nat} {x : Int} (h : xs[k]? = some x) (hx : x < 0 ∨ 15872 < x) : sdE xs (m : Int) = 6 ∧ sdS xs (m : Int) = [] := by
  have e : sdE xs (m : Int) = 6 := by
    unfold sdE
    rw [if_neg (by omega), if_neg h3, Int.toNat_natCast, if_pos h4, inB_no h hx]
    rfl
  exact ⟨e, by unfold sdS; rw [if_neg (by rw [e]; decide)]⟩
theorem div_facts {b m L : Nat} (h1 : 1 ≤ m) (h2 : m ≤ 15) (hL : L ≤ 32) (hm : L % m = 0) (hb : b < L) : ∃ Q R E : Nat, (b : Int).tdiv (m : Int) = (Q : Int) ∧ (b : Int) / (m : Int) = (Q : Int) ∧ wrap64 (Q : Int) = (Q : Int) ∧ IntKind.i64.wrap (Q : Int) = (Q : Int) ∧
    wrap64 ((Q : Int) * (m : Int)) = (R : Int) ∧ IntKind.i64.wrap ((Q : Int) * (m : Int)) = (R : Int) ∧ wrap64 ((R : Int) + (m : Int)) = (E : Int) ∧ IntKind.i64.wrap ((R : Int) + (m : Int)) = (E : Int) ∧ R = m * (b / m) ∧ E = R + m ∧ R ≤ b ∧ E ≤ L := by
  have hd := (div_row (j := b) h1).1 rfl
  have hl : ∀ j, j < m * (b / m) + m → j < L := fun j hj => by
    by_cases hjb : j < m * (b / m)
    · omega
    · exact row_lt h1 hm hb ((div_row h1).2 (by omega))
  have hE := hl (m * (b / m) + m - 1) (by omega)
  have hq : b / m ≤ b := Nat.div_le_self b m
  have e1 : (b : Int) / (m : Int) = ((b / m : Nat) : Int) := rfl
  have e2 : (b : Int).tdiv (m : Int) = ((b / m : Nat) : Int) := by rw [Int.tdiv_eq_ediv_of_nonneg (by omega)]; rfl
  have e3 : ((b / m : Nat) : Int) * (m : Int) = ((m * (b / m) : Nat) : Int) := by rw [Int.natCast_mul, Int.mul_comm]
  generalize b / m = Q at *
  generalize m * Q = R at *
  refine ⟨Q, R, R + m, e2, e1, IntWalk.wrap64_in _ (by omega), IntWalk.i64_in _ (by omega), ?_, ?_, ?_, ?_, rfl, rfl, hd.1, by omega⟩
  · rw [e3]; exact IntWalk.wrap64_in _ (by omega)
  · rw [e3]; exact IntWalk.i64_in _ (by omega)
  · rw [IntWalk.wrap64_in _ (by omega)]; omega
  · rw [IntWalk.i64_in _ (by omega)]; omega
set_option maxRecDepth 100000 in
set_option maxHeartbeats 8000000 in
theorem rSpread_any (sv : Value) (xs : List Int) (n : Int) (w : World) (h : Ints w sv xs) : Calls Tryd.prog 48 #[sv, .int .i64 n] w (EInts w (sdS xs n) (sdE xs n)) := by
  obtain ⟨a, cap, rfl⟩ := h.form
  have hlb := h.1
  by_cases hn : n < 1 ∨ 15 < n
  · have HE := Lib.hid (show sdE xs n = 1 from if_pos hn)
    have HS := Lib.hid (show sdS xs n = [] from if_neg (by rw [HE.out]; decide))
    rw [HE.out, HS.out]
    generalize xs.length = L at *
    by_cases h1 : n < 1
    · have t1 : decide (n < 1) = true := decide_eq_true h1
      clear h hn
      go_enter Tryd.func48, Tryd.ntmps48
      go_wp2_with fail
      go_ret2
      exact ⟨none, 0, 0, rfl, World.ownsRow_nil _ _ _ _, Upd.refl _ _⟩
    · have h2 : 15 < n := by omega
      have t1 : decide (n < 1) = false := decide_eq_false h1
      have t2 : decide (15 < n) = true := decide_eq_true h2
      clear h hn
      go_enter Tryd.func48, Tryd.ntmps48
      go_wp2_with fail
      go_ret2
      exact ⟨none, 0, 0, rfl, World.ownsRow_nil _ _ _ _, Upd.refl _ _⟩
  obtain ⟨m, rfl⟩ : ∃ m : Nat, n = (m : Int) := ⟨n.toNat, by omega⟩
  have hm1 : 1 ≤ m := by omega
  have hm2 : m ≤ 15 := by omega
  have HE0 := Lib.hid (show sdE xs (m : Int) = if 32 < xs.length then 2 else if xs.length % (m : Int).toNat = 0 then (if inB 0 15872 xs then 0 else 6) else 4 from if_neg hn)
  have t1 : decide ((m : Int) < 1) = false := decide_eq_false (by omega)
  have t1n : decide (m < 1) = false := decide_eq_false (by omega)
  have t2 : decide ((15 : Int) < (m : Int)) = false := decide_eq_false (by omega)
  have t2n : decide (15 < m) = false := decide_eq_false (by omega)
  by_cases hl : 32 < xs.length
  · have HE := Lib.hid (show sdE xs (m : Int) = 2 by rw [HE0.out, if_pos hl])
    have HS := Lib.hid (show sdS xs (m : Int) = [] from if_neg (by rw [HE.out]; decide))
    rw [HE.out, HS.out]
    generalize xs.length = L at *
    have t3 : decide ((32 : Int) < (L : Int)) = true := decide_eq_true (by omega)
    have t3n : decide (32 < L) = true := decide_eq_true hl
    clear h hl hn
    go_enter Tryd.func48, Tryd.ntmps48
    go_wp2_with fail
    go_ret2
    exact ⟨none, 0, 0, rfl, World.ownsRow_nil _ _ _ _, Upd.refl _ _⟩
  rw [if_neg hl, Int.toNat_natCast] at HE0
  have t3 : decide ((32 : Int) < (xs.length : Int)) = false := decide_eq_false (by omega)
  have t3n : decide (32 < xs.length) = false := decide_eq_false hl
  have tz : ((m : Int) = 0) = False := eq_false (by omega)
  by_cases hr : xs.length % m = 0
  · have t4 : (xs.length : Int) % (m : Int) = 0 := by omega
    have t5 : (xs.length : Int).tmod (m : Int) = 0 := by rw [Int.tmod_eq_emod_of_nonneg (by omega)]; exact t4
    have H := Lib.hid h
    have HSix := Lib.hid (fun k x => sdE_six (xs := xs) (m := m) hm1 hm2 hl hr (k := k) (x := x))
    have HOk := Lib.hid (fun (hc : CoS xs) => sdE_of (xs := xs) (m := m) hm1 hm2 (by omega) hr hc)
    have HDf := Lib.hid (fun b (hb : b < xs.length) => div_facts (b := b) hm1 hm2 (show xs.length ≤ 32 by omega) hr hb)
    obtain ⟨L, hL⟩ : ∃ L, xs.length = L := ⟨_, rfl⟩
    have HL := Lib.hid hL
    rw [hL] at H hl t3 t3n t4 t5 HDf ⊢
    clear h hL hn hr hlb HE0
    go_enter Tryd.func48, Tryd.ntmps48
    go_wp2_with fail
    go_loop [32] (fun i => ∃ k : Nat, k ≤ L ∧ i = .int .i64 k ∧ ∀ (j : Nat) (y : Int), j < k → xs[j]? = some y → 0 ≤ y ∧ y ≤ 15872) (fun i => L - (intOf i).toNat)
    case atStart => exact ⟨0, Nat.zero_le _, rfl, fun j y hj => by omega⟩
    case round =>
      obtain ⟨k, hk, rfl, hin⟩ := hrel
      have HIn := Lib.hid hin; clear hin
      by_cases hlt : k < L
      · obtain ⟨x, hx⟩ : ∃ x, xs[k]? = some x := ⟨_, List.getElem?_eq_getElem (by rw [HL.out]; exact hlt)⟩
        obtain ⟨bb, off, rfl, c0⟩ := H.out.cellAt hx
        by_cases hlo : x < 0
        · have s1 : decide (x < 0) = true := decide_eq_true hlo
          have HB := Lib.hid (HSix.out k x hx (.inl hlo))
          clear hx hlo
          go_wp2_with fail
          go_ret2
          rw [HB.out.1, HB.out.2]
          exact ⟨none, 0, 0, rfl, World.ownsRow_nil _ _ _ _, Upd.refl _ _⟩
        · have s1 : decide (x < 0) = false := decide_eq_false hlo
          by_cases hhi : 15872 < x
          · have s2 : decide (15872 < x) = true := decide_eq_true hhi
            have HB := Lib.hid (HSix.out k x hx (.inr hhi))
            clear hx hlo hhi
            go_wp2_with fail
            go_ret2
            rw [HB.out.1, HB.out.2]
            exact ⟨none, 0, 0, rfl, World.ownsRow_nil _ _ _ _, Upd.refl _ _⟩
          · have s2 : decide (15872 < x) = false := decide_eq_false hhi
            have HM := Lib.hid (show ∀ (j : Nat) (y : Int), j < k + 1 → xs[j]? = some y → 0 ≤ y ∧ y ≤ 15872 from fun j y hj hy => by
              by_cases e : j = k
              · subst e; rw [hx] at hy; cases hy; omega
              · exact HIn.out j y (by omega) hy)
            clear hx hlo hhi
            go_wp2_with fail
            go_round
            case rel => exact ⟨k + 1, by omega, by go_num, HM.out⟩
            case measure => simp [intOf]; omega
      · obtain rfl : k = L := by omega
        have hcs : CoS xs := fun j y hy => HIn.out j y (by have := (List.getElem?_eq_some_iff.1 hy).1; rw [HL.out] at this; exact this) hy
        have hE := HOk.out hcs
        have HCs := Lib.hid hcs
        have HE := Lib.hid hE
        have HAll := Lib.hid (fun b hb => rvT_all (xs := xs) (m := m) hE (b := b) hb)
        have HSl := Lib.hid (sd_len hE)
        have HXi := Lib.hid (fun j (hj : j < k) => (show ∃ x, xs[j]? = some x ∧ xs.getD j 0 = x ∧ 0 ≤ x ∧ x ≤ 15872 by
          obtain ⟨x, hx⟩ : ∃ x, xs[j]? = some x := ⟨_, List.getElem?_eq_getElem (by rw [HL.out]; exact hj)⟩
          exact ⟨x, hx, by rw [List.getD_eq_getElem?_getD, hx]; rfl, hcs j x hx⟩))
        obtain ⟨U, hU⟩ : ∃ U, sdS xs (m : Int) = U := ⟨_, rfl⟩
        have HUe := Lib.hid hU
        rw [hU] at HAll HSl
        rw [HL.out] at HAll HSl
        clear hlt hcs hE hU
        go_wp2_with fail
        go_loopw [8, 45] (fun v i wr => ∃ b : Nat, b ≤ k ∧ i = .int .i64 b ∧ wr.ownsRow w.heap.size 3 1 v b (i64s (U.take b)) ∧ Upd NoB w wr) (fun _ i _ => k - (intOf i).toNat)
        case atStart => exact ⟨0, Nat.zero_le _, rfl, World.ownsRow_nil _ _ _ _, Upd.refl _ _⟩
        case round =>
          obtain ⟨b, hb, rfl, hown, hu⟩ := hrel
          obtain ⟨va, vc, rfl⟩ := row_form hown
          have HOw := Lib.hid hown; have HU := Lib.hid hu
          have hb2 := hu.size
          by_cases hlt : b < k
          · obtain ⟨Q, R, E, q1, q2, q3, q4, q5, q6, q7, q8, hR, hE, hRb, hEk⟩ := HDf.out b hlt
            have HR := Lib.hid hR; have HEe := Lib.hid hE
            clear hown hu hR hE
            go_wp2_with fail
            obtain ⟨wo, rfl⟩ : ∃ wo : World, wo = wr := ⟨_, rfl⟩
            go_loopw [10, 12] (fun v i wr' => ∃ (t z : Nat), t ≤ m ∧ Hid (z = R + t) ∧ i = .int .i64 (z : Int) ∧ v = .int .i64 (rvT xs b R t) ∧ wr' = wo) (fun _ i _ => E - (intOf i).toNat)
            case atStart => exact ⟨0, R, Nat.zero_le _, rfl, rfl, rfl, rfl⟩
            case round =>
              obtain ⟨t, z, ht, hz, rfl, rfl, rfl⟩ := hrel
              have hzt : z = R + t := hz
              have hER := HEe.out
              by_cases htm : t < m
              · have hzE : z < E := by omega
                have hzEi : (z : Int) < (E : Int) := by omega
                obtain ⟨x, hx, hxd, hx0, hx1⟩ := HXi.out z (by omega)
                obtain ⟨bb, off, rfl, c0⟩ := (H.out.later HU.out).cellAt hx
                have HNx := Lib.hid (show rvT xs b R (t + 1) = max (rvT xs b R t) (x - spD z b) by rw [rvT, ← hzt, hxd])
                have hv0 := rvT_nn xs b R t
                have hv1 := rvT_le HCs.out b R t
                generalize rvT xs b R t = V at *
                have HZ := Lib.hid hzt
                by_cases hzb : z ≤ b
                · have g1 : decide ((z : Int) ≤ (b : Int)) = true := decide_eq_true (by omega)
                  have g1n : decide (z ≤ b) = true := decide_eq_true hzb
                  have hsp : spD z b = 384 * ((b : Int) - z) := if_pos hzb
                  obtain ⟨P, hP⟩ : ∃ P : Int, (b : Int) - z = P := ⟨_, rfl⟩
                  have hPb : 0 ≤ P ∧ P ≤ 32 := by omega
                  have g2 : wrap64 ((b : Int) - (z : Int)) = P := by rw [hP]; exact IntWalk.wrap64_in _ (by omega)
                  have g3 : IntKind.i64.wrap ((b : Int) - (z : Int)) = P := by rw [hP]; exact IntWalk.i64_in _ (by omega)
                  have g4 : wrap64 (384 * P) = 384 * P := IntWalk.wrap64_in _ (by omega)
                  have g5 : IntKind.i64.wrap (384 * P) = 384 * P := IntWalk.i64_in _ (by omega)
                  have g6 : wrap64 (x - 384 * P) = x - 384 * P := IntWalk.wrap64_in _ (by omega)
                  have g7 : IntKind.i64.wrap (x - 384 * P) = x - 384 * P := IntWalk.i64_in _ (by omega)
                  rw [hsp, hP] at HNx
                  have hzk : (z : Int) < (k : Int) := by omega
                  clear hx hxd hx0 hx1 hP hPb hsp hv0 hv1 hzt hz hER
                  go_wp2_with fail
                  go_roundw
                  case rel => exact ⟨t + 1, z + 1, by omega, by have := HZ.out; show _ = _; omega, by go_num, by rw [HNx.out], by first | trivial | rfl⟩
                  case measure => simp [intOf]; omega
                · have g1 : decide ((z : Int) ≤ (b : Int)) = false := decide_eq_false (by omega)
                  have g1n : decide (z ≤ b) = false := decide_eq_false hzb
                  have hsp : spD z b = 768 * ((z : Int) - b) := if_neg hzb
                  obtain ⟨P, hP⟩ : ∃ P : Int, (z : Int) - b = P := ⟨_, rfl⟩
                  have hPb : 0 ≤ P ∧ P ≤ 32 := by omega
                  have g2 : wrap64 ((z : Int) - (b : Int)) = P := by rw [hP]; exact IntWalk.wrap64_in _ (by omega)
                  have g3 : IntKind.i64.wrap ((z : Int) - (b : Int)) = P := by rw [hP]; exact IntWalk.i64_in _ (by omega)
                  have g4 : wrap64 (768 * P) = 768 * P := IntWalk.wrap64_in _ (by omega)
                  have g5 : IntKind.i64.wrap (768 * P) = 768 * P := IntWalk.i64_in _ (by omega)
                  have g6 : wrap64 (x - 768 * P) = x - 768 * P := IntWalk.wrap64_in _ (by omega)
                  have g7 : IntKind.i64.wrap (x - 768 * P) = x - 768 * P := IntWalk.i64_in _ (by omega)
                  rw [hsp, hP] at HNx
                  have hzk : (z : Int) < (k : Int) := by omega
                  clear hx hxd hx0 hx1 hP hPb hsp hv0 hv1 hzt hz hER
                  go_wp2_with fail
                  go_roundw
                  case rel => exact ⟨t + 1, z + 1, by omega, by have := HZ.out; show _ = _; omega, by go_num, by rw [HNx.out], by first | trivial | rfl⟩
                  case measure => simp [intOf]; omega
              · obtain rfl : t = m := by omega
                obtain rfl : z = E := by rw [hzt, hER]
                have hzEi : decide ((z : Int) < (z : Int)) = false := decide_eq_false (Int.lt_irrefl _)
                have hzEn : decide (z < z) = false := decide_eq_false (Nat.lt_irrefl _)
                have HVa := Lib.hid (show rvT xs b R t = U.getD b 0 by rw [HR.out]; exact HAll.out b hlt)
                have HTs := Lib.hid (show U.take (b + 1) = U.take b ++ [rvT xs b R t] by
                  rw [HVa.out]
                  obtain ⟨u, hu⟩ : ∃ u, U[b]? = some u := ⟨_, List.getElem?_eq_getElem (by rw [HSl.out]; exact hlt)⟩
                  rw [List.take_add_one, hu, List.getD_eq_getElem?_getD, hu]; rfl)
                generalize rvT xs b R t = V at *
                generalize U.take b = ys at *
                clear hzt hz hER HVa
                go_wp2_with (at_builtin; refine wpList_push rfl (.tmp 86) (.tmp 88) rfl w.heap.size (.slice va b vc) b ys V rfl rfl HOw.out (by omega) hb2 ?_; intro v' w' hown' u'; have R' := Lib.hid hown'; have U' := Lib.hid u'; clear hown' u')
                go_roundw
                case rel => exact ⟨b + 1, by omega, by go_num, by rw [HTs.out]; exact R'.out, upd_ge ((upd_ge' HU.out w.heap.size).trans U'.out (fun _ _ h => h))⟩
                case measure => simp [intOf]; omega
          · obtain rfl : b = k := by omega
            have HTk := Lib.hid (show U.take b = U from List.take_of_length_le (by rw [HSl.out]; exact Nat.le_refl _))
            rw [HTk.out] at HOw
            clear hlt hown hu
            go_wp2_with fail
            go_ret2
            rw [HE.out, HUe.out]
            exact ⟨_, _, _, rfl, by rw [HSl.out]; exact HOw.out, HU.out⟩
  · obtain ⟨z, hz⟩ : ∃ z : Nat, xs.length % m = z := ⟨_, rfl⟩
    have hz0 : 0 < z := by omega
    have t4 : (xs.length : Int) % (m : Int) = (z : Int) := by rw [← hz]; exact (Int.natCast_emod _ _).symm
    have t5 : (xs.length : Int).tmod (m : Int) = (z : Int) := by rw [Int.tmod_eq_emod_of_nonneg (by omega)]; exact t4
    have hzl : z < m := by rw [← hz]; exact Nat.mod_lt _ (by omega)
    have t6 : wrap64 (z : Int) = (z : Int) := IntWalk.wrap64_in _ (by omega)
    have t7 : IntKind.i64.wrap (z : Int) = (z : Int) := IntWalk.i64_in _ (by omega)
    have t8 : decide ((0 : Int) < (z : Int)) = true := decide_eq_true (by omega)
    have t9 : decide (0 < z) = true := decide_eq_true hz0
    have HE := Lib.hid (show sdE xs (m : Int) = 4 by rw [HE0.out, if_neg hr])
    have HS := Lib.hid (show sdS xs (m : Int) = [] from if_neg (by rw [HE.out]; decide))
    rw [HE.out, HS.out]
    generalize xs.length = L at *
    clear h hl hn hr hz
    go_enter Tryd.func48, Tryd.ntmps48
    go_wp2_with fail
    go_ret2
    exact ⟨none, 0, 0, rfl, World.ownsRow_nil _ _ _ _, Upd.refl _ _⟩
end Go.Proofs.YtgdndcbcdoogpaaDoor
