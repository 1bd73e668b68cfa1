/- linear: the reference's weights, Weights -/
import Derived.Test.YtopjjdfnnjgnlaaTUb
namespace Go.Proofs.Ytopjjdfnnjgnlaa
open Go.RowKit Go.Shelf

theorem push_up {B p c g : Nat} {wr w6 : World} {v : Value} {xs : List Int} {y : Int} (hx : wr.ownsRow B 3 1 v p (i64s xs))
    (h : w6.ownsRow B 3 1 (.slice (some ⟨g, 0, none⟩) (p + 1) c) (p + 1) (i64s xs ++ [.int .i64 y])) (hg : (wr.drew.alloc (.cells #[.int .i64 y] 3)).grownBy w6 v.ownBlock) :
    w6.ownsRow B 3 1 (.slice (some ⟨g, 0, none⟩) (p + 1) c) (p + 1) (i64s (xs ++ [y])) ∧ Upd (fun k => B ≤ k) wr w6 :=
  ⟨by rw [i64s_append]; exact h, (((Upd.refl (fun k => B ≤ k) wr).drew).alloc _).grown hg (fun k hk _ => (hx.lt k hk).1)⟩
theorem wt_take {A : List Int} {x : Int} {p : Nat} (h : p < A.length) : (wtStep A x).take (p + 1) = (wtStep A x).take p ++ [A.getD p 0 + rnd (x * A.getD (A.length - 1 - p) 0) 128] := by
  rw [List.take_add_one]
  have e := getD_of (xs := wtStep A x) (j := p) (by rw [wtStep_len]; omega)
  rw [e, wtStep_get A x p h]
  rfl
theorem wt_end (A : List Int) (x : Int) : wtStep A x = (wtStep A x).take A.length ++ [32 * x] := by
  have e := getD_of (xs := wtStep A x) (j := A.length) (by rw [wtStep_len]; omega)
  have h : (wtStep A x).take (A.length + 1) = wtStep A x := List.take_of_length_le (by rw [wtStep_len]; exact Nat.le_refl _)
  conv => lhs; rw [← h]
  rw [List.take_add_one, e, wtStep_last]
  rfl
theorem ix_facts {p r k : Nat} (hp : p < k) (hk : k ≤ 12) (e : k - 1 - p = r) : wrap64 ((k : Int) - 1) = ((k - 1 : Nat) : Int) ∧ wrap64 (((k - 1 : Nat) : Int) - (p : Int)) = (r : Int) ∧ IntKind.i64.wrap ((k : Int) - 1) = ((k - 1 : Nat) : Int) ∧ IntKind.i64.wrap (((k - 1 : Nat) : Int) - (p : Int)) = (r : Int) := by
  refine ⟨?_, ?_, ?_, ?_⟩
  · rw [IntWalk.wrap64_in _ (by omega)]; omega
  · rw [IntWalk.wrap64_in _ (by omega)]; omega
  · rw [IntWalk.i64_in _ (by omega)]; omega
  · rw [IntWalk.i64_in _ (by omega)]; omega
set_option maxRecDepth 100000 in
set_option maxHeartbeats 8000000 in
theorem rweights_any (sv : Value) (f : List Int) (w : World) (h : Ints w sv f) (hf : isF f = true) : Calls Try.prog 80 #[sv] w (IRes w (wtL f)) := by
  have H := Lib.hid h
  have HFa := Lib.hid (fun k x (hx : f[k]? = some x) => isF_at hf hx)
  have HWb := Lib.hid (fun k => wt_bd (isF_take hf k))
  have HWl := Lib.hid (wtL_len f)
  have HWs := Lib.hid (fun k x (hx : f[k]? = some x) => wtL_succ hx)
  have HW0 := Lib.hid (show wtL (f.take 0) = [] from rfl)
  have HWe := Lib.hid (show wtL (f.take f.length) = wtL f by rw [List.take_length])
  have hN12 : f.length ≤ 12 := (wt_bd hf).2.1
  obtain ⟨i0, hi, hz0, hz1, hz2⟩ := info_parts Try.infoInt
  obtain ⟨a, cap, rfl⟩ := h.form
  obtain ⟨N, hN⟩ : ∃ N, f.length = N := ⟨_, rfl⟩
  have HN := Lib.hid hN
  rw [hN] at H hN12 HWl HWe ⊢
  clear h hN hf
  go_enter Try.func80, Try.ntmps80
  go_wp2_with fail
  go_loopw [3, 10] (fun v i wr => ∃ k : Nat, k ≤ N ∧ i = .int .i64 k ∧ wr.ownsRow w.heap.size 3 1 v k (i64s (wtL (f.take k))) ∧ Upd NoB w wr) (fun _ i _ => N - (intOf i).toNat)
  case atStart => exact ⟨0, Nat.zero_le _, rfl, by rw [HW0.out]; exact World.ownsRow_nil _ _ _ _, Upd.refl _ _⟩
  case round =>
    obtain ⟨k, hk, rfl, hown, hu⟩ := hrel
    obtain ⟨va, vc, rfl⟩ := row_form hown
    by_cases hlt : k < N
    · obtain ⟨x, hx⟩ : ∃ x, f[k]? = some x := ⟨_, List.getElem?_eq_getElem (by rw [HN.out]; exact hlt)⟩
      have hxb := HFa.out k x hx
      have HWk := Lib.hid (HWs.out k x hx)
      obtain ⟨bb, off, rfl, c0⟩ := (H.out.later hu).cellAt hx
      obtain ⟨hAl, _, hAi⟩ := HWb.out k
      have hAl : (wtL (f.take k)).length = k := by rw [hAl, List.length_take, HN.out]; omega
      have HA := Lib.hid (show Ints wr (.slice va k vc) (wtL (f.take k)) from row_ints hown hAl (by omega))
      have HU := Lib.hid hu; have hbs := hu.size
      generalize wtL (f.take k) = A at *
      have HAg := Lib.hid (fun j => getD_in (by decide) hAi j)
      have HTk := Lib.hid (fun p (hp : p < k) => wt_take (A := A) (x := x) (p := p) (by rw [hAl]; exact hp))
      have HEnd := Lib.hid (by have := wt_end A x; rw [hAl] at this; exact this)
      rw [hAl] at HTk
      have HAo := Lib.hid (fun j (hj : j < k) => getD_of (xs := A) (j := j) (by rw [hAl]; exact hj))
      have hk12 : k ≤ 12 := by omega
      have HXb := Lib.hid hxb
      generalize wtStep A x = W at *
      have y5 : wrap64 (32 * x) = 32 * x := IntWalk.wrap64_in _ (by omega)
      have y6 : IntKind.i64.wrap (32 * x) = 32 * x := IntWalk.i64_in _ (by clear y5; omega)
      clear hown hu hx hAl hAi hxb
      obtain ⟨w1, hw1⟩ : ∃ w1, w1 = wr := ⟨_, rfl⟩
      subst hw1
      go_wp2_with fail
      go_loopw [6, 16] (fun v6 i wr => ∃ p : Nat, p ≤ k ∧ i = .int .i64 p ∧ wr.ownsRow w1.heap.size 3 1 v6 p (i64s (W.take p)) ∧ Upd (fun q => w1.heap.size ≤ q) w1 wr) (fun _ i _ => k - (intOf i).toNat)
      case atStart => exact ⟨0, Nat.zero_le _, rfl, World.ownsRow_nil _ _ _ _, Upd.refl _ _⟩
      case round =>
        obtain ⟨p, hp, rfl, hown, hu⟩ := hrel
        obtain ⟨ua, uc, rfl⟩ := row_form hown
        have HR := Lib.hid hown; have HV := Lib.hid hu
        have hb2 := hu.size
        by_cases hlt2 : p < k
        · obtain ⟨r, hr⟩ : ∃ r, k - 1 - p = r := ⟨_, rfl⟩
          have hrk : r < k := by omega
          have hst := HTk.out p hlt2
          rw [hr] at hst
          obtain ⟨j1, j2, j3, j4⟩ := ix_facts hlt2 hk12 hr
          generalize ((k - 1 : Nat) : Int) = K1 at *
          obtain ⟨ab, aoff, ha, c1⟩ := (HA.out.later (upd_ge hu)).cellAt (HAo.out p hlt2)
          obtain ⟨ab', aoff', ha', c2⟩ := (HA.out.later (upd_ge hu)).cellAt (HAo.out r hrk)
          subst ha
          cases ha'
          have hg1 := HAg.out p
          have hg2 := HAg.out r
          generalize A.getD p 0 = X at *
          generalize A.getD r 0 = Y at *
          have m0 := mul_in HXb.out hg2
          have r0 := rnd_in (by decide) m0
          have HNr := Lib.hid (fun V => near_any (x * Y) 128 V (by decide) (by decide) (by clear j1 j2 j3 j4 y5 y6; omega) (by clear j1 j2 j3 j4 y5 y6; omega))
          obtain ⟨q, hq⟩ : ∃ q, x * Y = q := ⟨_, rfl⟩
          rw [hq] at m0 r0 HNr hst
          obtain ⟨R, hR⟩ : ∃ R, rnd q 128 = R := ⟨_, rfl⟩
          rw [hR] at r0 HNr hst
          have z1 : wrap64 (x * Y) = q := by rw [hq]; exact IntWalk.wrap64_in _ (by clear j1 j2 j3 j4 y5 y6; omega)
          have z2 : IntKind.i64.wrap (x * Y) = q := by rw [hq]; exact IntWalk.i64_in _ (by clear j1 j2 j3 j4 y5 y6 z1; omega)
          have z3 : wrap64 (X + R) = X + R := IntWalk.wrap64_in _ (by clear j1 j2 j3 j4 y5 y6 z1 z2; omega)
          have z4 : IntKind.i64.wrap (X + R) = X + R := IntWalk.i64_in _ (by clear j1 j2 j3 j4 y5 y6 z1 z2 z3; omega)
          have HSt := Lib.hid hst
          have d1 : wr.drew.cell? ⟨ab, aoff + p, none⟩ = some (.int .i64 X) := c1
          have d2 : wr.drew.cell? ⟨ab, aoff + r, none⟩ = some (.int .i64 Y) := c2
          obtain ⟨xs, hxs⟩ : ∃ xs, W.take p = xs := ⟨_, rfl⟩
          rw [hxs] at HR HSt
          have HP := Lib.hid (fun (w6 : World) (g6 c6 : Nat) => push_up (B := w1.heap.size) (wr := wr) (w6 := w6) (g := g6) (c := c6) (p := p) (v := .slice ua p uc) (xs := xs) (y := X + R) HR.out)
          have C3 := Lib.hid (show p + 1 ≤ maxLen by unfold maxLen; clear j1 j2 j3 j4 y5 y6 z1 z2 z3 z4; omega)
          have C4 := Lib.hid (show (p + 1) * 8 ≤ 140737488355328 by clear j1 j2 j3 j4 y5 y6 z1 z2 z3 z4; omega)
          have pk : (p : Int) < (k : Int) := by clear j1 j2 j3 j4 y5 y6 z1 z2 z3 z4; omega
          have rk : (r : Int) < (k : Int) := by clear j1 j2 j3 j4 y5 y6 z1 z2 z3 z4; omega
          clear hown hu hq hR hst m0 r0 hg1 hg2 hxs hr
          go_wp2
          go_region_law (first
            | (refine step_append_lies _ (by rfl) _ _ _ (by rfl) w1.heap.size 3 i0 (.int .i64 0) 1 8 Try.underlying22 hi hz0 hz1 hz2 (by rfl) (by decide) _ p (i64s xs) (by rfl) (by exact ((Upd.refl NoB wr).drew.alloc _).row HR.out (fun q _ => noB q)) ⟨wr.heap.size, 0, none⟩ 1 1 [.int .i64 (X + R)] (by rfl) (by rfl) (by exact World.news_of_block (heap_alloc_new wr.drew _)) (by intro q hq; rw [List.mem_singleton] at hq; subst hq; rfl) (by decide) C3.out C4.out (by exact Nat.le_trans hb2 ((Upd.refl NoB wr).drew.alloc _).size) _ (by rfl) ?_; intro g6 c6 w6 hown6 hg6 hat6 hlt6; have HX5 := Lib.hid (HP.out w6 g6 c6 hown6 hg6); clear hown6 hg6 hat6 hlt6)
            | (go_simp; go_at_call 76; refine (HNr.out _).mono ?_; rintro e w4 ⟨rfl, rfl⟩))
          all_goals
            go_wp2_with fail
            go_roundw
            case rel => exact ⟨p + 1, by clear j1 j2 j3 j4 y5 y6 z1 z2 z3 z4; omega, by go_num, by rw [HSt.out]; exact HX5.out.1, HV.out.trans HX5.out.2 (fun _ _ h => h)⟩
            case measure => clear j1 j2 j3 j4 y5 y6 z1 z2 z3 z4; simp [intOf]; omega
        · obtain rfl : p = k := by clear y5 y6; omega
          have hww : w1.heap.size ≤ wr.heap.size := hb2
          have hk1 : p ≤ 1000000 := by clear y5 y6; omega
          clear hown hu hlt2
          go_wp2_with (at_builtin; refine wpList_push rfl (.tmp 39) (.tmp 42) rfl w1.heap.size (.slice ua p uc) p (W.take p) (32 * x) rfl rfl HR.out hk1 hww ?_; intro v' w' hown' u'; have R' := Lib.hid hown'; have U' := Lib.hid u'; clear hown' u')
          go_roundw
          case rel => exact ⟨p + 1, by clear y5 y6; omega, by go_num, by rw [HWk.out, HEnd.out]; exact row_base R'.out hbs, HU.out.then (upd_ge (HV.out.trans U'.out (fun _ _ h => h)))⟩
          case measure => clear y5 y6; simp [intOf]; omega
    · obtain rfl : k = N := by omega
      rw [HWe.out] at hown
      have HR := Lib.hid hown; have HU := Lib.hid hu
      clear hown hu hlt
      go_wp2_with fail
      go_ret
      exact ⟨_, rfl, by rw [HWl.out]; exact HR.out, HU.out⟩
end Go.Proofs.Ytopjjdfnnjgnlaa
