/- linear: the reference's Trim, weights, Weights -/
import Derived.Test.YtopjjdfnnjgnlaaTUa
namespace Go.Proofs.Ytopjjdfnnjgnlaa
open Go.RowKit Go.Shelf

set_option maxRecDepth 100000 in
set_option maxHeartbeats 4000000 in
theorem rTrim_any (sv : Value) (xs : List Int) (w : World) (h : Ints w sv xs) : Calls Try.prog 43 #[sv] w (EInts w (tmS xs) (tmE xs)) := by
  have HC := Lib.hid (rIs_any sv xs w h)
  have H := Lib.hid h
  have HE := Lib.hid (show tmE xs = if isF xs = true then 0 else 1 from rfl)
  have HS := Lib.hid (show tmS xs = if isF xs = true then xs.take (tmN xs xs.length) else [] from rfl)
  obtain ⟨a, cap, rfl⟩ := h.form
  have hcap : xs.length ≤ cap := by
    obtain ⟨_, a', c', e, ⟨hcc, _⟩, _⟩ := h
    injection e with _ _ e3
    omega
  cases hf : isF xs with
  | false =>
    rw [hf] at HE HS HC
    rw [if_neg (by decide)] at HE HS
    rw [HE.out, HS.out]
    generalize xs.length = L at *
    clear h hf
    go_enter Try.func43, Try.ntmps43
    go_wp2_with fail
    refine HC.out.mono ?_
    rintro e w1 ⟨rfl, rfl⟩
    go_wp2_with fail
    go_ret2
    exact ⟨none, 0, 0, rfl, World.ownsRow_nil _ _ _ _, Upd.refl _ _⟩
  | true =>
    rw [hf] at HE HS HC
    rw [if_pos rfl] at HE HS
    have hl12 := (wt_bd hf).2.1
    rw [HE.out, HS.out]
    have HTk := Lib.hid (fun e (he : e ≤ xs.length) => (show (xs.take e).length = e by rw [List.length_take]; omega))
    have HZ := Lib.hid (fun e x (hx : xs[e]? = some x) => tmN_step xs e x hx)
    have HN0 := Lib.hid (show tmN xs 0 = 0 from rfl)
    obtain ⟨L, hL⟩ : ∃ L, xs.length = L := ⟨_, rfl⟩
    have HL := Lib.hid hL
    rw [hL] at H HC hcap hl12 HTk ⊢
    clear h hf hL
    go_enter Try.func43, Try.ntmps43
    go_wp2_with fail
    refine HC.out.mono ?_
    rintro e w1 ⟨rfl, hw1⟩
    subst hw1
    have U1 := Lib.hid (Upd.refl NoB w); have H1 := Lib.hid H.out
    go_wp2_with fail
    go_loop [4] (fun i => ∃ e : Nat, e ≤ L ∧ i = .int .i64 (e : Int) ∧ tmN xs L = tmN xs e) (fun i => (intOf i).toNat)
    case atStart => exact ⟨L, Nat.le_refl _, rfl, rfl⟩
    case round =>
      obtain ⟨e, he, rfl, hte⟩ := hrel
      have HTe := Lib.hid hte
      by_cases he0 : e = 0
      · subst he0
        have hte' := hte
        rw [hte, HN0.out]
        have HI := Lib.hid (show Ints w (.slice a 0 cap) [] from by
          obtain ⟨_, a', c', e', ⟨hcc, hcn⟩, _⟩ := H1.out
          injection e' with e1 _ e3
          subst e1; subst e3
          exact ⟨Nat.zero_le _, a, cap, rfl, ⟨Nat.zero_le _, hcn⟩, .inl rfl⟩)
        have hsl := fun w => run_slice_pre w a L cap 0 (Nat.zero_le _)
        have HT0 := Lib.hid (show xs.take 0 = [] from rfl)
        rw [HT0.out]
        clear hte he
        go_wp2_with (at_builtin; refine wpList_copyI rfl _ _ rfl _ [] rfl rfl HI.out ?_)
        intro v2 w2 r2 u2
        obtain ⟨va, vc, rfl⟩ := row_form r2
        have R2 := Lib.hid r2; have U2 := Lib.hid (U1.out.then u2)
        clear r2 u2
        go_wp2_with fail
        go_ret2
        exact ⟨_, _, _, rfl, by rw [hte', HN0.out, HT0.out]; exact row_base R2.out U1.out.size, U2.out⟩
      · obtain ⟨k, hk⟩ : ∃ k, e = k + 1 := ⟨e - 1, by omega⟩
        have hw1 : wrap64 ((e : Int) - 1) = (k : Int) := by rw [IntWalk.wrap64_in _ (by omega)]; omega
        have hw2 : IntKind.i64.wrap ((e : Int) - 1) = (k : Int) := by rw [IntWalk.i64_in _ (by omega)]; omega
        obtain ⟨x, hx⟩ : ∃ x, xs[k]? = some x := ⟨_, List.getElem?_eq_getElem (by rw [HL.out]; omega)⟩
        obtain ⟨bb, off, hae, c0⟩ := H1.out.cellAt hx
        have he1 : 0 < e := by omega
        have he1i : (0 : Int) < (e : Int) := by omega
        have hki : (k : Int) < (L : Int) := by omega
        have hkL : k < L := by omega
        have HKe := Lib.hid hk
        have hzs := HZ.out k x hx
        by_cases hx0 : x = 0
        · have HNx := Lib.hid (show tmN xs L = tmN xs k by rw [hte, hk, hzs, if_pos hx0])
          have g1 : (x == 0) = true := by rw [beq_iff_eq]; exact hx0
          have g2 : decide (x = 0) = true := decide_eq_true hx0
          subst hae
          subst hx0
          clear hte hx hk hzs
          go_wp2_with fail
          go_round
          case rel => exact ⟨k, by omega, by go_num, HNx.out⟩
          case measure => have := HKe.out; simp [intOf]; omega
        · have HNx := Lib.hid (show tmN xs L = e by rw [hte, hk, hzs, if_neg hx0])
          have g1 : (x == 0) = false := by rw [beq_eq_false_iff_ne]; exact hx0
          have g2 : decide (x = 0) = false := decide_eq_false hx0
          rw [HNx.out]
          have hsl := fun w => run_slice_pre w a L cap e (by omega)
          have HI := Lib.hid (show Ints w (.slice a e cap) (xs.take e) from by
            have h1 := Ints.pre H1.out e (by rw [HL.out]; exact he)
            rw [HTk.out e he] at h1
            exact h1)
          subst hae
          clear hte hx hk hzs hx0
          go_wp2_with (at_builtin; refine wpList_copyI rfl _ _ rfl _ (xs.take e) rfl rfl HI.out ?_)
          intro v2 w2 r2 u2
          rw [HL.out, Nat.min_eq_left he] at r2
          obtain ⟨va, vc, rfl⟩ := row_form r2
          have R2 := Lib.hid r2; have U2 := Lib.hid (U1.out.then u2)
          clear r2 u2
          go_wp2_with fail
          go_ret2
          exact ⟨_, _, _, rfl, by rw [HNx.out, HTk.out e he]; exact row_base R2.out U1.out.size, U2.out⟩
end Go.Proofs.Ytopjjdfnnjgnlaa
