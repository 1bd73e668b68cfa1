/- block: the law that Of takes back Kinds, and of Layout and Laps -/
import Derived.Test.YtmkbpocibpjjaaaMD
import Derived.Test.YtmkbpocibpjjaaaMF
import Derived.Test.YtmkbpocibpjjaaaLU
namespace Go.Proofs.Ytmkbpocibpjjaaa
open Go.RowKit Go.Shelf

theorem kdOf_two (b : Bool) (s : Nat) : decide (kdOf b s = 2) = b := by
  cases b
  · unfold kdOf
    rw [cond_false]
    split
    · rfl
    · split
      · rfl
      · split <;> rfl
  · rfl
theorem kdOf_in (b : Bool) (s : Nat) : 0 ≤ kdOf b s ∧ kdOf b s ≤ 4 := by
  cases b
  · unfold kdOf
    rw [cond_false]
    split
    · omega
    · split
      · omega
      · split <;> omega
  · exact ⟨show (0 : Int) ≤ 2 by decide, show (2 : Int) ≤ 4 by decide⟩
theorem ofB_kds (fs : List Bool) : ofB (kds fs) = fs := by
  refine List.ext_getElem (by simp [ofB, kds]) fun i h1 h2 => ?_
  simp only [ofB, kds, List.getElem_map, List.getElem_range]
  unfold kd
  rw [kdOf_two]
  exact shI_at (List.getElem?_eq_getElem h2)
theorem ofE_kds {fs : List Bool} (h : fs.length ≤ 64) : ofE (kds fs) = 0 := by
  unfold ofE
  rw [if_neg (by rw [kds_length]; omega), if_pos (allIn_of fun k x hx => ?_), ofB_kds, if_pos rfl]
  have hm := List.mem_of_getElem? hx
  unfold kds at hm
  rw [List.mem_map] at hm
  obtain ⟨i, _, rfl⟩ := hm
  exact kdOf_in _ _
theorem ofS_kds {fs : List Bool} (h : fs.length ≤ 64) : ofS (kds fs) = fs := by
  unfold ofS; rw [if_pos (ofE_kds h), ofB_kds]
theorem loO_in (x : Bool) : ∀ y ∈ loO x, y = 16 ∨ y = 128 := by
  intro y hy
  cases x
  · unfold loO at hy; simp at hy; exact .inr hy
  · unfold loO at hy; simp at hy; exact .inl hy
theorem loL_in (fs : List Bool) (k : Nat) : ∀ y ∈ loL fs k, y = 16 ∨ y = 128 := by
  intro y hy
  unfold loL at hy
  rw [List.mem_flatMap] at hy
  obtain ⟨x, _, h⟩ := hy
  exact loO_in x y h
theorem loO_sum (x : Bool) : (loO x).sum = 128 := by cases x <;> decide
theorem loL_sum {fs : List Bool} : ∀ k : Nat, k ≤ fs.length → (loL fs k).sum = 128 * (k : Int)
  | 0, _ => by simp [loL]
  | k + 1, hk => by
    have ih := loL_sum (fs := fs) k (by omega)
    rw [loL_succ (List.getElem?_eq_getElem (show k < fs.length by omega)), List.sum_append, ih, loO_sum]
    omega
theorem lo_get {fs : List Bool} {f r : Nat} {x : Bool} (hx : fs[f]? = some x) (hr : r < (loO x).length) : (loL fs fs.length)[(loL fs f).length + r]? = (loO x)[r]? := by
  have hf := (List.getElem?_eq_some_iff.1 hx).1
  have hs : fs = fs.take f ++ (x :: fs.drop (f + 1)) := by
    have e := (List.getElem?_eq_some_iff.1 hx).2
    rw [← e, List.getElem_cons_drop, List.take_append_drop]
  have h1 : loL fs fs.length = loL fs f ++ (loO x ++ (fs.drop (f + 1)).flatMap loO) := by
    have : loL fs fs.length = fs.flatMap loO := by unfold loL; rw [List.take_length]
    rw [this]
    conv => lhs; rw [hs]
    rw [List.flatMap_append, List.flatMap_cons]
    rfl
  rw [h1, List.getElem?_append_right (by omega), Nat.add_sub_cancel_left, List.getElem?_append_left hr]
theorem loL_mono {fs : List Bool} {f g : Nat} (h : f ≤ g) : (loL fs f).length ≤ (loL fs g).length := by
  unfold loL
  rw [show fs.take f = (fs.take g).take f by rw [List.take_take, Nat.min_eq_left h]]
  conv => rhs; rw [← List.take_append_drop f (fs.take g), List.flatMap_append, List.length_append]
  omega
theorem laL_get {fs : List Bool} {n k : Nat} (hk : k < n) : (laL fs n)[k]? = some ((lapN fs (k + 1) : Nat) : Int) := by
  unfold laL; rw [List.getElem?_map, List.getElem?_range hk]; rfl
theorem lap_min {fs : List Bool} {f : Nat} {x y : Bool} (hx : fs[f]? = some x) (hy : fs[f + 1]? = some y) : ((lapN fs (f + 1) : Nat) : Int) = min (if x then 16 else 128) (if y then 16 else 128) := by
  have hl := (List.getElem?_eq_some_iff.1 hy).1
  unfold lapN
  rw [if_neg (by omega), Nat.add_sub_cancel, getD_of hx, getD_of hy]
  cases x <;> cases y <;> rfl
set_option maxRecDepth 100000 in
set_option maxHeartbeats 1000000 in
theorem is_any (v : Value) (xs : List Int) (w : World) (h : Ints w v xs) (hin : ∀ y ∈ xs, y = 16 ∨ y = 128) (hl : xs.length ≤ 512) : Calls Try.prog 36 #[v] w fun e w' => e = .returned (.bool true) ∧ w = w' := by
  obtain ⟨a, cap, rfl⟩ := h.form
  have H := Lib.hid h
  obtain ⟨L, hL⟩ : ∃ L, xs.length = L := ⟨_, rfl⟩
  have HL := Lib.hid hL
  have HIn := Lib.hid hin
  rw [hL] at H hl ⊢
  have t1 : decide ((L : Int) ≤ 512) = true := decide_eq_true (by omega)
  clear h hL hin
  go_enter Try.func36, Try.ntmps36
  go_wp2
  go_loop [7] (fun i => ∃ k : Nat, k ≤ L ∧ i = .int .i64 k) (fun i => L - (intOf i).toNat)
  case atStart => exact ⟨0, Nat.zero_le _, rfl⟩
  case round =>
    obtain ⟨k, hk, rfl⟩ := hrel
    by_cases hlt : k < L
    · obtain ⟨x, hx⟩ : ∃ x, xs[k]? = some x := ⟨_, List.getElem?_eq_getElem (by rw [HL.out]; exact hlt)⟩
      obtain ⟨b, off, rfl, c0⟩ := H.out.cellAt hx
      rcases HIn.out x (List.mem_of_getElem? hx) with rfl | rfl
      · clear hx
        go_wp2
        go_round
        case rel => exact ⟨k + 1, by omega, by go_num⟩
        case measure => simp [intOf]; omega
      · clear hx
        go_wp2
        go_round
        case rel => exact ⟨k + 1, by omega, by go_num⟩
        case measure => simp [intOf]; omega
    · obtain rfl : k = L := by omega
      go_wp2
      go_ret
      exact ⟨rfl, rfl⟩
theorem sum_bd {xs : List Int} (h : ∀ y ∈ xs, y = 16 ∨ y = 128) : ∀ k : Nat, 0 ≤ (xs.take k).sum ∧ (xs.take k).sum ≤ 128 * (k : Int)
  | 0 => by simp
  | k + 1 => by
    have ih := sum_bd h k
    rw [List.take_add_one, List.sum_append]
    cases e : xs[k]? with
    | none => simp; omega
    | some x =>
      have := h x (List.mem_of_getElem? e)
      simp; omega
theorem sum_succ {xs : List Int} {k : Nat} {x : Int} (h : xs[k]? = some x) : (xs.take (k + 1)).sum = (xs.take k).sum + x := by
  rw [List.take_add_one, List.sum_append, h]; simp
set_option maxRecDepth 100000 in
set_option maxHeartbeats 1000000 in
theorem sum_any (v : Value) (xs : List Int) (w : World) (h : Ints w v xs) (hin : ∀ y ∈ xs, y = 16 ∨ y = 128) (hl : xs.length ≤ 512) : Calls Try.prog 37 #[v] w fun e w' => e = .returned (.int .i64 xs.sum) ∧ w = w' := by
  obtain ⟨a, cap, rfl⟩ := h.form
  have H := Lib.hid h
  obtain ⟨L, hL⟩ : ∃ L, xs.length = L := ⟨_, rfl⟩
  have HL := Lib.hid hL
  have HIn := Lib.hid hin
  have HBd := Lib.hid (fun k => sum_bd hin k)
  have HT := Lib.hid (show (xs.take L).sum = xs.sum by rw [← hL, List.take_length])
  rw [hL] at H hl ⊢
  clear h hL hin
  go_enter Try.func37, Try.ntmps37
  go_wp2
  go_loop [3, 8] (fun s i => ∃ k : Nat, k ≤ L ∧ i = .int .i64 k ∧ s = .int .i64 (xs.take k).sum) (fun _ i => L - (intOf i).toNat)
  case atStart => exact ⟨0, Nat.zero_le _, rfl, rfl⟩
  case round =>
    obtain ⟨k, hk, rfl, rfl⟩ := hrel
    by_cases hlt : k < L
    · obtain ⟨x, hx⟩ : ∃ x, xs[k]? = some x := ⟨_, List.getElem?_eq_getElem (by rw [HL.out]; exact hlt)⟩
      obtain ⟨b, off, rfl, c0⟩ := H.out.cellAt hx
      have hxb := HIn.out x (List.mem_of_getElem? hx)
      have hx0 : 0 ≤ x ∧ x ≤ 128 := by omega
      obtain ⟨b1, b2⟩ := HBd.out k
      have HS := Lib.hid (sum_succ hx)
      generalize (xs.take k).sum = s at *
      clear hx hxb
      go_wp2
      go_round
      case rel => exact ⟨k + 1, by omega, by go_num, by rw [HS.out]⟩
      case measure => simp [intOf]; omega
    · obtain rfl : k = L := by omega
      go_wp2
      go_ret
      exact ⟨by rw [HT.out]; rfl, rfl⟩
end Go.Proofs.Ytmkbpocibpjjaaa
