/- linear: the reference's prediction in mathematics; list, prediction -/
import Derived.Test.YtopjjdfnnjgnlaaTUc
namespace Go.Proofs.Ytopjjdfnnjgnlaa
open Go.RowKit Go.Shelf

def padL (s : List Int) : List Int := (s ++ s0L).take 12
theorem dotL_take : ∀ (ws l : List Int) (n : Nat), ws.length ≤ n → dotL ws (l.take n) = dotL ws l
  | [], l, n, _ => by rw [dotL_nil, dotL_nil]
  | a :: ws, [], n, _ => by rw [List.take_nil]
  | a :: ws, b :: l, 0, h => by simp at h
  | a :: ws, b :: l, n + 1, h => by
    show a * b + dotL ws (l.take n) = a * b + dotL ws l
    rw [dotL_take ws l n (by simpa using h)]
theorem dotL_zero2 : ∀ (l z : List Int), (∀ x ∈ z, x = 0) → dotL l z = 0
  | [], _, _ => dotL_nil _
  | a :: l, [], _ => dotL_nil2 _
  | a :: l, b :: z, h => by
    show a * b + dotL l z = 0
    rw [h b List.mem_cons_self, Int.mul_zero, dotL_zero2 l z (fun x hx => h x (List.mem_cons_of_mem _ hx))]
    rfl
theorem dotL_app2 : ∀ (l m z : List Int), (∀ x ∈ z, x = 0) → dotL l (m ++ z) = dotL l m
  | [], _, _, _ => by rw [dotL_nil, dotL_nil]
  | a :: l, [], z, h => by rw [List.nil_append, dotL_nil2]; exact dotL_zero2 _ z h
  | a :: l, b :: m, z, h => by
    show a * b + dotL l (m ++ z) = a * b + dotL l m
    rw [dotL_app2 l m z h]
theorem prd_pad {ws : List Int} (hl : ws.length ≤ 12) (s : List Int) : prd ws (padL s) = prd ws s := by
  unfold prd padL
  rw [dotL_take _ _ _ hl, dotL_app2 ws s s0L (fun x hx => (List.mem_replicate.1 hx).2)]
theorem see_pad (s : List Int) (v : Int) : seeL (padL s) v = padL (v :: s) := by
  unfold seeL padL
  rw [List.cons_append, List.take_succ_cons, List.take_take]
  rfl
theorem pad_nil : s0L = padL [] := by decide
theorem res_cons {ws : List Int} (hl : ws.length ≤ 12) (s l : List Int) (v : Int) : resG ws (padL s) (v :: l) = (v - prd ws s) :: resG ws (padL (v :: s)) l := by
  show (v - prd ws (padL s)) :: resG ws (seeL (padL s) v) l = _
  rw [prd_pad hl, see_pad]
theorem rst_pad {ws : List Int} (hl : ws.length ≤ 12) (s l : List Int) (v : Int) : rstG ws (padL s) (v :: l) = if -2097152 ≤ v + prd ws s ∧ v + prd ws s ≤ 2097152 then (rstG ws (padL ((v + prd ws s) :: s)) l).map fun y => (v + prd ws s) :: y else none := by
  rw [rstG, prd_pad hl, see_pad]
theorem res_at {ws : List Int} (hl : ws.length ≤ 12) : ∀ (l s : List Int) (n : Nat) (v : Int), l[n]? = some v → (resG ws (padL s) l)[n]? = some (v - prd ws ((l.take n).reverse ++ s))
  | [], _, n, v, h => by simp at h
  | x :: l, s, 0, v, h => by
    rw [List.getElem?_cons_zero] at h
    cases h
    rw [res_cons hl]
    rfl
  | x :: l, s, n + 1, v, h => by
    rw [List.getElem?_cons_succ] at h
    rw [res_cons hl, List.getElem?_cons_succ, res_at hl l (x :: s) n v h, List.take_succ_cons, List.reverse_cons, List.append_assoc]
    rfl
theorem res_take {ws x : List Int} (hl : ws.length ≤ 12) {n : Nat} {v : Int} (h : x[n]? = some v) : (resG ws s0L x).take (n + 1) = (resG ws s0L x).take n ++ [v - prd ws (x.take n).reverse] := by
  rw [pad_nil, List.take_add_one, res_at hl x [] n v h, List.append_nil]
  rfl
theorem rst_step {ws d y : List Int} (hl : ws.length ≤ 12) {n : Nat} {v : Int} (h : d[n]? = some v) (hy : rstG ws s0L d = (rstG ws (padL y.reverse) (d.drop n)).map (y ++ ·)) :
    (¬ (-2097152 ≤ v + prd ws y.reverse ∧ v + prd ws y.reverse ≤ 2097152) → rstG ws s0L d = none) ∧
    ((-2097152 ≤ v + prd ws y.reverse ∧ v + prd ws y.reverse ≤ 2097152) → rstG ws s0L d = (rstG ws (padL (y ++ [v + prd ws y.reverse]).reverse) (d.drop (n + 1))).map ((y ++ [v + prd ws y.reverse]) ++ ·)) := by
  have hd : d.drop n = v :: d.drop (n + 1) := by
    have hn := (List.getElem?_eq_some_iff.1 h)
    rw [List.drop_eq_getElem_cons hn.1, hn.2]
  rw [hd, rst_pad hl] at hy
  constructor
  · intro hc
    rw [hy, if_neg hc]
    rfl
  · intro hc
    rw [hy, if_pos hc, List.reverse_append, Option.map_map]
    show _ = Option.map _ (rstG ws (padL ((v + prd ws y.reverse) :: y.reverse)) _)
    congr 1
    funext z
    simp
theorem dotT_succ : ∀ (ws r : List Int) (k : Nat) (w : Int), ws[k]? = some w → dotL (ws.take (k + 1)) r = dotL (ws.take k) r + w * r.getD k 0
  | [], _, k, w, h => by simp at h
  | a :: ws, [], k, w, h => by rw [dotL_nil2, dotL_nil2]; simp
  | a :: ws, b :: r, 0, w, h => by
    rw [List.getElem?_cons_zero] at h
    cases h
    show a * b + dotL [] r = dotL [] (b :: r) + a * b
    rw [dotL_nil, dotL_nil]
    omega
  | a :: ws, b :: r, k + 1, w, h => by
    rw [List.getElem?_cons_succ] at h
    have ih := dotT_succ ws r k w h
    show a * b + dotL (ws.take (k + 1)) r = a * b + dotL (ws.take k) r + w * r.getD k 0
    rw [ih]
    omega
theorem rev_get {x : List Int} {k : Nat} : x.reverse.getD k 0 = if k < x.length then x.getD (x.length - 1 - k) 0 else 0 := by
  rw [List.getD_eq_getElem?_getD]
  by_cases h : k < x.length
  · rw [if_pos h, List.getElem?_reverse h, List.getD_eq_getElem?_getD]
  · rw [if_neg h, List.getElem?_eq_none (by rw [List.length_reverse]; omega)]
    rfl
theorem inM_rev {m : Int} {x : List Int} (h : inM m x = true) : inM m x.reverse = true := inM_all fun y hy => inM_yes h y (List.mem_reverse.1 hy)
theorem dotT_in {ws r : List Int} (hw : inM 16777216 ws = true) (hr : inM 2097152 r = true) (hl : ws.length ≤ 12) (k : Nat) : -422212465065984 ≤ dotL (ws.take k) r ∧ dotL (ws.take k) r ≤ 422212465065984 := by
  have := prd_in (ws := ws.take k) (s := r) (inM_all fun x hx => inM_yes hw x (List.mem_of_mem_take hx)) hr (by rw [List.length_take]; omega)
  exact ⟨this.1, this.2.1⟩
theorem pix_facts {L k : Nat} (hL : L ≤ 8192) (hk : k ≤ 12) : wrap64 ((L : Int) - 1) = (L : Int) - 1 ∧ IntKind.i64.wrap ((L : Int) - 1) = (L : Int) - 1 ∧ wrap64 ((L : Int) - 1 - (k : Int)) = (L : Int) - 1 - (k : Int) ∧ IntKind.i64.wrap ((L : Int) - 1 - (k : Int)) = (L : Int) - 1 - (k : Int) := by
  refine ⟨IntWalk.wrap64_in _ (by omega), IntWalk.i64_in _ (by omega), IntWalk.wrap64_in _ (by omega), IntWalk.i64_in _ (by omega)⟩
set_option maxRecDepth 100000 in
theorem rlist_any (sv : Value) (xs : List Int) (m : Int) (w : World) (hm : 0 ≤ m ∧ m ≤ 1152921504606846976) (h : Ints w sv xs) : Calls Try.prog 69 #[sv, .int .i64 m] w fun e w' => e = .returned (.int .i64 (ckE m xs)) ∧ w = w' := by
  have HW := Lib.hid (rWithinM_any m sv xs w hm h)
  have HF := Lib.hid (show ckE m xs = if 8192 < xs.length then 2 else if inM m xs = true then 0 else 6 from rfl)
  rw [HF.out]
  obtain ⟨a, cap, rfl⟩ := h.form
  generalize inM m xs = z at *
  generalize xs.length = L at *
  clear h HF hm
  by_cases hL : 8192 < L
  · have t1 : decide ((8192 : Int) < (L : Int)) = true := decide_eq_true (by omega)
    have t2 : decide (8192 < L) = true := decide_eq_true hL
    rw [if_pos hL]
    clear hL
    go_enter Try.func69, Try.ntmps69
    go_wp2_with fail
    go_ret
    exact ⟨rfl, rfl⟩
  · have t1 : decide ((8192 : Int) < (L : Int)) = false := decide_eq_false (by omega)
    have t2 : decide (8192 < L) = false := decide_eq_false hL
    rw [if_neg hL]
    clear hL
    cases z
    · rw [if_neg (by decide)]
      go_enter Try.func69, Try.ntmps69
      go_wp2_with fail
      refine HW.out.mono ?_
      rintro e w' ⟨rfl, rfl⟩
      go_wp2_with fail
      go_ret
      exact ⟨rfl, rfl⟩
    · rw [if_pos rfl]
      go_enter Try.func69, Try.ntmps69
      go_wp2_with fail
      refine HW.out.mono ?_
      rintro e w' ⟨rfl, rfl⟩
      go_wp2_with fail
      go_ret
      exact ⟨rfl, rfl⟩
set_option maxRecDepth 100000 in
set_option maxHeartbeats 4000000 in
theorem rpred_any (sv av : Value) (x ws : List Int) (w : World) (h : Ints w sv x) (ha : Ints w av ws) (hx : inM 2097152 x = true) (hl : x.length ≤ 8192) (hw : inM 16777216 ws = true) (hwl : ws.length ≤ 12) :
    Calls Try.prog 83 #[sv, av] w fun e w' => e = .returned (.int .i64 (prd ws x.reverse)) ∧ w' = w := by
  have H := Lib.hid h; have HA := Lib.hid ha
  have HB := Lib.hid (fun k => dotT_in hw (inM_rev hx) hwl k)
  have HS := Lib.hid (fun k q (hq : ws[k]? = some q) => dotT_succ ws x.reverse k q hq)
  have HR := Lib.hid (fun k => rev_get (x := x) (k := k))
  have HE := Lib.hid (show dotL (ws.take ws.length) x.reverse = dotL ws x.reverse by rw [List.take_length])
  have H0 := Lib.hid (show dotL (ws.take 0) x.reverse = 0 by rw [List.take_zero, dotL_nil])
  have HWi := Lib.hid (fun k q (hq : ws[k]? = some q) => inM_yes hw q (List.mem_of_getElem? hq))
  have HXi := Lib.hid (fun j => getD_in (by decide) hx j)
  have HXo := Lib.hid (fun j (hj : j < x.length) => getD_of hj)
  have HP := Lib.hid (show prd ws x.reverse = rnd (-(dotL ws x.reverse)) 4096 from rfl)
  rw [HP.out]
  obtain ⟨a, cap, rfl⟩ := h.form
  obtain ⟨a2, cap2, rfl⟩ := ha.form
  obtain ⟨L, hL⟩ : ∃ L, x.length = L := ⟨_, rfl⟩
  obtain ⟨M, hM⟩ : ∃ M, ws.length = M := ⟨_, rfl⟩
  have HL := Lib.hid hL; have HM := Lib.hid hM
  rw [hL] at H hl HXo ⊢
  rw [hL] at HR
  rw [hM] at HA hwl HE ⊢
  obtain ⟨DT, hDT⟩ : ∃ DT, dotL ws x.reverse = DT := ⟨_, rfl⟩
  rw [hDT] at HE ⊢
  clear h ha hx hw hL hM hDT HP
  go_enter Try.func83, Try.ntmps83
  go_wp2_with fail
  go_loop [5, 11] (fun s i => ∃ k : Nat, k ≤ M ∧ i = .int .i64 k ∧ s = .int .i64 (dotL (ws.take k) x.reverse)) (fun _ i => M - (intOf i).toNat)
  case atStart => exact ⟨0, Nat.zero_le _, rfl, by rw [H0.out]⟩
  case round =>
    obtain ⟨k, hk, rfl, rfl⟩ := hrel
    by_cases hlt : k < M
    · obtain ⟨q, hq⟩ : ∃ q, ws[k]? = some q := ⟨_, List.getElem?_eq_getElem (by rw [HM.out]; exact hlt)⟩
      obtain ⟨b2, o2, rfl, c2⟩ := HA.out.cellAt hq
      have hqi := HWi.out k q hq
      have hst := HS.out k q hq
      rw [HR.out k] at hst
      obtain ⟨j1, j2, j3, j4⟩ := pix_facts hl (show k ≤ 12 by omega)
      have hS0 := HB.out k
      have hS1 := HB.out (k + 1)
      rw [hst] at hS1
      by_cases hkL : k < L
      · rw [if_pos hkL] at hst hS1
        obtain ⟨r, hr⟩ : ∃ r, L - 1 - k = r := ⟨_, rfl⟩
        rw [hr] at hst hS1
        have hri : (L : Int) - 1 - (k : Int) = (r : Int) := by clear j1 j2 j3 j4; omega
        rw [hri] at j3 j4
        have hrL : r < L := by clear j1 j2 j3 j4; omega
        have hrLi : (r : Int) < (L : Int) := by clear j1 j2 j3 j4; omega
        obtain ⟨b1, o1, rfl, c1⟩ := H.out.cellAt (HXo.out r hrL)
        have hxi := HXi.out r
        have g1 : decide ((0 : Int) ≤ (r : Int)) = true := decide_eq_true (by clear j1 j2 j3 j4; omega)
        generalize x.getD r 0 = X at *
        have hm := abs_mul_in hqi hxi
        obtain ⟨p, hp⟩ : ∃ p, q * X = p := ⟨_, rfl⟩
        rw [hp] at hst hS1 hm
        have HSt := Lib.hid hst
        generalize dotL (ws.take k) x.reverse = S at *
        have z1 : wrap64 (q * X) = p := by rw [hp]; exact IntWalk.wrap64_in _ (by clear j1 j2 j3 j4; omega)
        have z2 : IntKind.i64.wrap (q * X) = p := by rw [hp]; exact IntWalk.i64_in _ (by clear j1 j2 j3 j4 z1; omega)
        have z3 : wrap64 (S + p) = S + p := IntWalk.wrap64_in _ (by clear j1 j2 j3 j4 z1 z2; omega)
        have z4 : IntKind.i64.wrap (S + p) = S + p := IntWalk.i64_in _ (by clear j1 j2 j3 j4 z1 z2 z3; omega)
        clear hq hqi hst hS0 hS1 hm hp hxi hr
        go_wp2_with fail
        go_round
        case rel => exact ⟨k + 1, by clear j1 j2 j3 j4 z1 z2 z3 z4; omega, by go_num, by rw [HSt.out]⟩
        case measure => clear j1 j2 j3 j4 z1 z2 z3 z4; simp [intOf]; omega
      · rw [if_neg hkL, Int.mul_zero, Int.add_zero] at hst
        have HSt := Lib.hid hst
        have g1 : decide ((0 : Int) ≤ (L : Int) - 1 - (k : Int)) = false := decide_eq_false (by clear j1 j2 j3 j4; omega)
        have g2 : ((0 : Int) ≤ (L : Int) - 1 - (k : Int)) = False := eq_false (by clear j1 j2 j3 j4; omega)
        clear hq hqi hst hS0 hS1
        go_wp2_with fail
        go_round
        case rel => exact ⟨k + 1, by clear j1 j2 j3 j4; omega, by go_num, by rw [HSt.out]⟩
        case measure => clear j1 j2 j3 j4; simp [intOf]; omega
    · obtain rfl : k = M := by omega
      have hS0 := HB.out k
      rw [HE.out] at hS0 ⊢
      have z1 : wrap64 (-DT) = -DT := IntWalk.wrap64_in _ (by omega)
      have z2 : IntKind.i64.wrap (-DT) = -DT := IntWalk.i64_in _ (by clear z1; omega)
      have HNr := Lib.hid (near_any (-DT) 4096 w (by decide) (by decide) (by clear z1 z2; omega) (by clear z1 z2; omega))
      clear hlt hS0
      go_wp2_with fail
      refine HNr.out.mono ?_
      rintro e w' ⟨rfl, rfl⟩
      go_wp2_with fail
      go_ret
      exact ⟨rfl, rfl⟩
end Go.Proofs.Ytopjjdfnnjgnlaa
