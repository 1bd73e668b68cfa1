/- linear: the reference's Add (made by tools/mkTUg.py) -/
import Derived.Test.YtopjjdfnnjgnlaaTUf
namespace Go.Proofs.Ytopjjdfnnjgnlaa
open Go.RowKit Go.Shelf

def fs0 : List Int := []
theorem ad_cases (x : List Int) (n : Nat) (hn : n ≤ 4) : (ckE 67108864 x ≠ 0 → adS x n = [] ∧ adE x n = ckE 67108864 x) ∧
    (ckE 67108864 x = 0 → (addK n x = none → adS x n = [] ∧ adE x n = 6) ∧ (∀ y, addK n x = some y → adS x n = y ∧ adE x n = 0)) := by
  have e : adE x n = if ckE 67108864 x = 0 then (if (addK n x).isSome then 0 else 6) else ckE 67108864 x := by
    unfold adE
    rw [if_neg (by omega), Int.toNat_natCast]
  have s : adS x n = if adE x n = 0 then (addK n x).getD [] else [] := by
    unfold adS
    rw [Int.toNat_natCast]
  refine ⟨fun h => ?_, fun h => ⟨fun hn => ?_, fun y hy => ?_⟩⟩
  · rw [if_neg h] at e
    rw [s, e, if_neg h]
    exact ⟨rfl, rfl⟩
  · rw [if_pos h, hn, if_neg (by decide)] at e
    rw [s, e, if_neg (by decide)]
    exact ⟨rfl, rfl⟩
  · rw [if_pos h, hy, if_pos (by rfl)] at e
    rw [s, e, if_pos rfl, hy]
    exact ⟨rfl, rfl⟩
theorem pre_dot0 (y : List Int) : preG 0 y = dotL fs0 y.reverse := by
  rw [show dotL fs0 y.reverse = 0 from dotL_nil _]; rfl
set_option maxRecDepth 100000 in
set_option maxHeartbeats 8000000 in
theorem rAdd0_any (sv : Value) (x : List Int) (w : World) (h : Ints w sv x) : Calls Try.prog 37 #[sv, .int .i64 0] w (EInts w (adS x (0 : Nat)) (adE x (0 : Nat))) := by
  have HX := Lib.hid h
  have HC := Lib.hid (rlist_any sv x 67108864 w (by decide) h)
  have HS := Lib.hid (ad_cases x 0 (by decide))
  by_cases hc : ckE 67108864 x = 0
  · obtain ⟨hxl, hxi⟩ := ckE_ok hc
    rw [hc] at HC
    have HS1 := Lib.hid (HS.out.2 hc)
    have HSt := Lib.hid (fun (y : List Int) k v (hv : x[k]? = some v) hy => add_step (k := 0) (by decide) (d := x) (y := y) (n := k) (v := v) hv hy)
    have HEn := Lib.hid (fun (y : List Int) (hy : difK 0 y = x) hi => add_end (k := 0) hy hi)
    have HXi := Lib.hid (fun k v (hv : x[k]? = some v) => inM_yes hxi v (List.mem_of_getElem? hv))
    have H0 := Lib.hid (show difK 0 ([] : List Int) = x.take 0 by rw [List.take_zero]; rfl)
    have HTa := Lib.hid (show x.take x.length = x from List.take_length)
    have HF := Lib.hid (show ((((((w.alloc (.cells #[] 3)).alloc (.cells #[.int .i64 1] 3)).alloc (.cells #[.int .i64 2, .int .i64 (-1)] 3)).alloc (.cells #[.int .i64 3, .int .i64 (-3), .int .i64 1] 3)).alloc (.cells #[.int .i64 4, .int .i64 (-6), .int .i64 4, .int .i64 (-1)] 3)).alloc (.cells #[.slice (some ⟨w.heap.size, 0, none⟩) 0 0, .slice (some ⟨w.heap.size + 1, 0, none⟩) 1 1, .slice (some ⟨w.heap.size + 1 + 1, 0, none⟩) 2 2, .slice (some ⟨w.heap.size + 1 + 1 + 1, 0, none⟩) 3 3, .slice (some ⟨w.heap.size + 1 + 1 + 1 + 1, 0, none⟩) 4 4] 22)).heap[w.heap.size]? = some (.cells (i64s fs0).toArray 3 (0, 0)) by
      have e := heap_alloc_new w (.cells #[] 3)
      try simp only [size_alloc] at e
      exact ((((((Upd.refl NoB (w.alloc (.cells #[] 3))).alloc _).alloc _).alloc _).alloc _).alloc _).heap e (noB _))
    have HUw := Lib.hid (show Upd NoB w ((((((w.alloc (.cells #[] 3)).alloc (.cells #[.int .i64 1] 3)).alloc (.cells #[.int .i64 2, .int .i64 (-1)] 3)).alloc (.cells #[.int .i64 3, .int .i64 (-3), .int .i64 1] 3)).alloc (.cells #[.int .i64 4, .int .i64 (-6), .int .i64 4, .int .i64 (-1)] 3)).alloc (.cells #[.slice (some ⟨w.heap.size, 0, none⟩) 0 0, .slice (some ⟨w.heap.size + 1, 0, none⟩) 1 1, .slice (some ⟨w.heap.size + 1 + 1, 0, none⟩) 2 2, .slice (some ⟨w.heap.size + 1 + 1 + 1, 0, none⟩) 3 3, .slice (some ⟨w.heap.size + 1 + 1 + 1 + 1, 0, none⟩) 4 4] 22)) from (((((((Upd.refl NoB w).alloc _).alloc _).alloc _).alloc _).alloc _).alloc _))
    obtain ⟨a, cap, rfl⟩ := h.form
    obtain ⟨RS, hRS⟩ : ∃ RS, adS x (0 : Nat) = RS := ⟨_, rfl⟩
    obtain ⟨RE, hRE⟩ : ∃ RE, adE x (0 : Nat) = RE := ⟨_, rfl⟩
    rw [hRS, hRE] at HS1 ⊢
    obtain ⟨L, hL⟩ : ∃ L, x.length = L := ⟨_, rfl⟩
    have HL := Lib.hid hL
    rw [hL] at HX HC hxl HTa ⊢
    have hL8 : L ≤ 8192 := hxl
    clear h hc hxl hxi hRS hRE hL HS
    go_enter Try.func37, Try.ntmps37
    go_wp2_with fail
    refine HC.out.mono ?_
    rintro e w1 ⟨rfl, rfl⟩
    go_wp2_with fail
    have IF := Lib.hid (Ints.ofBlock (xs := fs0) (by decide) HF.out)
    have U2 := HUw.out
    clear HF HUw
    generalize ((((((w.alloc (.cells #[] 3)).alloc (.cells #[.int .i64 1] 3)).alloc (.cells #[.int .i64 2, .int .i64 (-1)] 3)).alloc (.cells #[.int .i64 3, .int .i64 (-3), .int .i64 1] 3)).alloc (.cells #[.int .i64 4, .int .i64 (-6), .int .i64 4, .int .i64 (-1)] 3)).alloc (.cells #[.slice (some ⟨w.heap.size, 0, none⟩) 0 0, .slice (some ⟨w.heap.size + 1, 0, none⟩) 1 1, .slice (some ⟨w.heap.size + 1 + 1, 0, none⟩) 2 2, .slice (some ⟨w.heap.size + 1 + 1 + 1, 0, none⟩) 3 3, .slice (some ⟨w.heap.size + 1 + 1 + 1 + 1, 0, none⟩) 4 4] 22)) = w2 at *
    generalize w.heap.size = g at *
    have HU2 := Lib.hid U2; have hsz := U2.size
    clear U2
    go_loopw [8, 35] (fun v i wr => ∃ (k : Nat) (y : List Int), k ≤ L ∧ i = .int .i64 k ∧ wr.ownsRow w2.heap.size 3 1 v k (i64s y) ∧ y.length = k ∧ inM 2097152 y = true ∧ difK 0 y = x.take k ∧ Upd NoB w2 wr) (fun _ i _ => L - (intOf i).toNat)
    case atStart => exact ⟨0, [], Nat.zero_le _, rfl, World.ownsRow_nil _ _ _ _, rfl, rfl, H0.out, Upd.refl _ _⟩
    case round =>
      obtain ⟨k, y, hk, rfl, hown, hyl, hyi, hry, hu⟩ := hrel
      obtain ⟨va, vc, rfl⟩ := row_form hown
      have HO := Lib.hid hown; have HU := Lib.hid hu
      have hb := hu.size
      by_cases hlt : k < L
      · obtain ⟨v, hv⟩ : ∃ v, x[k]? = some v := ⟨_, List.getElem?_eq_getElem (by rw [HL.out]; exact hlt)⟩
        obtain ⟨bb, off, rfl, c0⟩ := (HX.out.later (HU2.out.then hu)).cellAt hv
        have HVi := Lib.hid (HXi.out k v hv)
        obtain ⟨g1, g2⟩ := HSt.out y k v hv hry
        have HG1 := Lib.hid g1; have HG2 := Lib.hid g2
        have HYl := Lib.hid hyl; have HYi := Lib.hid hyi
        have IY := Lib.hid (row_ints HO.out hyl (by omega))
        have IF2 := Lib.hid (IF.out.later hu)
        have HB := Lib.hid (fun p => dotT_in (ws := fs0) (by decide) (inM_rev hyi) (by decide) p)
        have HSs := Lib.hid (fun p q (hq : fs0[p]? = some q) => dotT_succ fs0 y.reverse p q hq)
        have HR := Lib.hid (fun p => rev_get (x := y) (k := p))
        have HFi := Lib.hid (fun p q (hq : fs0[p]? = some q) => inM_yes (m := 6) (by decide) q (List.mem_of_getElem? hq))
        have HYg := Lib.hid (fun j => getD_in (by decide) hyi j)
        have HYo := Lib.hid (fun j (hj : j < y.length) => getD_of hj)
        have HPd := Lib.hid (pre_dot0 y)
        have HZ := Lib.hid (show dotL (fs0.take 0) y.reverse = 0 by rw [List.take_zero, dotL_nil])
        have HEd := Lib.hid (show dotL (fs0.take 0) y.reverse = dotL fs0 y.reverse from rfl)
        have HFl := Lib.hid (show (fs0).length = 0 from rfl)
        rw [hyl] at HR HYo
        rw [HPd.out] at HG1 HG2
        clear hown hu hv hyl hyi hry g1 g2
        generalize fs0 = fs at *
        go_wp2_with fail
        go_loop [10, 42] (fun s i => ∃ p : Nat, p ≤ 0 ∧ i = .int .i64 p ∧ s = .int .i64 (v + dotL (fs.take p) y.reverse)) (fun _ i => 0 - (intOf i).toNat)
        case atStart => exact ⟨0, Nat.zero_le _, rfl, by rw [HZ.out, Int.add_zero]⟩
        case round =>
          obtain ⟨p, hp, rfl, rfl⟩ := hrel
          by_cases hlt2 : p < 0
          · exact absurd hlt2 (Nat.not_lt_zero _)
          · obtain rfl : p = 0 := by omega
            have hS0 := HB.out 0
            have hvi := HVi.out
            rw [HEd.out] at hS0 ⊢
            obtain ⟨u, huu⟩ : ∃ u, v + dotL fs y.reverse = u := ⟨_, rfl⟩
            rw [huu] at HG1 HG2 ⊢
            have hk1 : k ≤ 1000000 := by omega
            clear hlt2 hp hS0 hvi huu
            by_cases b1 : u < -2097152
            · have s1 : decide (u < -2097152) = true := decide_eq_true b1
              obtain ⟨q1, q2⟩ := HS1.out.1 (HG2.out (by omega))
              have Q1 := Lib.hid q1; have Q2 := Lib.hid q2
              clear b1 q1 q2
              go_wp2_with fail
              go_ret2
              exact ⟨none, 0, 0, by rw [Q2.out]; rfl, by rw [Q1.out]; exact World.ownsRow_nil _ _ _ _, HU2.out.then HU.out⟩
            · have s1 : decide (u < -2097152) = false := decide_eq_false b1
              by_cases b2 : 2097152 < u
              · have s2 : decide (2097152 < u) = true := decide_eq_true b2
                obtain ⟨q1, q2⟩ := HS1.out.1 (HG2.out (by omega))
                have Q1 := Lib.hid q1; have Q2 := Lib.hid q2
                clear b1 b2 q1 q2
                go_wp2_with fail
                go_ret2
                exact ⟨none, 0, 0, by rw [Q2.out]; rfl, by rw [Q1.out]; exact World.ownsRow_nil _ _ _ _, HU2.out.then HU.out⟩
              · have s2 : decide (2097152 < u) = false := decide_eq_false b2
                have HYn := Lib.hid (show inM 2097152 (y ++ [u]) = true from inM_all fun q hq => by
                  rw [List.mem_append, List.mem_singleton] at hq
                  rcases hq with hq | rfl
                  · exact inM_yes HYi.out q hq
                  · omega)
                clear b1 b2
                go_wp2_with (at_builtin; refine wpList_push rfl (.tmp 70) (.tmp 72) rfl w2.heap.size (.slice va k vc) k y u rfl rfl HO.out hk1 hb ?_; intro v' w' hown' u'; have R' := Lib.hid hown'; have U' := Lib.hid u'; clear hown' u')
                go_roundw
                case rel => exact ⟨k + 1, y ++ [u], by omega, by go_num, R'.out, by rw [List.length_append, HYl.out]; rfl, HYn.out, HG1.out, upd_ge ((upd_ge' HU.out w2.heap.size).trans U'.out (fun _ _ h => h))⟩
                case measure => simp [intOf]; omega
      · obtain rfl : k = L := by omega
        rw [HTa.out] at hry
        obtain ⟨q1, q2⟩ := HS1.out.2 y (HEn.out y hry hyi)
        have Q1 := Lib.hid q1; have Q2 := Lib.hid q2; have HYl := Lib.hid hyl
        clear hown hu hlt hyl hyi hry q1 q2
        go_wp2_with fail
        go_ret2
        exact ⟨_, _, _, by rw [Q2.out]; rfl, by rw [Q1.out, HYl.out]; exact row_base HO.out hsz, HU2.out.then HU.out⟩
  · obtain ⟨q1, q2⟩ := HS.out.1 hc
    rw [q1, q2]
    obtain ⟨C, hC⟩ : ∃ C, ckE 67108864 x = C := ⟨_, rfl⟩
    rw [hC] at HC hc ⊢
    have hc0 : (C == 0) = false := beq_eq_false_iff_ne.2 hc
    obtain ⟨a, cap, rfl⟩ := h.form
    generalize x.length = L at *
    clear h hc hC q1 q2
    go_enter Try.func37, Try.ntmps37
    go_wp2_with fail
    refine HC.out.mono ?_
    rintro e w1 ⟨rfl, rfl⟩
    go_wp2_with fail
    go_ret2
    exact ⟨none, 0, 0, rfl, World.ownsRow_nil _ _ _ _, Upd.refl _ _⟩
theorem pre_dot1 (y : List Int) : preG 1 y = dotL [(1 : Int)] y.reverse := by
  have e0 : dotL ([(1 : Int)].take 1) y.reverse = dotL ([(1 : Int)].take 0) y.reverse + (1) * bkG y 0 := dotT_succ [(1 : Int)] y.reverse 0 (1) rfl
  have z : dotL ([(1 : Int)].take 0) y.reverse = 0 := dotL_nil _
  have t : [(1 : Int)].take 1 = [(1 : Int)] := rfl
  rw [t] at e0
  show bkG y 0 = _
  omega
set_option maxRecDepth 100000 in
set_option maxHeartbeats 8000000 in
theorem rAdd1_any (sv : Value) (x : List Int) (w : World) (h : Ints w sv x) : Calls Try.prog 37 #[sv, .int .i64 1] w (EInts w (adS x (1 : Nat)) (adE x (1 : Nat))) := by
  have HX := Lib.hid h
  have HC := Lib.hid (rlist_any sv x 67108864 w (by decide) h)
  have HS := Lib.hid (ad_cases x 1 (by decide))
  by_cases hc : ckE 67108864 x = 0
  · obtain ⟨hxl, hxi⟩ := ckE_ok hc
    rw [hc] at HC
    have HS1 := Lib.hid (HS.out.2 hc)
    have HSt := Lib.hid (fun (y : List Int) k v (hv : x[k]? = some v) hy => add_step (k := 1) (by decide) (d := x) (y := y) (n := k) (v := v) hv hy)
    have HEn := Lib.hid (fun (y : List Int) (hy : difK 1 y = x) hi => add_end (k := 1) hy hi)
    have HXi := Lib.hid (fun k v (hv : x[k]? = some v) => inM_yes hxi v (List.mem_of_getElem? hv))
    have H0 := Lib.hid (show difK 1 ([] : List Int) = x.take 0 by rw [List.take_zero]; rfl)
    have HTa := Lib.hid (show x.take x.length = x from List.take_length)
    have HF := Lib.hid (show ((((((w.alloc (.cells #[] 3)).alloc (.cells #[.int .i64 1] 3)).alloc (.cells #[.int .i64 2, .int .i64 (-1)] 3)).alloc (.cells #[.int .i64 3, .int .i64 (-3), .int .i64 1] 3)).alloc (.cells #[.int .i64 4, .int .i64 (-6), .int .i64 4, .int .i64 (-1)] 3)).alloc (.cells #[.slice (some ⟨w.heap.size, 0, none⟩) 0 0, .slice (some ⟨w.heap.size + 1, 0, none⟩) 1 1, .slice (some ⟨w.heap.size + 1 + 1, 0, none⟩) 2 2, .slice (some ⟨w.heap.size + 1 + 1 + 1, 0, none⟩) 3 3, .slice (some ⟨w.heap.size + 1 + 1 + 1 + 1, 0, none⟩) 4 4] 22)).heap[w.heap.size + 1]? = some (.cells (i64s [(1 : Int)]).toArray 3 (0, 0)) by
      have e := heap_alloc_new (w.alloc (.cells #[] 3)) (.cells #[.int .i64 1] 3)
      try simp only [size_alloc] at e
      exact (((((Upd.refl NoB ((w.alloc (.cells #[] 3)).alloc (.cells #[.int .i64 1] 3))).alloc _).alloc _).alloc _).alloc _).heap e (noB _))
    have HUw := Lib.hid (show Upd NoB w ((((((w.alloc (.cells #[] 3)).alloc (.cells #[.int .i64 1] 3)).alloc (.cells #[.int .i64 2, .int .i64 (-1)] 3)).alloc (.cells #[.int .i64 3, .int .i64 (-3), .int .i64 1] 3)).alloc (.cells #[.int .i64 4, .int .i64 (-6), .int .i64 4, .int .i64 (-1)] 3)).alloc (.cells #[.slice (some ⟨w.heap.size, 0, none⟩) 0 0, .slice (some ⟨w.heap.size + 1, 0, none⟩) 1 1, .slice (some ⟨w.heap.size + 1 + 1, 0, none⟩) 2 2, .slice (some ⟨w.heap.size + 1 + 1 + 1, 0, none⟩) 3 3, .slice (some ⟨w.heap.size + 1 + 1 + 1 + 1, 0, none⟩) 4 4] 22)) from (((((((Upd.refl NoB w).alloc _).alloc _).alloc _).alloc _).alloc _).alloc _))
    obtain ⟨a, cap, rfl⟩ := h.form
    obtain ⟨RS, hRS⟩ : ∃ RS, adS x (1 : Nat) = RS := ⟨_, rfl⟩
    obtain ⟨RE, hRE⟩ : ∃ RE, adE x (1 : Nat) = RE := ⟨_, rfl⟩
    rw [hRS, hRE] at HS1 ⊢
    obtain ⟨L, hL⟩ : ∃ L, x.length = L := ⟨_, rfl⟩
    have HL := Lib.hid hL
    rw [hL] at HX HC hxl HTa ⊢
    have hL8 : L ≤ 8192 := hxl
    clear h hc hxl hxi hRS hRE hL HS
    go_enter Try.func37, Try.ntmps37
    go_wp2_with fail
    refine HC.out.mono ?_
    rintro e w1 ⟨rfl, rfl⟩
    go_wp2_with fail
    have IF := Lib.hid (Ints.ofBlock (xs := [(1 : Int)]) (by decide) HF.out)
    have U2 := HUw.out
    clear HF HUw
    generalize ((((((w.alloc (.cells #[] 3)).alloc (.cells #[.int .i64 1] 3)).alloc (.cells #[.int .i64 2, .int .i64 (-1)] 3)).alloc (.cells #[.int .i64 3, .int .i64 (-3), .int .i64 1] 3)).alloc (.cells #[.int .i64 4, .int .i64 (-6), .int .i64 4, .int .i64 (-1)] 3)).alloc (.cells #[.slice (some ⟨w.heap.size, 0, none⟩) 0 0, .slice (some ⟨w.heap.size + 1, 0, none⟩) 1 1, .slice (some ⟨w.heap.size + 1 + 1, 0, none⟩) 2 2, .slice (some ⟨w.heap.size + 1 + 1 + 1, 0, none⟩) 3 3, .slice (some ⟨w.heap.size + 1 + 1 + 1 + 1, 0, none⟩) 4 4] 22)) = w2 at *
    generalize w.heap.size + 1 = g at *
    have HU2 := Lib.hid U2; have hsz := U2.size
    clear U2
    go_loopw [8, 35] (fun v i wr => ∃ (k : Nat) (y : List Int), k ≤ L ∧ i = .int .i64 k ∧ wr.ownsRow w2.heap.size 3 1 v k (i64s y) ∧ y.length = k ∧ inM 2097152 y = true ∧ difK 1 y = x.take k ∧ Upd NoB w2 wr) (fun _ i _ => L - (intOf i).toNat)
    case atStart => exact ⟨0, [], Nat.zero_le _, rfl, World.ownsRow_nil _ _ _ _, rfl, rfl, H0.out, Upd.refl _ _⟩
    case round =>
      obtain ⟨k, y, hk, rfl, hown, hyl, hyi, hry, hu⟩ := hrel
      obtain ⟨va, vc, rfl⟩ := row_form hown
      have HO := Lib.hid hown; have HU := Lib.hid hu
      have hb := hu.size
      by_cases hlt : k < L
      · obtain ⟨v, hv⟩ : ∃ v, x[k]? = some v := ⟨_, List.getElem?_eq_getElem (by rw [HL.out]; exact hlt)⟩
        obtain ⟨bb, off, rfl, c0⟩ := (HX.out.later (HU2.out.then hu)).cellAt hv
        have HVi := Lib.hid (HXi.out k v hv)
        obtain ⟨g1, g2⟩ := HSt.out y k v hv hry
        have HG1 := Lib.hid g1; have HG2 := Lib.hid g2
        have HYl := Lib.hid hyl; have HYi := Lib.hid hyi
        have IY := Lib.hid (row_ints HO.out hyl (by omega))
        have IF2 := Lib.hid (IF.out.later hu)
        have HB := Lib.hid (fun p => dotT_in (ws := [(1 : Int)]) (by decide) (inM_rev hyi) (by decide) p)
        have HSs := Lib.hid (fun p q (hq : [(1 : Int)][p]? = some q) => dotT_succ [(1 : Int)] y.reverse p q hq)
        have HR := Lib.hid (fun p => rev_get (x := y) (k := p))
        have HFi := Lib.hid (fun p q (hq : [(1 : Int)][p]? = some q) => inM_yes (m := 6) (by decide) q (List.mem_of_getElem? hq))
        have HYg := Lib.hid (fun j => getD_in (by decide) hyi j)
        have HYo := Lib.hid (fun j (hj : j < y.length) => getD_of hj)
        have HPd := Lib.hid (pre_dot1 y)
        have HZ := Lib.hid (show dotL ([(1 : Int)].take 0) y.reverse = 0 by rw [List.take_zero, dotL_nil])
        have HEd := Lib.hid (show dotL ([(1 : Int)].take 1) y.reverse = dotL [(1 : Int)] y.reverse from rfl)
        have HFl := Lib.hid (show ([(1 : Int)]).length = 1 from rfl)
        rw [hyl] at HR HYo
        rw [HPd.out] at HG1 HG2
        clear hown hu hv hyl hyi hry g1 g2
        generalize [(1 : Int)] = fs at *
        go_wp2_with fail
        go_loop [10, 42] (fun s i => ∃ p : Nat, p ≤ 1 ∧ i = .int .i64 p ∧ s = .int .i64 (v + dotL (fs.take p) y.reverse)) (fun _ i => 1 - (intOf i).toNat)
        case atStart => exact ⟨0, Nat.zero_le _, rfl, by rw [HZ.out, Int.add_zero]⟩
        case round =>
          obtain ⟨p, hp, rfl, rfl⟩ := hrel
          by_cases hlt2 : p < 1
          · obtain ⟨q, hq⟩ : ∃ q, fs[p]? = some q := ⟨_, List.getElem?_eq_getElem (by rw [HFl.out]; exact hlt2)⟩
            obtain ⟨b2, o2, hg2, c2⟩ := IF2.out.cellAt hq
            cases hg2
            rw [Nat.zero_add] at c2
            have hqi := HFi.out p q hq
            have hst := HSs.out p q hq
            rw [HR.out p] at hst
            obtain ⟨j1, j2, j3, j4⟩ := pix_facts (L := k) (k := p) (by omega) (by omega)
            have hS0 := HB.out p
            have hvi := HVi.out
            by_cases hkL : p < k
            · rw [if_pos hkL] at hst
              obtain ⟨r, hr⟩ : ∃ r, k - 1 - p = r := ⟨_, rfl⟩
              rw [hr] at hst
              have hri : (k : Int) - 1 - (p : Int) = (r : Int) := by clear j1 j2 j3 j4; omega
              rw [hri] at j3 j4
              have hrL : r < k := by clear j1 j2 j3 j4; omega
              have hrLi : (r : Int) < (k : Int) := by clear j1 j2 j3 j4; omega
              obtain ⟨b1, o1, rfl, c1⟩ := IY.out.cellAt (HYo.out r hrL)
              have hxi := HYg.out r
              have g1 : decide ((0 : Int) ≤ (r : Int)) = true := decide_eq_true (by clear j1 j2 j3 j4; omega)
              generalize y.getD r 0 = X at *
              have hm := abs_mul_in hqi hxi
              obtain ⟨m, hmm⟩ : ∃ m, q * X = m := ⟨_, rfl⟩
              rw [hmm] at hst hm
              have HSt2 := Lib.hid hst
              generalize dotL (fs.take p) y.reverse = S at *
              have z1 : wrap64 (q * X) = m := by rw [hmm]; exact IntWalk.wrap64_in _ (by clear j1 j2 j3 j4; omega)
              have z2 : IntKind.i64.wrap (q * X) = m := by rw [hmm]; exact IntWalk.i64_in _ (by clear j1 j2 j3 j4 z1; omega)
              obtain ⟨T, hT⟩ : ∃ T, v + S = T := ⟨_, rfl⟩
              rw [hT]
              have HT := Lib.hid hT
              have z3 : wrap64 (T + m) = T + m := IntWalk.wrap64_in _ (by clear j1 j2 j3 j4 z1 z2; omega)
              have z4 : IntKind.i64.wrap (T + m) = T + m := IntWalk.i64_in _ (by clear j1 j2 j3 j4 z1 z2 z3; omega)
              have p1 : (p : Int) < 1 := by clear j1 j2 j3 j4 z1 z2 z3 z4; omega
              clear hq hqi hst hS0 hm hmm hxi hr hvi hT hb hlt hk hlt2 hkL hrL
              go_wp2_with fail
              go_round
              case rel => exact ⟨p + 1, by clear j1 j2 j3 j4 z1 z2 z3 z4; omega, by go_num, by rw [HSt2.out, ← HT.out, Int.add_assoc]⟩
              case measure => clear j1 j2 j3 j4 z1 z2 z3 z4; simp [intOf]; omega
            · rw [if_neg hkL, Int.mul_zero, Int.add_zero] at hst
              have HSt2 := Lib.hid hst
              have g1 : decide ((0 : Int) ≤ (k : Int) - 1 - (p : Int)) = false := decide_eq_false (by clear j1 j2 j3 j4; omega)
              have g2 : ((0 : Int) ≤ (k : Int) - 1 - (p : Int)) = False := eq_false (by clear j1 j2 j3 j4; omega)
              have p1 : (p : Int) < 1 := by clear j1 j2 j3 j4; omega
              obtain ⟨T, hT⟩ : ∃ T, v + dotL (fs.take p) y.reverse = T := ⟨_, rfl⟩
              rw [hT]
              have HT := Lib.hid hT
              clear hq hqi hst hS0 hvi hT hb hlt hk
              go_wp2_with fail
              go_round
              case rel => exact ⟨p + 1, by clear j1 j2 j3 j4; omega, by go_num, by rw [HSt2.out, HT.out]⟩
              case measure => clear j1 j2 j3 j4; simp [intOf] <;> omega
          · obtain rfl : p = 1 := by omega
            have hS0 := HB.out 1
            have hvi := HVi.out
            rw [HEd.out] at hS0 ⊢
            obtain ⟨u, huu⟩ : ∃ u, v + dotL fs y.reverse = u := ⟨_, rfl⟩
            rw [huu] at HG1 HG2 ⊢
            have hk1 : k ≤ 1000000 := by omega
            clear hlt2 hp hS0 hvi huu
            by_cases b1 : u < -2097152
            · have s1 : decide (u < -2097152) = true := decide_eq_true b1
              obtain ⟨q1, q2⟩ := HS1.out.1 (HG2.out (by omega))
              have Q1 := Lib.hid q1; have Q2 := Lib.hid q2
              clear b1 q1 q2
              go_wp2_with fail
              go_ret2
              exact ⟨none, 0, 0, by rw [Q2.out]; rfl, by rw [Q1.out]; exact World.ownsRow_nil _ _ _ _, HU2.out.then HU.out⟩
            · have s1 : decide (u < -2097152) = false := decide_eq_false b1
              by_cases b2 : 2097152 < u
              · have s2 : decide (2097152 < u) = true := decide_eq_true b2
                obtain ⟨q1, q2⟩ := HS1.out.1 (HG2.out (by omega))
                have Q1 := Lib.hid q1; have Q2 := Lib.hid q2
                clear b1 b2 q1 q2
                go_wp2_with fail
                go_ret2
                exact ⟨none, 0, 0, by rw [Q2.out]; rfl, by rw [Q1.out]; exact World.ownsRow_nil _ _ _ _, HU2.out.then HU.out⟩
              · have s2 : decide (2097152 < u) = false := decide_eq_false b2
                have HYn := Lib.hid (show inM 2097152 (y ++ [u]) = true from inM_all fun q hq => by
                  rw [List.mem_append, List.mem_singleton] at hq
                  rcases hq with hq | rfl
                  · exact inM_yes HYi.out q hq
                  · omega)
                clear b1 b2
                go_wp2_with (at_builtin; refine wpList_push rfl (.tmp 70) (.tmp 72) rfl w2.heap.size (.slice va k vc) k y u rfl rfl HO.out hk1 hb ?_; intro v' w' hown' u'; have R' := Lib.hid hown'; have U' := Lib.hid u'; clear hown' u')
                go_roundw
                case rel => exact ⟨k + 1, y ++ [u], by omega, by go_num, R'.out, by rw [List.length_append, HYl.out]; rfl, HYn.out, HG1.out, upd_ge ((upd_ge' HU.out w2.heap.size).trans U'.out (fun _ _ h => h))⟩
                case measure => simp [intOf]; omega
      · obtain rfl : k = L := by omega
        rw [HTa.out] at hry
        obtain ⟨q1, q2⟩ := HS1.out.2 y (HEn.out y hry hyi)
        have Q1 := Lib.hid q1; have Q2 := Lib.hid q2; have HYl := Lib.hid hyl
        clear hown hu hlt hyl hyi hry q1 q2
        go_wp2_with fail
        go_ret2
        exact ⟨_, _, _, by rw [Q2.out]; rfl, by rw [Q1.out, HYl.out]; exact row_base HO.out hsz, HU2.out.then HU.out⟩
  · obtain ⟨q1, q2⟩ := HS.out.1 hc
    rw [q1, q2]
    obtain ⟨C, hC⟩ : ∃ C, ckE 67108864 x = C := ⟨_, rfl⟩
    rw [hC] at HC hc ⊢
    have hc0 : (C == 0) = false := beq_eq_false_iff_ne.2 hc
    obtain ⟨a, cap, rfl⟩ := h.form
    generalize x.length = L at *
    clear h hc hC q1 q2
    go_enter Try.func37, Try.ntmps37
    go_wp2_with fail
    refine HC.out.mono ?_
    rintro e w1 ⟨rfl, rfl⟩
    go_wp2_with fail
    go_ret2
    exact ⟨none, 0, 0, rfl, World.ownsRow_nil _ _ _ _, Upd.refl _ _⟩
theorem pre_dot2 (y : List Int) : preG 2 y = dotL [(2 : Int), -1] y.reverse := by
  have e0 : dotL ([(2 : Int), -1].take 1) y.reverse = dotL ([(2 : Int), -1].take 0) y.reverse + (2) * bkG y 0 := dotT_succ [(2 : Int), -1] y.reverse 0 (2) rfl
  have e1 : dotL ([(2 : Int), -1].take 2) y.reverse = dotL ([(2 : Int), -1].take 1) y.reverse + (-1) * bkG y 1 := dotT_succ [(2 : Int), -1] y.reverse 1 (-1) rfl
  have z : dotL ([(2 : Int), -1].take 0) y.reverse = 0 := dotL_nil _
  have t : [(2 : Int), -1].take 2 = [(2 : Int), -1] := rfl
  rw [t] at e1
  show 2 * bkG y 0 - bkG y 1 = _
  omega
set_option maxRecDepth 100000 in
set_option maxHeartbeats 8000000 in
theorem rAdd2_any (sv : Value) (x : List Int) (w : World) (h : Ints w sv x) : Calls Try.prog 37 #[sv, .int .i64 2] w (EInts w (adS x (2 : Nat)) (adE x (2 : Nat))) := by
  have HX := Lib.hid h
  have HC := Lib.hid (rlist_any sv x 67108864 w (by decide) h)
  have HS := Lib.hid (ad_cases x 2 (by decide))
  by_cases hc : ckE 67108864 x = 0
  · obtain ⟨hxl, hxi⟩ := ckE_ok hc
    rw [hc] at HC
    have HS1 := Lib.hid (HS.out.2 hc)
    have HSt := Lib.hid (fun (y : List Int) k v (hv : x[k]? = some v) hy => add_step (k := 2) (by decide) (d := x) (y := y) (n := k) (v := v) hv hy)
    have HEn := Lib.hid (fun (y : List Int) (hy : difK 2 y = x) hi => add_end (k := 2) hy hi)
    have HXi := Lib.hid (fun k v (hv : x[k]? = some v) => inM_yes hxi v (List.mem_of_getElem? hv))
    have H0 := Lib.hid (show difK 2 ([] : List Int) = x.take 0 by rw [List.take_zero]; rfl)
    have HTa := Lib.hid (show x.take x.length = x from List.take_length)
    have HF := Lib.hid (show ((((((w.alloc (.cells #[] 3)).alloc (.cells #[.int .i64 1] 3)).alloc (.cells #[.int .i64 2, .int .i64 (-1)] 3)).alloc (.cells #[.int .i64 3, .int .i64 (-3), .int .i64 1] 3)).alloc (.cells #[.int .i64 4, .int .i64 (-6), .int .i64 4, .int .i64 (-1)] 3)).alloc (.cells #[.slice (some ⟨w.heap.size, 0, none⟩) 0 0, .slice (some ⟨w.heap.size + 1, 0, none⟩) 1 1, .slice (some ⟨w.heap.size + 1 + 1, 0, none⟩) 2 2, .slice (some ⟨w.heap.size + 1 + 1 + 1, 0, none⟩) 3 3, .slice (some ⟨w.heap.size + 1 + 1 + 1 + 1, 0, none⟩) 4 4] 22)).heap[w.heap.size + 1 + 1]? = some (.cells (i64s [(2 : Int), -1]).toArray 3 (0, 0)) by
      have e := heap_alloc_new ((w.alloc (.cells #[] 3)).alloc (.cells #[.int .i64 1] 3)) (.cells #[.int .i64 2, .int .i64 (-1)] 3)
      try simp only [size_alloc] at e
      exact ((((Upd.refl NoB (((w.alloc (.cells #[] 3)).alloc (.cells #[.int .i64 1] 3)).alloc (.cells #[.int .i64 2, .int .i64 (-1)] 3))).alloc _).alloc _).alloc _).heap e (noB _))
    have HUw := Lib.hid (show Upd NoB w ((((((w.alloc (.cells #[] 3)).alloc (.cells #[.int .i64 1] 3)).alloc (.cells #[.int .i64 2, .int .i64 (-1)] 3)).alloc (.cells #[.int .i64 3, .int .i64 (-3), .int .i64 1] 3)).alloc (.cells #[.int .i64 4, .int .i64 (-6), .int .i64 4, .int .i64 (-1)] 3)).alloc (.cells #[.slice (some ⟨w.heap.size, 0, none⟩) 0 0, .slice (some ⟨w.heap.size + 1, 0, none⟩) 1 1, .slice (some ⟨w.heap.size + 1 + 1, 0, none⟩) 2 2, .slice (some ⟨w.heap.size + 1 + 1 + 1, 0, none⟩) 3 3, .slice (some ⟨w.heap.size + 1 + 1 + 1 + 1, 0, none⟩) 4 4] 22)) from (((((((Upd.refl NoB w).alloc _).alloc _).alloc _).alloc _).alloc _).alloc _))
    obtain ⟨a, cap, rfl⟩ := h.form
    obtain ⟨RS, hRS⟩ : ∃ RS, adS x (2 : Nat) = RS := ⟨_, rfl⟩
    obtain ⟨RE, hRE⟩ : ∃ RE, adE x (2 : Nat) = RE := ⟨_, rfl⟩
    rw [hRS, hRE] at HS1 ⊢
    obtain ⟨L, hL⟩ : ∃ L, x.length = L := ⟨_, rfl⟩
    have HL := Lib.hid hL
    rw [hL] at HX HC hxl HTa ⊢
    have hL8 : L ≤ 8192 := hxl
    clear h hc hxl hxi hRS hRE hL HS
    go_enter Try.func37, Try.ntmps37
    go_wp2_with fail
    refine HC.out.mono ?_
    rintro e w1 ⟨rfl, rfl⟩
    go_wp2_with fail
    have IF := Lib.hid (Ints.ofBlock (xs := [(2 : Int), -1]) (by decide) HF.out)
    have U2 := HUw.out
    clear HF HUw
    generalize ((((((w.alloc (.cells #[] 3)).alloc (.cells #[.int .i64 1] 3)).alloc (.cells #[.int .i64 2, .int .i64 (-1)] 3)).alloc (.cells #[.int .i64 3, .int .i64 (-3), .int .i64 1] 3)).alloc (.cells #[.int .i64 4, .int .i64 (-6), .int .i64 4, .int .i64 (-1)] 3)).alloc (.cells #[.slice (some ⟨w.heap.size, 0, none⟩) 0 0, .slice (some ⟨w.heap.size + 1, 0, none⟩) 1 1, .slice (some ⟨w.heap.size + 1 + 1, 0, none⟩) 2 2, .slice (some ⟨w.heap.size + 1 + 1 + 1, 0, none⟩) 3 3, .slice (some ⟨w.heap.size + 1 + 1 + 1 + 1, 0, none⟩) 4 4] 22)) = w2 at *
    generalize w.heap.size + 1 + 1 = g at *
    have HU2 := Lib.hid U2; have hsz := U2.size
    clear U2
    go_loopw [8, 35] (fun v i wr => ∃ (k : Nat) (y : List Int), k ≤ L ∧ i = .int .i64 k ∧ wr.ownsRow w2.heap.size 3 1 v k (i64s y) ∧ y.length = k ∧ inM 2097152 y = true ∧ difK 2 y = x.take k ∧ Upd NoB w2 wr) (fun _ i _ => L - (intOf i).toNat)
    case atStart => exact ⟨0, [], Nat.zero_le _, rfl, World.ownsRow_nil _ _ _ _, rfl, rfl, H0.out, Upd.refl _ _⟩
    case round =>
      obtain ⟨k, y, hk, rfl, hown, hyl, hyi, hry, hu⟩ := hrel
      obtain ⟨va, vc, rfl⟩ := row_form hown
      have HO := Lib.hid hown; have HU := Lib.hid hu
      have hb := hu.size
      by_cases hlt : k < L
      · obtain ⟨v, hv⟩ : ∃ v, x[k]? = some v := ⟨_, List.getElem?_eq_getElem (by rw [HL.out]; exact hlt)⟩
        obtain ⟨bb, off, rfl, c0⟩ := (HX.out.later (HU2.out.then hu)).cellAt hv
        have HVi := Lib.hid (HXi.out k v hv)
        obtain ⟨g1, g2⟩ := HSt.out y k v hv hry
        have HG1 := Lib.hid g1; have HG2 := Lib.hid g2
        have HYl := Lib.hid hyl; have HYi := Lib.hid hyi
        have IY := Lib.hid (row_ints HO.out hyl (by omega))
        have IF2 := Lib.hid (IF.out.later hu)
        have HB := Lib.hid (fun p => dotT_in (ws := [(2 : Int), -1]) (by decide) (inM_rev hyi) (by decide) p)
        have HSs := Lib.hid (fun p q (hq : [(2 : Int), -1][p]? = some q) => dotT_succ [(2 : Int), -1] y.reverse p q hq)
        have HR := Lib.hid (fun p => rev_get (x := y) (k := p))
        have HFi := Lib.hid (fun p q (hq : [(2 : Int), -1][p]? = some q) => inM_yes (m := 6) (by decide) q (List.mem_of_getElem? hq))
        have HYg := Lib.hid (fun j => getD_in (by decide) hyi j)
        have HYo := Lib.hid (fun j (hj : j < y.length) => getD_of hj)
        have HPd := Lib.hid (pre_dot2 y)
        have HZ := Lib.hid (show dotL ([(2 : Int), -1].take 0) y.reverse = 0 by rw [List.take_zero, dotL_nil])
        have HEd := Lib.hid (show dotL ([(2 : Int), -1].take 2) y.reverse = dotL [(2 : Int), -1] y.reverse from rfl)
        have HFl := Lib.hid (show ([(2 : Int), -1]).length = 2 from rfl)
        rw [hyl] at HR HYo
        rw [HPd.out] at HG1 HG2
        clear hown hu hv hyl hyi hry g1 g2
        generalize [(2 : Int), -1] = fs at *
        go_wp2_with fail
        go_loop [10, 42] (fun s i => ∃ p : Nat, p ≤ 2 ∧ i = .int .i64 p ∧ s = .int .i64 (v + dotL (fs.take p) y.reverse)) (fun _ i => 2 - (intOf i).toNat)
        case atStart => exact ⟨0, Nat.zero_le _, rfl, by rw [HZ.out, Int.add_zero]⟩
        case round =>
          obtain ⟨p, hp, rfl, rfl⟩ := hrel
          by_cases hlt2 : p < 2
          · obtain ⟨q, hq⟩ : ∃ q, fs[p]? = some q := ⟨_, List.getElem?_eq_getElem (by rw [HFl.out]; exact hlt2)⟩
            obtain ⟨b2, o2, hg2, c2⟩ := IF2.out.cellAt hq
            cases hg2
            rw [Nat.zero_add] at c2
            have hqi := HFi.out p q hq
            have hst := HSs.out p q hq
            rw [HR.out p] at hst
            obtain ⟨j1, j2, j3, j4⟩ := pix_facts (L := k) (k := p) (by omega) (by omega)
            have hS0 := HB.out p
            have hvi := HVi.out
            by_cases hkL : p < k
            · rw [if_pos hkL] at hst
              obtain ⟨r, hr⟩ : ∃ r, k - 1 - p = r := ⟨_, rfl⟩
              rw [hr] at hst
              have hri : (k : Int) - 1 - (p : Int) = (r : Int) := by clear j1 j2 j3 j4; omega
              rw [hri] at j3 j4
              have hrL : r < k := by clear j1 j2 j3 j4; omega
              have hrLi : (r : Int) < (k : Int) := by clear j1 j2 j3 j4; omega
              obtain ⟨b1, o1, rfl, c1⟩ := IY.out.cellAt (HYo.out r hrL)
              have hxi := HYg.out r
              have g1 : decide ((0 : Int) ≤ (r : Int)) = true := decide_eq_true (by clear j1 j2 j3 j4; omega)
              generalize y.getD r 0 = X at *
              have hm := abs_mul_in hqi hxi
              obtain ⟨m, hmm⟩ : ∃ m, q * X = m := ⟨_, rfl⟩
              rw [hmm] at hst hm
              have HSt2 := Lib.hid hst
              generalize dotL (fs.take p) y.reverse = S at *
              have z1 : wrap64 (q * X) = m := by rw [hmm]; exact IntWalk.wrap64_in _ (by clear j1 j2 j3 j4; omega)
              have z2 : IntKind.i64.wrap (q * X) = m := by rw [hmm]; exact IntWalk.i64_in _ (by clear j1 j2 j3 j4 z1; omega)
              obtain ⟨T, hT⟩ : ∃ T, v + S = T := ⟨_, rfl⟩
              rw [hT]
              have HT := Lib.hid hT
              have z3 : wrap64 (T + m) = T + m := IntWalk.wrap64_in _ (by clear j1 j2 j3 j4 z1 z2; omega)
              have z4 : IntKind.i64.wrap (T + m) = T + m := IntWalk.i64_in _ (by clear j1 j2 j3 j4 z1 z2 z3; omega)
              have p1 : (p : Int) < 2 := by clear j1 j2 j3 j4 z1 z2 z3 z4; omega
              clear hq hqi hst hS0 hm hmm hxi hr hvi hT hb hlt hk hlt2 hkL hrL
              go_wp2_with fail
              go_round
              case rel => exact ⟨p + 1, by clear j1 j2 j3 j4 z1 z2 z3 z4; omega, by go_num, by rw [HSt2.out, ← HT.out, Int.add_assoc]⟩
              case measure => clear j1 j2 j3 j4 z1 z2 z3 z4; simp [intOf]; omega
            · rw [if_neg hkL, Int.mul_zero, Int.add_zero] at hst
              have HSt2 := Lib.hid hst
              have g1 : decide ((0 : Int) ≤ (k : Int) - 1 - (p : Int)) = false := decide_eq_false (by clear j1 j2 j3 j4; omega)
              have g2 : ((0 : Int) ≤ (k : Int) - 1 - (p : Int)) = False := eq_false (by clear j1 j2 j3 j4; omega)
              have p1 : (p : Int) < 2 := by clear j1 j2 j3 j4; omega
              obtain ⟨T, hT⟩ : ∃ T, v + dotL (fs.take p) y.reverse = T := ⟨_, rfl⟩
              rw [hT]
              have HT := Lib.hid hT
              clear hq hqi hst hS0 hvi hT hb hlt hk
              go_wp2_with fail
              go_round
              case rel => exact ⟨p + 1, by clear j1 j2 j3 j4; omega, by go_num, by rw [HSt2.out, HT.out]⟩
              case measure => clear j1 j2 j3 j4; simp [intOf] <;> omega
          · obtain rfl : p = 2 := by omega
            have hS0 := HB.out 2
            have hvi := HVi.out
            rw [HEd.out] at hS0 ⊢
            obtain ⟨u, huu⟩ : ∃ u, v + dotL fs y.reverse = u := ⟨_, rfl⟩
            rw [huu] at HG1 HG2 ⊢
            have hk1 : k ≤ 1000000 := by omega
            clear hlt2 hp hS0 hvi huu
            by_cases b1 : u < -2097152
            · have s1 : decide (u < -2097152) = true := decide_eq_true b1
              obtain ⟨q1, q2⟩ := HS1.out.1 (HG2.out (by omega))
              have Q1 := Lib.hid q1; have Q2 := Lib.hid q2
              clear b1 q1 q2
              go_wp2_with fail
              go_ret2
              exact ⟨none, 0, 0, by rw [Q2.out]; rfl, by rw [Q1.out]; exact World.ownsRow_nil _ _ _ _, HU2.out.then HU.out⟩
            · have s1 : decide (u < -2097152) = false := decide_eq_false b1
              by_cases b2 : 2097152 < u
              · have s2 : decide (2097152 < u) = true := decide_eq_true b2
                obtain ⟨q1, q2⟩ := HS1.out.1 (HG2.out (by omega))
                have Q1 := Lib.hid q1; have Q2 := Lib.hid q2
                clear b1 b2 q1 q2
                go_wp2_with fail
                go_ret2
                exact ⟨none, 0, 0, by rw [Q2.out]; rfl, by rw [Q1.out]; exact World.ownsRow_nil _ _ _ _, HU2.out.then HU.out⟩
              · have s2 : decide (2097152 < u) = false := decide_eq_false b2
                have HYn := Lib.hid (show inM 2097152 (y ++ [u]) = true from inM_all fun q hq => by
                  rw [List.mem_append, List.mem_singleton] at hq
                  rcases hq with hq | rfl
                  · exact inM_yes HYi.out q hq
                  · omega)
                clear b1 b2
                go_wp2_with (at_builtin; refine wpList_push rfl (.tmp 70) (.tmp 72) rfl w2.heap.size (.slice va k vc) k y u rfl rfl HO.out hk1 hb ?_; intro v' w' hown' u'; have R' := Lib.hid hown'; have U' := Lib.hid u'; clear hown' u')
                go_roundw
                case rel => exact ⟨k + 1, y ++ [u], by omega, by go_num, R'.out, by rw [List.length_append, HYl.out]; rfl, HYn.out, HG1.out, upd_ge ((upd_ge' HU.out w2.heap.size).trans U'.out (fun _ _ h => h))⟩
                case measure => simp [intOf]; omega
      · obtain rfl : k = L := by omega
        rw [HTa.out] at hry
        obtain ⟨q1, q2⟩ := HS1.out.2 y (HEn.out y hry hyi)
        have Q1 := Lib.hid q1; have Q2 := Lib.hid q2; have HYl := Lib.hid hyl
        clear hown hu hlt hyl hyi hry q1 q2
        go_wp2_with fail
        go_ret2
        exact ⟨_, _, _, by rw [Q2.out]; rfl, by rw [Q1.out, HYl.out]; exact row_base HO.out hsz, HU2.out.then HU.out⟩
  · obtain ⟨q1, q2⟩ := HS.out.1 hc
    rw [q1, q2]
    obtain ⟨C, hC⟩ : ∃ C, ckE 67108864 x = C := ⟨_, rfl⟩
    rw [hC] at HC hc ⊢
    have hc0 : (C == 0) = false := beq_eq_false_iff_ne.2 hc
    obtain ⟨a, cap, rfl⟩ := h.form
    generalize x.length = L at *
    clear h hc hC q1 q2
    go_enter Try.func37, Try.ntmps37
    go_wp2_with fail
    refine HC.out.mono ?_
    rintro e w1 ⟨rfl, rfl⟩
    go_wp2_with fail
    go_ret2
    exact ⟨none, 0, 0, rfl, World.ownsRow_nil _ _ _ _, Upd.refl _ _⟩
theorem pre_dot3 (y : List Int) : preG 3 y = dotL [(3 : Int), -3, 1] y.reverse := by
  have e0 : dotL ([(3 : Int), -3, 1].take 1) y.reverse = dotL ([(3 : Int), -3, 1].take 0) y.reverse + (3) * bkG y 0 := dotT_succ [(3 : Int), -3, 1] y.reverse 0 (3) rfl
  have e1 : dotL ([(3 : Int), -3, 1].take 2) y.reverse = dotL ([(3 : Int), -3, 1].take 1) y.reverse + (-3) * bkG y 1 := dotT_succ [(3 : Int), -3, 1] y.reverse 1 (-3) rfl
  have e2 : dotL ([(3 : Int), -3, 1].take 3) y.reverse = dotL ([(3 : Int), -3, 1].take 2) y.reverse + (1) * bkG y 2 := dotT_succ [(3 : Int), -3, 1] y.reverse 2 (1) rfl
  have z : dotL ([(3 : Int), -3, 1].take 0) y.reverse = 0 := dotL_nil _
  have t : [(3 : Int), -3, 1].take 3 = [(3 : Int), -3, 1] := rfl
  rw [t] at e2
  show 3 * bkG y 0 - 3 * bkG y 1 + bkG y 2 = _
  omega
set_option maxRecDepth 100000 in
set_option maxHeartbeats 8000000 in
theorem rAdd3_any (sv : Value) (x : List Int) (w : World) (h : Ints w sv x) : Calls Try.prog 37 #[sv, .int .i64 3] w (EInts w (adS x (3 : Nat)) (adE x (3 : Nat))) := by
  have HX := Lib.hid h
  have HC := Lib.hid (rlist_any sv x 67108864 w (by decide) h)
  have HS := Lib.hid (ad_cases x 3 (by decide))
  by_cases hc : ckE 67108864 x = 0
  · obtain ⟨hxl, hxi⟩ := ckE_ok hc
    rw [hc] at HC
    have HS1 := Lib.hid (HS.out.2 hc)
    have HSt := Lib.hid (fun (y : List Int) k v (hv : x[k]? = some v) hy => add_step (k := 3) (by decide) (d := x) (y := y) (n := k) (v := v) hv hy)
    have HEn := Lib.hid (fun (y : List Int) (hy : difK 3 y = x) hi => add_end (k := 3) hy hi)
    have HXi := Lib.hid (fun k v (hv : x[k]? = some v) => inM_yes hxi v (List.mem_of_getElem? hv))
    have H0 := Lib.hid (show difK 3 ([] : List Int) = x.take 0 by rw [List.take_zero]; rfl)
    have HTa := Lib.hid (show x.take x.length = x from List.take_length)
    have HF := Lib.hid (show ((((((w.alloc (.cells #[] 3)).alloc (.cells #[.int .i64 1] 3)).alloc (.cells #[.int .i64 2, .int .i64 (-1)] 3)).alloc (.cells #[.int .i64 3, .int .i64 (-3), .int .i64 1] 3)).alloc (.cells #[.int .i64 4, .int .i64 (-6), .int .i64 4, .int .i64 (-1)] 3)).alloc (.cells #[.slice (some ⟨w.heap.size, 0, none⟩) 0 0, .slice (some ⟨w.heap.size + 1, 0, none⟩) 1 1, .slice (some ⟨w.heap.size + 1 + 1, 0, none⟩) 2 2, .slice (some ⟨w.heap.size + 1 + 1 + 1, 0, none⟩) 3 3, .slice (some ⟨w.heap.size + 1 + 1 + 1 + 1, 0, none⟩) 4 4] 22)).heap[w.heap.size + 1 + 1 + 1]? = some (.cells (i64s [(3 : Int), -3, 1]).toArray 3 (0, 0)) by
      have e := heap_alloc_new (((w.alloc (.cells #[] 3)).alloc (.cells #[.int .i64 1] 3)).alloc (.cells #[.int .i64 2, .int .i64 (-1)] 3)) (.cells #[.int .i64 3, .int .i64 (-3), .int .i64 1] 3)
      try simp only [size_alloc] at e
      exact (((Upd.refl NoB ((((w.alloc (.cells #[] 3)).alloc (.cells #[.int .i64 1] 3)).alloc (.cells #[.int .i64 2, .int .i64 (-1)] 3)).alloc (.cells #[.int .i64 3, .int .i64 (-3), .int .i64 1] 3))).alloc _).alloc _).heap e (noB _))
    have HUw := Lib.hid (show Upd NoB w ((((((w.alloc (.cells #[] 3)).alloc (.cells #[.int .i64 1] 3)).alloc (.cells #[.int .i64 2, .int .i64 (-1)] 3)).alloc (.cells #[.int .i64 3, .int .i64 (-3), .int .i64 1] 3)).alloc (.cells #[.int .i64 4, .int .i64 (-6), .int .i64 4, .int .i64 (-1)] 3)).alloc (.cells #[.slice (some ⟨w.heap.size, 0, none⟩) 0 0, .slice (some ⟨w.heap.size + 1, 0, none⟩) 1 1, .slice (some ⟨w.heap.size + 1 + 1, 0, none⟩) 2 2, .slice (some ⟨w.heap.size + 1 + 1 + 1, 0, none⟩) 3 3, .slice (some ⟨w.heap.size + 1 + 1 + 1 + 1, 0, none⟩) 4 4] 22)) from (((((((Upd.refl NoB w).alloc _).alloc _).alloc _).alloc _).alloc _).alloc _))
    obtain ⟨a, cap, rfl⟩ := h.form
    obtain ⟨RS, hRS⟩ : ∃ RS, adS x (3 : Nat) = RS := ⟨_, rfl⟩
    obtain ⟨RE, hRE⟩ : ∃ RE, adE x (3 : Nat) = RE := ⟨_, rfl⟩
    rw [hRS, hRE] at HS1 ⊢
    obtain ⟨L, hL⟩ : ∃ L, x.length = L := ⟨_, rfl⟩
    have HL := Lib.hid hL
    rw [hL] at HX HC hxl HTa ⊢
    have hL8 : L ≤ 8192 := hxl
    clear h hc hxl hxi hRS hRE hL HS
    go_enter Try.func37, Try.ntmps37
    go_wp2_with fail
    refine HC.out.mono ?_
    rintro e w1 ⟨rfl, rfl⟩
    go_wp2_with fail
    have IF := Lib.hid (Ints.ofBlock (xs := [(3 : Int), -3, 1]) (by decide) HF.out)
    have U2 := HUw.out
    clear HF HUw
    generalize ((((((w.alloc (.cells #[] 3)).alloc (.cells #[.int .i64 1] 3)).alloc (.cells #[.int .i64 2, .int .i64 (-1)] 3)).alloc (.cells #[.int .i64 3, .int .i64 (-3), .int .i64 1] 3)).alloc (.cells #[.int .i64 4, .int .i64 (-6), .int .i64 4, .int .i64 (-1)] 3)).alloc (.cells #[.slice (some ⟨w.heap.size, 0, none⟩) 0 0, .slice (some ⟨w.heap.size + 1, 0, none⟩) 1 1, .slice (some ⟨w.heap.size + 1 + 1, 0, none⟩) 2 2, .slice (some ⟨w.heap.size + 1 + 1 + 1, 0, none⟩) 3 3, .slice (some ⟨w.heap.size + 1 + 1 + 1 + 1, 0, none⟩) 4 4] 22)) = w2 at *
    generalize w.heap.size + 1 + 1 + 1 = g at *
    have HU2 := Lib.hid U2; have hsz := U2.size
    clear U2
    go_loopw [8, 35] (fun v i wr => ∃ (k : Nat) (y : List Int), k ≤ L ∧ i = .int .i64 k ∧ wr.ownsRow w2.heap.size 3 1 v k (i64s y) ∧ y.length = k ∧ inM 2097152 y = true ∧ difK 3 y = x.take k ∧ Upd NoB w2 wr) (fun _ i _ => L - (intOf i).toNat)
    case atStart => exact ⟨0, [], Nat.zero_le _, rfl, World.ownsRow_nil _ _ _ _, rfl, rfl, H0.out, Upd.refl _ _⟩
    case round =>
      obtain ⟨k, y, hk, rfl, hown, hyl, hyi, hry, hu⟩ := hrel
      obtain ⟨va, vc, rfl⟩ := row_form hown
      have HO := Lib.hid hown; have HU := Lib.hid hu
      have hb := hu.size
      by_cases hlt : k < L
      · obtain ⟨v, hv⟩ : ∃ v, x[k]? = some v := ⟨_, List.getElem?_eq_getElem (by rw [HL.out]; exact hlt)⟩
        obtain ⟨bb, off, rfl, c0⟩ := (HX.out.later (HU2.out.then hu)).cellAt hv
        have HVi := Lib.hid (HXi.out k v hv)
        obtain ⟨g1, g2⟩ := HSt.out y k v hv hry
        have HG1 := Lib.hid g1; have HG2 := Lib.hid g2
        have HYl := Lib.hid hyl; have HYi := Lib.hid hyi
        have IY := Lib.hid (row_ints HO.out hyl (by omega))
        have IF2 := Lib.hid (IF.out.later hu)
        have HB := Lib.hid (fun p => dotT_in (ws := [(3 : Int), -3, 1]) (by decide) (inM_rev hyi) (by decide) p)
        have HSs := Lib.hid (fun p q (hq : [(3 : Int), -3, 1][p]? = some q) => dotT_succ [(3 : Int), -3, 1] y.reverse p q hq)
        have HR := Lib.hid (fun p => rev_get (x := y) (k := p))
        have HFi := Lib.hid (fun p q (hq : [(3 : Int), -3, 1][p]? = some q) => inM_yes (m := 6) (by decide) q (List.mem_of_getElem? hq))
        have HYg := Lib.hid (fun j => getD_in (by decide) hyi j)
        have HYo := Lib.hid (fun j (hj : j < y.length) => getD_of hj)
        have HPd := Lib.hid (pre_dot3 y)
        have HZ := Lib.hid (show dotL ([(3 : Int), -3, 1].take 0) y.reverse = 0 by rw [List.take_zero, dotL_nil])
        have HEd := Lib.hid (show dotL ([(3 : Int), -3, 1].take 3) y.reverse = dotL [(3 : Int), -3, 1] y.reverse from rfl)
        have HFl := Lib.hid (show ([(3 : Int), -3, 1]).length = 3 from rfl)
        rw [hyl] at HR HYo
        rw [HPd.out] at HG1 HG2
        clear hown hu hv hyl hyi hry g1 g2
        generalize [(3 : Int), -3, 1] = fs at *
        go_wp2_with fail
        go_loop [10, 42] (fun s i => ∃ p : Nat, p ≤ 3 ∧ i = .int .i64 p ∧ s = .int .i64 (v + dotL (fs.take p) y.reverse)) (fun _ i => 3 - (intOf i).toNat)
        case atStart => exact ⟨0, Nat.zero_le _, rfl, by rw [HZ.out, Int.add_zero]⟩
        case round =>
          obtain ⟨p, hp, rfl, rfl⟩ := hrel
          by_cases hlt2 : p < 3
          · obtain ⟨q, hq⟩ : ∃ q, fs[p]? = some q := ⟨_, List.getElem?_eq_getElem (by rw [HFl.out]; exact hlt2)⟩
            obtain ⟨b2, o2, hg2, c2⟩ := IF2.out.cellAt hq
            cases hg2
            rw [Nat.zero_add] at c2
            have hqi := HFi.out p q hq
            have hst := HSs.out p q hq
            rw [HR.out p] at hst
            obtain ⟨j1, j2, j3, j4⟩ := pix_facts (L := k) (k := p) (by omega) (by omega)
            have hS0 := HB.out p
            have hvi := HVi.out
            by_cases hkL : p < k
            · rw [if_pos hkL] at hst
              obtain ⟨r, hr⟩ : ∃ r, k - 1 - p = r := ⟨_, rfl⟩
              rw [hr] at hst
              have hri : (k : Int) - 1 - (p : Int) = (r : Int) := by clear j1 j2 j3 j4; omega
              rw [hri] at j3 j4
              have hrL : r < k := by clear j1 j2 j3 j4; omega
              have hrLi : (r : Int) < (k : Int) := by clear j1 j2 j3 j4; omega
              obtain ⟨b1, o1, rfl, c1⟩ := IY.out.cellAt (HYo.out r hrL)
              have hxi := HYg.out r
              have g1 : decide ((0 : Int) ≤ (r : Int)) = true := decide_eq_true (by clear j1 j2 j3 j4; omega)
              generalize y.getD r 0 = X at *
              have hm := abs_mul_in hqi hxi
              obtain ⟨m, hmm⟩ : ∃ m, q * X = m := ⟨_, rfl⟩
              rw [hmm] at hst hm
              have HSt2 := Lib.hid hst
              generalize dotL (fs.take p) y.reverse = S at *
              have z1 : wrap64 (q * X) = m := by rw [hmm]; exact IntWalk.wrap64_in _ (by clear j1 j2 j3 j4; omega)
              have z2 : IntKind.i64.wrap (q * X) = m := by rw [hmm]; exact IntWalk.i64_in _ (by clear j1 j2 j3 j4 z1; omega)
              obtain ⟨T, hT⟩ : ∃ T, v + S = T := ⟨_, rfl⟩
              rw [hT]
              have HT := Lib.hid hT
              have z3 : wrap64 (T + m) = T + m := IntWalk.wrap64_in _ (by clear j1 j2 j3 j4 z1 z2; omega)
              have z4 : IntKind.i64.wrap (T + m) = T + m := IntWalk.i64_in _ (by clear j1 j2 j3 j4 z1 z2 z3; omega)
              have p1 : (p : Int) < 3 := by clear j1 j2 j3 j4 z1 z2 z3 z4; omega
              clear hq hqi hst hS0 hm hmm hxi hr hvi hT hb hlt hk hlt2 hkL hrL
              go_wp2_with fail
              go_round
              case rel => exact ⟨p + 1, by clear j1 j2 j3 j4 z1 z2 z3 z4; omega, by go_num, by rw [HSt2.out, ← HT.out, Int.add_assoc]⟩
              case measure => clear j1 j2 j3 j4 z1 z2 z3 z4; simp [intOf]; omega
            · rw [if_neg hkL, Int.mul_zero, Int.add_zero] at hst
              have HSt2 := Lib.hid hst
              have g1 : decide ((0 : Int) ≤ (k : Int) - 1 - (p : Int)) = false := decide_eq_false (by clear j1 j2 j3 j4; omega)
              have g2 : ((0 : Int) ≤ (k : Int) - 1 - (p : Int)) = False := eq_false (by clear j1 j2 j3 j4; omega)
              have p1 : (p : Int) < 3 := by clear j1 j2 j3 j4; omega
              obtain ⟨T, hT⟩ : ∃ T, v + dotL (fs.take p) y.reverse = T := ⟨_, rfl⟩
              rw [hT]
              have HT := Lib.hid hT
              clear hq hqi hst hS0 hvi hT hb hlt hk
              go_wp2_with fail
              go_round
              case rel => exact ⟨p + 1, by clear j1 j2 j3 j4; omega, by go_num, by rw [HSt2.out, HT.out]⟩
              case measure => clear j1 j2 j3 j4; simp [intOf] <;> omega
          · obtain rfl : p = 3 := by omega
            have hS0 := HB.out 3
            have hvi := HVi.out
            rw [HEd.out] at hS0 ⊢
            obtain ⟨u, huu⟩ : ∃ u, v + dotL fs y.reverse = u := ⟨_, rfl⟩
            rw [huu] at HG1 HG2 ⊢
            have hk1 : k ≤ 1000000 := by omega
            clear hlt2 hp hS0 hvi huu
            by_cases b1 : u < -2097152
            · have s1 : decide (u < -2097152) = true := decide_eq_true b1
              obtain ⟨q1, q2⟩ := HS1.out.1 (HG2.out (by omega))
              have Q1 := Lib.hid q1; have Q2 := Lib.hid q2
              clear b1 q1 q2
              go_wp2_with fail
              go_ret2
              exact ⟨none, 0, 0, by rw [Q2.out]; rfl, by rw [Q1.out]; exact World.ownsRow_nil _ _ _ _, HU2.out.then HU.out⟩
            · have s1 : decide (u < -2097152) = false := decide_eq_false b1
              by_cases b2 : 2097152 < u
              · have s2 : decide (2097152 < u) = true := decide_eq_true b2
                obtain ⟨q1, q2⟩ := HS1.out.1 (HG2.out (by omega))
                have Q1 := Lib.hid q1; have Q2 := Lib.hid q2
                clear b1 b2 q1 q2
                go_wp2_with fail
                go_ret2
                exact ⟨none, 0, 0, by rw [Q2.out]; rfl, by rw [Q1.out]; exact World.ownsRow_nil _ _ _ _, HU2.out.then HU.out⟩
              · have s2 : decide (2097152 < u) = false := decide_eq_false b2
                have HYn := Lib.hid (show inM 2097152 (y ++ [u]) = true from inM_all fun q hq => by
                  rw [List.mem_append, List.mem_singleton] at hq
                  rcases hq with hq | rfl
                  · exact inM_yes HYi.out q hq
                  · omega)
                clear b1 b2
                go_wp2_with (at_builtin; refine wpList_push rfl (.tmp 70) (.tmp 72) rfl w2.heap.size (.slice va k vc) k y u rfl rfl HO.out hk1 hb ?_; intro v' w' hown' u'; have R' := Lib.hid hown'; have U' := Lib.hid u'; clear hown' u')
                go_roundw
                case rel => exact ⟨k + 1, y ++ [u], by omega, by go_num, R'.out, by rw [List.length_append, HYl.out]; rfl, HYn.out, HG1.out, upd_ge ((upd_ge' HU.out w2.heap.size).trans U'.out (fun _ _ h => h))⟩
                case measure => simp [intOf]; omega
      · obtain rfl : k = L := by omega
        rw [HTa.out] at hry
        obtain ⟨q1, q2⟩ := HS1.out.2 y (HEn.out y hry hyi)
        have Q1 := Lib.hid q1; have Q2 := Lib.hid q2; have HYl := Lib.hid hyl
        clear hown hu hlt hyl hyi hry q1 q2
        go_wp2_with fail
        go_ret2
        exact ⟨_, _, _, by rw [Q2.out]; rfl, by rw [Q1.out, HYl.out]; exact row_base HO.out hsz, HU2.out.then HU.out⟩
  · obtain ⟨q1, q2⟩ := HS.out.1 hc
    rw [q1, q2]
    obtain ⟨C, hC⟩ : ∃ C, ckE 67108864 x = C := ⟨_, rfl⟩
    rw [hC] at HC hc ⊢
    have hc0 : (C == 0) = false := beq_eq_false_iff_ne.2 hc
    obtain ⟨a, cap, rfl⟩ := h.form
    generalize x.length = L at *
    clear h hc hC q1 q2
    go_enter Try.func37, Try.ntmps37
    go_wp2_with fail
    refine HC.out.mono ?_
    rintro e w1 ⟨rfl, rfl⟩
    go_wp2_with fail
    go_ret2
    exact ⟨none, 0, 0, rfl, World.ownsRow_nil _ _ _ _, Upd.refl _ _⟩
theorem pre_dot4 (y : List Int) : preG 4 y = dotL [(4 : Int), -6, 4, -1] y.reverse := by
  have e0 : dotL ([(4 : Int), -6, 4, -1].take 1) y.reverse = dotL ([(4 : Int), -6, 4, -1].take 0) y.reverse + (4) * bkG y 0 := dotT_succ [(4 : Int), -6, 4, -1] y.reverse 0 (4) rfl
  have e1 : dotL ([(4 : Int), -6, 4, -1].take 2) y.reverse = dotL ([(4 : Int), -6, 4, -1].take 1) y.reverse + (-6) * bkG y 1 := dotT_succ [(4 : Int), -6, 4, -1] y.reverse 1 (-6) rfl
  have e2 : dotL ([(4 : Int), -6, 4, -1].take 3) y.reverse = dotL ([(4 : Int), -6, 4, -1].take 2) y.reverse + (4) * bkG y 2 := dotT_succ [(4 : Int), -6, 4, -1] y.reverse 2 (4) rfl
  have e3 : dotL ([(4 : Int), -6, 4, -1].take 4) y.reverse = dotL ([(4 : Int), -6, 4, -1].take 3) y.reverse + (-1) * bkG y 3 := dotT_succ [(4 : Int), -6, 4, -1] y.reverse 3 (-1) rfl
  have z : dotL ([(4 : Int), -6, 4, -1].take 0) y.reverse = 0 := dotL_nil _
  have t : [(4 : Int), -6, 4, -1].take 4 = [(4 : Int), -6, 4, -1] := rfl
  rw [t] at e3
  show 4 * bkG y 0 - 6 * bkG y 1 + 4 * bkG y 2 - bkG y 3 = _
  omega
set_option maxRecDepth 100000 in
set_option maxHeartbeats 8000000 in
theorem rAdd4_any (sv : Value) (x : List Int) (w : World) (h : Ints w sv x) : Calls Try.prog 37 #[sv, .int .i64 4] w (EInts w (adS x (4 : Nat)) (adE x (4 : Nat))) := by
  have HX := Lib.hid h
  have HC := Lib.hid (rlist_any sv x 67108864 w (by decide) h)
  have HS := Lib.hid (ad_cases x 4 (by decide))
  by_cases hc : ckE 67108864 x = 0
  · obtain ⟨hxl, hxi⟩ := ckE_ok hc
    rw [hc] at HC
    have HS1 := Lib.hid (HS.out.2 hc)
    have HSt := Lib.hid (fun (y : List Int) k v (hv : x[k]? = some v) hy => add_step (k := 4) (by decide) (d := x) (y := y) (n := k) (v := v) hv hy)
    have HEn := Lib.hid (fun (y : List Int) (hy : difK 4 y = x) hi => add_end (k := 4) hy hi)
    have HXi := Lib.hid (fun k v (hv : x[k]? = some v) => inM_yes hxi v (List.mem_of_getElem? hv))
    have H0 := Lib.hid (show difK 4 ([] : List Int) = x.take 0 by rw [List.take_zero]; rfl)
    have HTa := Lib.hid (show x.take x.length = x from List.take_length)
    have HF := Lib.hid (show ((((((w.alloc (.cells #[] 3)).alloc (.cells #[.int .i64 1] 3)).alloc (.cells #[.int .i64 2, .int .i64 (-1)] 3)).alloc (.cells #[.int .i64 3, .int .i64 (-3), .int .i64 1] 3)).alloc (.cells #[.int .i64 4, .int .i64 (-6), .int .i64 4, .int .i64 (-1)] 3)).alloc (.cells #[.slice (some ⟨w.heap.size, 0, none⟩) 0 0, .slice (some ⟨w.heap.size + 1, 0, none⟩) 1 1, .slice (some ⟨w.heap.size + 1 + 1, 0, none⟩) 2 2, .slice (some ⟨w.heap.size + 1 + 1 + 1, 0, none⟩) 3 3, .slice (some ⟨w.heap.size + 1 + 1 + 1 + 1, 0, none⟩) 4 4] 22)).heap[w.heap.size + 1 + 1 + 1 + 1]? = some (.cells (i64s [(4 : Int), -6, 4, -1]).toArray 3 (0, 0)) by
      have e := heap_alloc_new ((((w.alloc (.cells #[] 3)).alloc (.cells #[.int .i64 1] 3)).alloc (.cells #[.int .i64 2, .int .i64 (-1)] 3)).alloc (.cells #[.int .i64 3, .int .i64 (-3), .int .i64 1] 3)) (.cells #[.int .i64 4, .int .i64 (-6), .int .i64 4, .int .i64 (-1)] 3)
      try simp only [size_alloc] at e
      exact ((Upd.refl NoB (((((w.alloc (.cells #[] 3)).alloc (.cells #[.int .i64 1] 3)).alloc (.cells #[.int .i64 2, .int .i64 (-1)] 3)).alloc (.cells #[.int .i64 3, .int .i64 (-3), .int .i64 1] 3)).alloc (.cells #[.int .i64 4, .int .i64 (-6), .int .i64 4, .int .i64 (-1)] 3))).alloc _).heap e (noB _))
    have HUw := Lib.hid (show Upd NoB w ((((((w.alloc (.cells #[] 3)).alloc (.cells #[.int .i64 1] 3)).alloc (.cells #[.int .i64 2, .int .i64 (-1)] 3)).alloc (.cells #[.int .i64 3, .int .i64 (-3), .int .i64 1] 3)).alloc (.cells #[.int .i64 4, .int .i64 (-6), .int .i64 4, .int .i64 (-1)] 3)).alloc (.cells #[.slice (some ⟨w.heap.size, 0, none⟩) 0 0, .slice (some ⟨w.heap.size + 1, 0, none⟩) 1 1, .slice (some ⟨w.heap.size + 1 + 1, 0, none⟩) 2 2, .slice (some ⟨w.heap.size + 1 + 1 + 1, 0, none⟩) 3 3, .slice (some ⟨w.heap.size + 1 + 1 + 1 + 1, 0, none⟩) 4 4] 22)) from (((((((Upd.refl NoB w).alloc _).alloc _).alloc _).alloc _).alloc _).alloc _))
    obtain ⟨a, cap, rfl⟩ := h.form
    obtain ⟨RS, hRS⟩ : ∃ RS, adS x (4 : Nat) = RS := ⟨_, rfl⟩
    obtain ⟨RE, hRE⟩ : ∃ RE, adE x (4 : Nat) = RE := ⟨_, rfl⟩
    rw [hRS, hRE] at HS1 ⊢
    obtain ⟨L, hL⟩ : ∃ L, x.length = L := ⟨_, rfl⟩
    have HL := Lib.hid hL
    rw [hL] at HX HC hxl HTa ⊢
    have hL8 : L ≤ 8192 := hxl
    clear h hc hxl hxi hRS hRE hL HS
    go_enter Try.func37, Try.ntmps37
    go_wp2_with fail
    refine HC.out.mono ?_
    rintro e w1 ⟨rfl, rfl⟩
    go_wp2_with fail
    have IF := Lib.hid (Ints.ofBlock (xs := [(4 : Int), -6, 4, -1]) (by decide) HF.out)
    have U2 := HUw.out
    clear HF HUw
    generalize ((((((w.alloc (.cells #[] 3)).alloc (.cells #[.int .i64 1] 3)).alloc (.cells #[.int .i64 2, .int .i64 (-1)] 3)).alloc (.cells #[.int .i64 3, .int .i64 (-3), .int .i64 1] 3)).alloc (.cells #[.int .i64 4, .int .i64 (-6), .int .i64 4, .int .i64 (-1)] 3)).alloc (.cells #[.slice (some ⟨w.heap.size, 0, none⟩) 0 0, .slice (some ⟨w.heap.size + 1, 0, none⟩) 1 1, .slice (some ⟨w.heap.size + 1 + 1, 0, none⟩) 2 2, .slice (some ⟨w.heap.size + 1 + 1 + 1, 0, none⟩) 3 3, .slice (some ⟨w.heap.size + 1 + 1 + 1 + 1, 0, none⟩) 4 4] 22)) = w2 at *
    generalize w.heap.size + 1 + 1 + 1 + 1 = g at *
    have HU2 := Lib.hid U2; have hsz := U2.size
    clear U2
    go_loopw [8, 35] (fun v i wr => ∃ (k : Nat) (y : List Int), k ≤ L ∧ i = .int .i64 k ∧ wr.ownsRow w2.heap.size 3 1 v k (i64s y) ∧ y.length = k ∧ inM 2097152 y = true ∧ difK 4 y = x.take k ∧ Upd NoB w2 wr) (fun _ i _ => L - (intOf i).toNat)
    case atStart => exact ⟨0, [], Nat.zero_le _, rfl, World.ownsRow_nil _ _ _ _, rfl, rfl, H0.out, Upd.refl _ _⟩
    case round =>
      obtain ⟨k, y, hk, rfl, hown, hyl, hyi, hry, hu⟩ := hrel
      obtain ⟨va, vc, rfl⟩ := row_form hown
      have HO := Lib.hid hown; have HU := Lib.hid hu
      have hb := hu.size
      by_cases hlt : k < L
      · obtain ⟨v, hv⟩ : ∃ v, x[k]? = some v := ⟨_, List.getElem?_eq_getElem (by rw [HL.out]; exact hlt)⟩
        obtain ⟨bb, off, rfl, c0⟩ := (HX.out.later (HU2.out.then hu)).cellAt hv
        have HVi := Lib.hid (HXi.out k v hv)
        obtain ⟨g1, g2⟩ := HSt.out y k v hv hry
        have HG1 := Lib.hid g1; have HG2 := Lib.hid g2
        have HYl := Lib.hid hyl; have HYi := Lib.hid hyi
        have IY := Lib.hid (row_ints HO.out hyl (by omega))
        have IF2 := Lib.hid (IF.out.later hu)
        have HB := Lib.hid (fun p => dotT_in (ws := [(4 : Int), -6, 4, -1]) (by decide) (inM_rev hyi) (by decide) p)
        have HSs := Lib.hid (fun p q (hq : [(4 : Int), -6, 4, -1][p]? = some q) => dotT_succ [(4 : Int), -6, 4, -1] y.reverse p q hq)
        have HR := Lib.hid (fun p => rev_get (x := y) (k := p))
        have HFi := Lib.hid (fun p q (hq : [(4 : Int), -6, 4, -1][p]? = some q) => inM_yes (m := 6) (by decide) q (List.mem_of_getElem? hq))
        have HYg := Lib.hid (fun j => getD_in (by decide) hyi j)
        have HYo := Lib.hid (fun j (hj : j < y.length) => getD_of hj)
        have HPd := Lib.hid (pre_dot4 y)
        have HZ := Lib.hid (show dotL ([(4 : Int), -6, 4, -1].take 0) y.reverse = 0 by rw [List.take_zero, dotL_nil])
        have HEd := Lib.hid (show dotL ([(4 : Int), -6, 4, -1].take 4) y.reverse = dotL [(4 : Int), -6, 4, -1] y.reverse from rfl)
        have HFl := Lib.hid (show ([(4 : Int), -6, 4, -1]).length = 4 from rfl)
        rw [hyl] at HR HYo
        rw [HPd.out] at HG1 HG2
        clear hown hu hv hyl hyi hry g1 g2
        generalize [(4 : Int), -6, 4, -1] = fs at *
        go_wp2_with fail
        go_loop [10, 42] (fun s i => ∃ p : Nat, p ≤ 4 ∧ i = .int .i64 p ∧ s = .int .i64 (v + dotL (fs.take p) y.reverse)) (fun _ i => 4 - (intOf i).toNat)
        case atStart => exact ⟨0, Nat.zero_le _, rfl, by rw [HZ.out, Int.add_zero]⟩
        case round =>
          obtain ⟨p, hp, rfl, rfl⟩ := hrel
          by_cases hlt2 : p < 4
          · obtain ⟨q, hq⟩ : ∃ q, fs[p]? = some q := ⟨_, List.getElem?_eq_getElem (by rw [HFl.out]; exact hlt2)⟩
            obtain ⟨b2, o2, hg2, c2⟩ := IF2.out.cellAt hq
            cases hg2
            rw [Nat.zero_add] at c2
            have hqi := HFi.out p q hq
            have hst := HSs.out p q hq
            rw [HR.out p] at hst
            obtain ⟨j1, j2, j3, j4⟩ := pix_facts (L := k) (k := p) (by omega) (by omega)
            have hS0 := HB.out p
            have hvi := HVi.out
            by_cases hkL : p < k
            · rw [if_pos hkL] at hst
              obtain ⟨r, hr⟩ : ∃ r, k - 1 - p = r := ⟨_, rfl⟩
              rw [hr] at hst
              have hri : (k : Int) - 1 - (p : Int) = (r : Int) := by clear j1 j2 j3 j4; omega
              rw [hri] at j3 j4
              have hrL : r < k := by clear j1 j2 j3 j4; omega
              have hrLi : (r : Int) < (k : Int) := by clear j1 j2 j3 j4; omega
              obtain ⟨b1, o1, rfl, c1⟩ := IY.out.cellAt (HYo.out r hrL)
              have hxi := HYg.out r
              have g1 : decide ((0 : Int) ≤ (r : Int)) = true := decide_eq_true (by clear j1 j2 j3 j4; omega)
              generalize y.getD r 0 = X at *
              have hm := abs_mul_in hqi hxi
              obtain ⟨m, hmm⟩ : ∃ m, q * X = m := ⟨_, rfl⟩
              rw [hmm] at hst hm
              have HSt2 := Lib.hid hst
              generalize dotL (fs.take p) y.reverse = S at *
              have z1 : wrap64 (q * X) = m := by rw [hmm]; exact IntWalk.wrap64_in _ (by clear j1 j2 j3 j4; omega)
              have z2 : IntKind.i64.wrap (q * X) = m := by rw [hmm]; exact IntWalk.i64_in _ (by clear j1 j2 j3 j4 z1; omega)
              obtain ⟨T, hT⟩ : ∃ T, v + S = T := ⟨_, rfl⟩
              rw [hT]
              have HT := Lib.hid hT
              have z3 : wrap64 (T + m) = T + m := IntWalk.wrap64_in _ (by clear j1 j2 j3 j4 z1 z2; omega)
              have z4 : IntKind.i64.wrap (T + m) = T + m := IntWalk.i64_in _ (by clear j1 j2 j3 j4 z1 z2 z3; omega)
              have p1 : (p : Int) < 4 := by clear j1 j2 j3 j4 z1 z2 z3 z4; omega
              clear hq hqi hst hS0 hm hmm hxi hr hvi hT hb hlt hk hlt2 hkL hrL
              go_wp2_with fail
              go_round
              case rel => exact ⟨p + 1, by clear j1 j2 j3 j4 z1 z2 z3 z4; omega, by go_num, by rw [HSt2.out, ← HT.out, Int.add_assoc]⟩
              case measure => clear j1 j2 j3 j4 z1 z2 z3 z4; simp [intOf]; omega
            · rw [if_neg hkL, Int.mul_zero, Int.add_zero] at hst
              have HSt2 := Lib.hid hst
              have g1 : decide ((0 : Int) ≤ (k : Int) - 1 - (p : Int)) = false := decide_eq_false (by clear j1 j2 j3 j4; omega)
              have g2 : ((0 : Int) ≤ (k : Int) - 1 - (p : Int)) = False := eq_false (by clear j1 j2 j3 j4; omega)
              have p1 : (p : Int) < 4 := by clear j1 j2 j3 j4; omega
              obtain ⟨T, hT⟩ : ∃ T, v + dotL (fs.take p) y.reverse = T := ⟨_, rfl⟩
              rw [hT]
              have HT := Lib.hid hT
              clear hq hqi hst hS0 hvi hT hb hlt hk
              go_wp2_with fail
              go_round
              case rel => exact ⟨p + 1, by clear j1 j2 j3 j4; omega, by go_num, by rw [HSt2.out, HT.out]⟩
              case measure => clear j1 j2 j3 j4; simp [intOf] <;> omega
          · obtain rfl : p = 4 := by omega
            have hS0 := HB.out 4
            have hvi := HVi.out
            rw [HEd.out] at hS0 ⊢
            obtain ⟨u, huu⟩ : ∃ u, v + dotL fs y.reverse = u := ⟨_, rfl⟩
            rw [huu] at HG1 HG2 ⊢
            have hk1 : k ≤ 1000000 := by omega
            clear hlt2 hp hS0 hvi huu
            by_cases b1 : u < -2097152
            · have s1 : decide (u < -2097152) = true := decide_eq_true b1
              obtain ⟨q1, q2⟩ := HS1.out.1 (HG2.out (by omega))
              have Q1 := Lib.hid q1; have Q2 := Lib.hid q2
              clear b1 q1 q2
              go_wp2_with fail
              go_ret2
              exact ⟨none, 0, 0, by rw [Q2.out]; rfl, by rw [Q1.out]; exact World.ownsRow_nil _ _ _ _, HU2.out.then HU.out⟩
            · have s1 : decide (u < -2097152) = false := decide_eq_false b1
              by_cases b2 : 2097152 < u
              · have s2 : decide (2097152 < u) = true := decide_eq_true b2
                obtain ⟨q1, q2⟩ := HS1.out.1 (HG2.out (by omega))
                have Q1 := Lib.hid q1; have Q2 := Lib.hid q2
                clear b1 b2 q1 q2
                go_wp2_with fail
                go_ret2
                exact ⟨none, 0, 0, by rw [Q2.out]; rfl, by rw [Q1.out]; exact World.ownsRow_nil _ _ _ _, HU2.out.then HU.out⟩
              · have s2 : decide (2097152 < u) = false := decide_eq_false b2
                have HYn := Lib.hid (show inM 2097152 (y ++ [u]) = true from inM_all fun q hq => by
                  rw [List.mem_append, List.mem_singleton] at hq
                  rcases hq with hq | rfl
                  · exact inM_yes HYi.out q hq
                  · omega)
                clear b1 b2
                go_wp2_with (at_builtin; refine wpList_push rfl (.tmp 70) (.tmp 72) rfl w2.heap.size (.slice va k vc) k y u rfl rfl HO.out hk1 hb ?_; intro v' w' hown' u'; have R' := Lib.hid hown'; have U' := Lib.hid u'; clear hown' u')
                go_roundw
                case rel => exact ⟨k + 1, y ++ [u], by omega, by go_num, R'.out, by rw [List.length_append, HYl.out]; rfl, HYn.out, HG1.out, upd_ge ((upd_ge' HU.out w2.heap.size).trans U'.out (fun _ _ h => h))⟩
                case measure => simp [intOf]; omega
      · obtain rfl : k = L := by omega
        rw [HTa.out] at hry
        obtain ⟨q1, q2⟩ := HS1.out.2 y (HEn.out y hry hyi)
        have Q1 := Lib.hid q1; have Q2 := Lib.hid q2; have HYl := Lib.hid hyl
        clear hown hu hlt hyl hyi hry q1 q2
        go_wp2_with fail
        go_ret2
        exact ⟨_, _, _, by rw [Q2.out]; rfl, by rw [Q1.out, HYl.out]; exact row_base HO.out hsz, HU2.out.then HU.out⟩
  · obtain ⟨q1, q2⟩ := HS.out.1 hc
    rw [q1, q2]
    obtain ⟨C, hC⟩ : ∃ C, ckE 67108864 x = C := ⟨_, rfl⟩
    rw [hC] at HC hc ⊢
    have hc0 : (C == 0) = false := beq_eq_false_iff_ne.2 hc
    obtain ⟨a, cap, rfl⟩ := h.form
    generalize x.length = L at *
    clear h hc hC q1 q2
    go_enter Try.func37, Try.ntmps37
    go_wp2_with fail
    refine HC.out.mono ?_
    rintro e w1 ⟨rfl, rfl⟩
    go_wp2_with fail
    go_ret2
    exact ⟨none, 0, 0, rfl, World.ownsRow_nil _ _ _ _, Upd.refl _ _⟩
end Go.Proofs.Ytopjjdfnnjgnlaa
