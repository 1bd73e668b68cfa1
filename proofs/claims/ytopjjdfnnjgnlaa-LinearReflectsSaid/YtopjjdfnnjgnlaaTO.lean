/- linear: likenesses -/
import Derived.Test.YtopjjdfnnjgnlaaTN
namespace Go.Proofs.Ytopjjdfnnjgnlaa
open Go.RowKit Go.Shelf

theorem run_slice_lo (w : World) (a : Option Addr) (n cap l : Nat) (hl : l ≤ n) (_hn : n ≤ cap) :
    (Instr.slice 22 (.slice a n cap) (some (.int .i64 (l : Int))) none none).run Try.prog w = .ok (.slice (if cap = l then a else a.map (fun p => p.add (l * 1))) (n - l) (cap - l)) w := by
  have h1 : (0 : Int) ≤ (l : Int) ∧ (l : Int) ≤ (n : Int) := ⟨by omega, by omega⟩
  have hsz : (sizeOf 3).run Try.prog w = .ok 1 w := by kernel_rfl
  have hu : (underlying 22).run Try.prog w = .ok (.slice 3) w := by kernel_rfl
  simp [Instr.slice, Instr.sliceBounds, Instr.sliceBound, asIntOf, Sem.run_bind, Result.andThen, hu, hsz, h1, Int.toNat_natCast, hl]
theorem dot_nn : ∀ l : List Int, 0 ≤ dotL l l
  | [] => Int.le_refl _
  | a :: l => by
    have := dot_nn l
    have h : 0 ≤ a * a := by
      rcases Int.le_total 0 a with h | h
      · exact Int.mul_nonneg h h
      · rw [← Int.neg_mul_neg]; exact Int.mul_nonneg (by omega) (by omega)
    show 0 ≤ a * a + dotL l l
    omega
theorem two_ab (a b : Int) : -(a * a + b * b) ≤ 2 * (a * b) ∧ 2 * (a * b) ≤ a * a + b * b := by
  have sq : ∀ z : Int, 0 ≤ z * z := fun z => by
    rcases Int.le_total 0 z with h | h
    · exact Int.mul_nonneg h h
    · rw [← Int.neg_mul_neg]; exact Int.mul_nonneg (by omega) (by omega)
  have h1 := sq (a + b)
  have h2 := sq (a - b)
  rw [Int.add_mul, Int.mul_add, Int.mul_add, Int.mul_comm b a] at h1
  rw [Int.sub_mul, Int.mul_sub, Int.mul_sub, Int.mul_comm b a] at h2
  omega
theorem dot_cs : ∀ (l m : List Int), -(dotL l l + dotL m m) ≤ 2 * dotL l m ∧ 2 * dotL l m ≤ dotL l l + dotL m m
  | [], m => by have := dot_nn m; rw [dotL_nil, dotL_nil]; omega
  | a :: l, [] => by have := dot_nn (a :: l); have e : dotL ([] : List Int) [] = 0 := rfl; rw [dotL_nil2 (a :: l), e]; omega
  | a :: l, b :: m => by
    have ih := dot_cs l m
    have h := two_ab a b
    have e1 : dotL (a :: l) (b :: m) = a * b + dotL l m := rfl
    have e2 : dotL (a :: l) (a :: l) = a * a + dotL l l := rfl
    have e3 : dotL (b :: m) (b :: m) = b * b + dotL m m := rfl
    rw [e1, e2, e3]
    omega
theorem dot_drop : ∀ (l : List Int) (j : Nat), dotL (l.drop j) (l.drop j) ≤ dotL l l
  | l, 0 => Int.le_refl _
  | [], j + 1 => Int.le_refl _
  | a :: l, j + 1 => by
    have ih := dot_drop l j
    have h := dot_nn [a]
    have e1 : dotL [a] [a] = a * a + dotL [] [] := rfl
    have e3 : dotL ([] : List Int) [] = 0 := rfl
    have e2 : dotL (a :: l) (a :: l) = a * a + dotL l l := rfl
    rw [List.drop_succ_cons, e2]
    omega
theorem like_le (x : List Int) (j : Nat) : -(dotL x x) ≤ dotL x (x.drop j) ∧ dotL x (x.drop j) ≤ dotL x x := by
  have h1 := dot_cs x (x.drop j)
  have h2 := dot_drop x j
  omega
theorem inM_drop {m : Int} {l : List Int} (h : inM m l = true) (k : Nat) : inM m (l.drop k) = true := inM_all fun x hx => inM_yes h x (List.mem_of_mem_drop hx)
theorem like_mul {x : List Int} {m : Nat} (h : inM 2097152 x = true) {i : Nat} {a b : Int} (ha : x[i]? = some a) (hb : (x.drop m)[i]? = some b) : -4611686018427387904 ≤ a * b ∧ a * b ≤ 4611686018427387904 := by
  have h1 := inM_yes h a (List.mem_of_getElem? ha)
  have h2 := inM_yes (inM_drop h m) b (List.mem_of_getElem? hb)
  have := abs_mul_in h1 h2
  omega
theorem like_part {x : List Int} (h : inM 2097152 x = true) (hl : x.length ≤ 8192) (m k : Nat) : -4611686018427387904 ≤ dotK x (x.drop m) k ∧ dotK x (x.drop m) k ≤ 4611686018427387904 := by
  have := dotL_in (x.take k) ((x.drop m).take k) (inM_take h k) (inM_take (inM_drop h m) k)
  have hn : min (x.take k).length ((x.drop m).take k).length ≤ 8192 := by rw [List.length_take]; omega
  generalize min (x.take k).length ((x.drop m).take k).length = n at *
  unfold dotK
  omega
theorem like_sum {x : List Int} (h : inM 2097152 x = true) (hl : x.length ≤ 8192) : 0 ≤ dotL x x ∧ dotL x x ≤ 36028797018963968 := by
  have := dotL_in x x h h
  rw [Nat.min_self] at this
  exact ⟨dot_nn x, by omega⟩
theorem exF_lt {v : Int} : ∀ (n h : Nat), v / 2 ^ (h + n) < 1073741824 → v / 2 ^ (exF n v h) < 1073741824
  | 0, h, hv => by rw [Nat.add_zero] at hv; exact hv
  | n + 1, h, hv => by
    unfold exF
    split
    · assumption
    · exact exF_lt n (h + 1) (by rw [show h + 1 + n = h + (n + 1) by omega]; exact hv)
theorem exS_lt {v : Int} (h0 : 0 ≤ v) (h1 : v ≤ 72057594037927936) : v / 2 ^ (exS v) < 1073741824 := by
  refine exF_lt 64 0 ?_
  rw [Nat.zero_add, show (2 : Int) ^ 64 = 18446744073709551616 by decide]
  omega
theorem exF_le {v : Int} : ∀ (n h : Nat), exF n v h ≤ h + n
  | 0, h => Nat.le_refl _
  | n + 1, h => by
    unfold exF
    split
    · omega
    · have := exF_le (v := v) n (h + 1); omega
/-- the likenesses of a list, scaled down -/
def likL (x : List Int) (o : Nat) : List Int := (List.range (o + 1)).map fun j => dotL x (x.drop (min j x.length)) / 2 ^ (exS (dotL x x))
theorem likL_len (x : List Int) (o : Nat) : (likL x o).length = o + 1 := by unfold likL; simp
theorem likL_get {x : List Int} {o j : Nat} (h : j < o + 1) : (likL x o).getD j 0 = dotL x (x.drop (min j x.length)) / 2 ^ (exS (dotL x x)) := by
  unfold likL
  rw [List.getD_eq_getElem?_getD, List.getElem?_map, List.getElem?_range h]; rfl
theorem likL_in {x : List Int} (h : inM 2097152 x = true) (hl : x.length ≤ 8192) (o : Nat) : inM 1073741824 (likL x o) = true := by
  obtain ⟨e0, e1⟩ := like_sum h hl
  have hx := exS_lt e0 (by omega)
  have hP : (0 : Int) < 2 ^ (exS (dotL x x)) := by
    have := Nat.two_pow_pos (exS (dotL x x))
    have e : ((2 : Int) ^ (exS (dotL x x))) = ((2 ^ (exS (dotL x x)) : Nat) : Int) := by simp
    omega
  refine inM_all fun y hy => ?_
  unfold likL at hy
  rw [List.mem_map] at hy
  obtain ⟨j, _, rfl⟩ := hy
  have hb := like_le x (min j x.length)
  generalize (2 : Int) ^ (exS (dotL x x)) = P at *
  generalize dotL x (x.drop (min j x.length)) = D at *
  generalize dotL x x = E at *
  have h1 := (Int.ediv_lt_iff_lt_mul hP).1 hx
  have h2 : D / P < 1073741824 := (Int.ediv_lt_iff_lt_mul hP).2 (by omega)
  have h3 : -1073741824 ≤ D / P := (Int.le_ediv_iff_mul_le hP).2 (by rw [Int.neg_mul]; omega)
  omega
theorem Ints.from' {w : World} {a : Option Addr} {L cap : Nat} {xs : List Int} (h : Ints w (.slice a L cap) xs) (m : Nat) (hm : m ≤ L) (_hc : L ≤ cap) :
    Ints w (.slice (if cap = m then a else a.map (fun p => p.add (m * 1))) (L - m) (cap - m)) (xs.drop m) := by
  obtain ⟨hb, a', cap', e', ⟨hc, hn⟩, h3⟩ := h
  injection e' with e1 e2 e3
  subst e1; subst e3; subst e2
  have hl : (xs.drop m).length = xs.length - m := List.length_drop
  refine ⟨by omega, _, _, by rw [hl], ⟨by omega, fun e => ?_⟩, ?_⟩
  · by_cases hcm : cap = m
    · omega
    · rw [if_neg hcm] at e
      cases a with
      | none => have := hn rfl; omega
      | some p => cases e
  · by_cases hml : m = xs.length
    · left
      exact List.drop_of_length_le (by omega)
    · rcases h3 with h3 | ⟨b, off, rfl, h3⟩
      · left; rw [h3]; simp
      · right
        refine ⟨b, off + m, ?_, fun j x hx => ?_⟩
        · rw [if_neg (by omega), Option.map_some, addr_add, Nat.mul_one]
        · rw [List.getElem?_drop] at hx
          have := h3 (m + j) x hx
          rw [Nat.add_assoc]; exact this
set_option maxRecDepth 100000 in
set_option maxHeartbeats 8000000 in
theorem likenesses_any (sv : Value) (xs : List Int) (o : Nat) (w : World) (h : Ints w sv xs) (ho12 : o ≤ 12) (hl : xs.length ≤ 8192) (hin : inM 2097152 xs = true) :
    Calls Try.prog 74 #[sv, .int .i64 (o : Int)] w (IRes w (likL xs o)) := by
  have H := Lib.hid h; have HIn := Lib.hid hin
  have HE := Lib.hid (like_sum hin hl)
  have HGt := Lib.hid (fun j (hj : j < o + 1) => likL_get (x := xs) hj)
  have HLl := Lib.hid (likL_len xs o)
  obtain ⟨i0, hi, hz0, hz1, hz2⟩ := info_parts Try.infoInt
  obtain ⟨a, cap, rfl⟩ := h.form
  have hcap : xs.length ≤ cap := by
    obtain ⟨_, a', c', e, ⟨hcc, _⟩, _⟩ := h
    injection e with _ _ e3
    omega
  obtain ⟨L, hL⟩ : ∃ L, xs.length = L := ⟨_, rfl⟩
  have HL := Lib.hid hL
  rw [hL] at H hl hcap HGt ⊢
  obtain ⟨M, hM⟩ : ∃ M, o + 1 = M := ⟨_, rfl⟩
  have m1 : (o : Int) + 1 = (M : Int) := by omega
  have m2 : wrap64 (M : Int) = (M : Int) := IntWalk.wrap64_in _ (by omega)
  have m3 : IntKind.i64.wrap (M : Int) = (M : Int) := IntWalk.i64_in _ (by omega)
  have hM0 : 0 < M := by omega
  have hM13 : M ≤ 13 := by omega
  rw [hM] at HGt HLl
  obtain ⟨LK, hLK⟩ : ∃ LK, likL xs o = LK := ⟨_, rfl⟩
  rw [hLK] at HGt HLl ⊢
  clear h hL hin hM hLK ho12
  go_enter Try.func74, Try.ntmps74
  go_wp2_with (refine wpList_make_full w rfl _ _ 22 rfl w.heap.size 3 i0 (.int .i64 0) 1 Try.underlying22 hi hz0 hz1 .i64 .i64 _ _ M rfl rfl rfl rfl ?c1 ?c2 ?c3 ?_)
  case c1 => rw [hz2]; omega
  case c2 => unfold maxLen; omega
  case c3 => exact Nat.le_refl _
  intro w3 hown hgr
  rw [made_zero] at hown
  have u3 : Upd NoB w w3 := (Upd.refl _ _).grown hgr (fun k e => by cases e)
  obtain ⟨G, hG⟩ : ∃ G, w.heap.size = G := ⟨_, rfl⟩
  rw [hG] at hown ⊢
  have HO3 := Lib.hid (by
    have := (OwnR.of (w := w3) (base := G) (b := G) (cap := M) (xs := List.replicate M 0) (by rw [List.length_replicate]; exact hown)).1
    exact this : OwnR w3 G M (List.replicate M 0))
  have HGw := Lib.hid (show w.heap.size ≤ G by omega)
  have U3 := Lib.hid u3; have HGe := Lib.hid hG
  clear hown hgr u3 hG m1 m2 m3
  go_wp2_with fail
  go_loopw [14] (fun i wr => ∃ (j : Nat) (ys : List Int), j ≤ M ∧ i = .int .i64 (j : Int) ∧ OwnR wr G M ys ∧ ys.length = M ∧ (∀ t, t < j → ys.getD t 0 = dotL xs (xs.drop (min t L))) ∧ Upd NoB w wr) (fun i _ => M - (intOf i).toNat)
  case atStart => exact ⟨0, List.replicate M 0, Nat.zero_le _, rfl, HO3.out, by simp, fun t ht => by omega, U3.out⟩
  case round =>
    obtain ⟨j, ys, hj, rfl, ho, hyl, hys, hu⟩ := hrel
    by_cases hlt : j < M
    · by_cases hc : L < j
      · have hc0 := hc
        have HZm := Lib.hid (show min j L = L by omega)
        have hmn : min (j : Int) (L : Int) = (L : Int) := by omega
        obtain ⟨A1, hA1⟩ : ∃ A, (if cap = L then a else a.map (fun p => p.add (L * 1))) = A := ⟨_, rfl⟩
        have hsl := fun V => run_slice_lo V a L cap L (by omega) hcap
        have HIs := Lib.hid (fun V (u : Upd NoB w V) => Ints.from' (H.out.later u) L (by omega) hcap)
        rw [hA1] at hsl HIs
        obtain ⟨SL, hSL⟩ : ∃ n, L - L = n := ⟨_, rfl⟩
        obtain ⟨SC, hSC⟩ : ∃ n, cap - L = n := ⟨_, rfl⟩
        rw [hSL, hSC] at hsl HIs
        have HSm := Lib.hid (fun (B : Nat) (V : World) (u : Upd NoB w V) => sum_any B (.slice a L cap) (.slice A1 SL SC) xs (xs.drop L) V ⟨by rw [HL.out]; omega, by rw [List.length_drop, HL.out]; omega⟩ (fun i x y hx hy => like_mul HIn.out hx hy) (like_part HIn.out (by rw [HL.out]; omega) L) (H.out.later u) (HIs.out V u))
        have HOw := Lib.hid ho; have HU := Lib.hid hu; have HYl := Lib.hid hyl; have HYs := Lib.hid hys
        have hjM : (j : Int) < (M : Int) := by omega
        have HLt := Lib.hid hlt
        clear ho hyl hys hu hA1 hSL hSC
        go_wp2_with fail
        refine (products_any _ _ _ ⟨_, _, _, rfl⟩ ⟨_, _, _, rfl⟩).mono ?_
        rintro e w4 ⟨rfl, hw4⟩
        have u4 : Upd NoB wr w4 := by rw [hw4]; exact ((Upd.refl _ _).alloc _).alloc _
        have b1 : w4.heap[wr.heap.size]? = some (.cells #[.slice a L cap] 22 (0, 0)) := by rw [hw4]; exact ((Upd.refl NoB _).alloc _).heap (heap_alloc_new wr _) (noB _)
        have b2 : w4.heap[wr.heap.size + 1]? = some (.cells #[.slice A1 SL SC] 22 (0, 0)) := by
          have s1 : (wr.alloc (.cells #[.slice a L cap] 22)).heap.size = wr.heap.size + 1 := by simp
          rw [hw4, ← s1]; exact heap_alloc_new _ _
        have HS4 := Lib.hid (HSm.out wr.heap.size w4 (HU.out.then u4) (blk_cell b1 0) (blk_cell b2 0))
        have O4 := Lib.hid (HOw.out.upd u4 (noB _)); have U4 := Lib.hid (HU.out.then u4)
        obtain ⟨D, hD⟩ : ∃ D, dotL xs (xs.drop L) = D := ⟨_, rfl⟩
        rw [hD] at HS4
        have HDd := Lib.hid hD
        clear u4 b1 b2 hw4 hD
        go_wp2_with fail
        refine HS4.out.mono ?_
        rintro e w5 ⟨rfl, u5⟩
        have O5 := Lib.hid (O4.out.upd u5 (noB _)); have U5 := Lib.hid (U4.out.then u5)
        obtain ⟨c5, f5⟩ := O5.out.cell (k := j) (by rw [HYl.out]; exact HLt.out)
        have HRel := Lib.hid (show OwnR (w5.setCell ⟨G, j, none⟩ (.int .i64 D)) G M (ys.set j D) ∧ Upd NoB w (w5.setCell ⟨G, j, none⟩ (.int .i64 D)) from ⟨O5.out.set j (by rw [HYl.out]; exact HLt.out) D, U5.out.setCell _ (fun h => by have h : G < w.heap.size := h; have := HGw.out; omega)⟩)
        clear u5
        go_wp2_with fail
        go_roundw
        case rel =>
          have hlt := HLt.out
          refine ⟨j + 1, ys.set j D, by omega, by go_num, HRel.out.1, by rw [List.length_set]; exact HYl.out, fun t ht => ?_, HRel.out.2⟩
          rw [getD_set _ _ _ (by rw [HYl.out]; exact hlt)]
          by_cases e : j = t
          · subst e; rw [if_pos rfl, HZm.out, HDd.out]
          · rw [if_neg e]; exact HYs.out t (by omega)
        case measure => have := HLt.out; simp [intOf]; omega
      · have hc0 := hc
        have HZm := Lib.hid (show min j L = j by omega)
        have hmn : min (j : Int) (L : Int) = (j : Int) := by omega
        obtain ⟨A1, hA1⟩ : ∃ A, (if cap = j then a else a.map (fun p => p.add (j * 1))) = A := ⟨_, rfl⟩
        have hsl := fun V => run_slice_lo V a L cap j (by omega) hcap
        have HIs := Lib.hid (fun V (u : Upd NoB w V) => Ints.from' (H.out.later u) j (by omega) hcap)
        rw [hA1] at hsl HIs
        obtain ⟨SL, hSL⟩ : ∃ n, L - j = n := ⟨_, rfl⟩
        obtain ⟨SC, hSC⟩ : ∃ n, cap - j = n := ⟨_, rfl⟩
        rw [hSL, hSC] at hsl HIs
        have HSm := Lib.hid (fun (B : Nat) (V : World) (u : Upd NoB w V) => sum_any B (.slice a L cap) (.slice A1 SL SC) xs (xs.drop j) V ⟨by rw [HL.out]; omega, by rw [List.length_drop, HL.out]; omega⟩ (fun i x y hx hy => like_mul HIn.out hx hy) (like_part HIn.out (by rw [HL.out]; omega) j) (H.out.later u) (HIs.out V u))
        have HOw := Lib.hid ho; have HU := Lib.hid hu; have HYl := Lib.hid hyl; have HYs := Lib.hid hys
        have hjM : (j : Int) < (M : Int) := by omega
        have HLt := Lib.hid hlt
        clear ho hyl hys hu hA1 hSL hSC
        go_wp2_with fail
        refine (products_any _ _ _ ⟨_, _, _, rfl⟩ ⟨_, _, _, rfl⟩).mono ?_
        rintro e w4 ⟨rfl, hw4⟩
        have u4 : Upd NoB wr w4 := by rw [hw4]; exact ((Upd.refl _ _).alloc _).alloc _
        have b1 : w4.heap[wr.heap.size]? = some (.cells #[.slice a L cap] 22 (0, 0)) := by rw [hw4]; exact ((Upd.refl NoB _).alloc _).heap (heap_alloc_new wr _) (noB _)
        have b2 : w4.heap[wr.heap.size + 1]? = some (.cells #[.slice A1 SL SC] 22 (0, 0)) := by
          have s1 : (wr.alloc (.cells #[.slice a L cap] 22)).heap.size = wr.heap.size + 1 := by simp
          rw [hw4, ← s1]; exact heap_alloc_new _ _
        have HS4 := Lib.hid (HSm.out wr.heap.size w4 (HU.out.then u4) (blk_cell b1 0) (blk_cell b2 0))
        have O4 := Lib.hid (HOw.out.upd u4 (noB _)); have U4 := Lib.hid (HU.out.then u4)
        obtain ⟨D, hD⟩ : ∃ D, dotL xs (xs.drop j) = D := ⟨_, rfl⟩
        rw [hD] at HS4
        have HDd := Lib.hid hD
        clear u4 b1 b2 hw4 hD
        go_wp2_with fail
        refine HS4.out.mono ?_
        rintro e w5 ⟨rfl, u5⟩
        have O5 := Lib.hid (O4.out.upd u5 (noB _)); have U5 := Lib.hid (U4.out.then u5)
        obtain ⟨c5, f5⟩ := O5.out.cell (k := j) (by rw [HYl.out]; exact HLt.out)
        have HRel := Lib.hid (show OwnR (w5.setCell ⟨G, j, none⟩ (.int .i64 D)) G M (ys.set j D) ∧ Upd NoB w (w5.setCell ⟨G, j, none⟩ (.int .i64 D)) from ⟨O5.out.set j (by rw [HYl.out]; exact HLt.out) D, U5.out.setCell _ (fun h => by have h : G < w.heap.size := h; have := HGw.out; omega)⟩)
        clear u5
        go_wp2_with fail
        go_roundw
        case rel =>
          have hlt := HLt.out
          refine ⟨j + 1, ys.set j D, by omega, by go_num, HRel.out.1, by rw [List.length_set]; exact HYl.out, fun t ht => ?_, HRel.out.2⟩
          rw [getD_set _ _ _ (by rw [HYl.out]; exact hlt)]
          by_cases e : j = t
          · subst e; rw [if_pos rfl, HZm.out, HDd.out]
          · rw [if_neg e]; exact HYs.out t (by omega)
        case measure => have := HLt.out; simp [intOf]; omega
    · obtain rfl : j = M := by omega
      have HOw := Lib.hid ho; have HU := Lib.hid hu; have HYl := Lib.hid hyl; have HYs := Lib.hid hys
      obtain ⟨c0, f0⟩ := ho.cell (k := 0) (by omega)
      have hy0 := hys 0 hM0
      rw [Nat.zero_min, List.drop_zero] at hy0
      rw [hy0] at c0
      obtain ⟨E, hE⟩ : ∃ E, dotL xs xs = E := ⟨_, rfl⟩
      rw [hE] at c0 HE HGt
      have HX := Lib.hid (fun V => excess_any E V HE.out.1 (by have := HE.out.2; omega))
      have hh64 : exS E ≤ 64 := by have := exF_le (v := E) 64 0; unfold exS; omega
      generalize exS E = hh at *
      have h64 : min hh 64 = hh := by omega
      have hM0i : (0 : Int) < (j : Int) := by omega
      clear ho hyl hys hu hy0 hE f0
      go_wp2_with fail
      refine (HX.out _).mono ?_
      rintro e w5 ⟨rfl, rfl⟩
      go_wp2_with fail
      go_loopw [36] (fun i wr' => ∃ (t : Nat) (zs : List Int), t ≤ j ∧ i = .int .i64 (t : Int) ∧ OwnR wr' G j zs ∧ zs.length = j ∧ (∀ q, q < j → zs.getD q 0 = if q < t then ys.getD q 0 / 2 ^ hh else ys.getD q 0) ∧ Upd NoB w wr') (fun i _ => j - (intOf i).toNat)
      case atStart => exact ⟨0, ys, Nat.zero_le _, rfl, HOw.out, HYl.out, fun q hq => by rw [if_neg (by omega)], HU.out⟩
      case round =>
        obtain ⟨t, zs, ht, rfl, ho2, hzl, hzs, hu2⟩ := hrel
        have HO2 := Lib.hid ho2; have HU2 := Lib.hid hu2; have HZl := Lib.hid hzl; have HZs := Lib.hid hzs
        by_cases hlt2 : t < j
        · obtain ⟨c5, f5⟩ := ho2.cell (k := t) (by omega)
          have hzt := hzs t hlt2
          rw [if_neg (by omega)] at hzt
          obtain ⟨Y, hY⟩ : ∃ Y, ys.getD t 0 = Y := ⟨_, rfl⟩
          rw [hzt, hY] at c5
          have HYe := Lib.hid hY
          obtain ⟨Q, hQ⟩ : ∃ Q, Y / 2 ^ hh = Q := ⟨_, rfl⟩
          have HQ := Lib.hid hQ
          have HRel := Lib.hid (show OwnR (wr.setCell ⟨G, t, none⟩ (.int .i64 Q)) G j (zs.set t Q) ∧ Upd NoB w (wr.setCell ⟨G, t, none⟩ (.int .i64 Q)) from ⟨ho2.set t (by omega) Q, hu2.setCell _ (fun h => by have h : G < w.heap.size := h; have := HGw.out; omega)⟩)
          have HLt := Lib.hid hlt2
          have hti : (t : Int) < (j : Int) := by omega
          clear ho2 hzl hzs hu2 hzt hY
          go_wp2_with fail
          go_roundw
          case rel =>
            have hlt2 := HLt.out
            refine ⟨t + 1, zs.set t Q, by omega, by go_num, HRel.out.1, by rw [List.length_set]; exact HZl.out, fun q hq => ?_, HRel.out.2⟩
            rw [getD_set _ _ _ (by rw [HZl.out]; exact hlt2)]
            by_cases e : t = q
            · subst e; rw [if_pos rfl, if_pos (by omega), HYe.out, HQ.out]
            · rw [if_neg e, HZs.out q hq]
              by_cases h1 : q < t
              · rw [if_pos h1, if_pos (by omega)]
              · rw [if_neg h1, if_neg (by omega)]
          case measure => have := HLt.out; simp [intOf]; omega
        · obtain rfl : t = j := by omega
          have HF := Lib.hid (show zs = LK from ext_getD (by rw [hzl, HLl.out]) fun q hq => by
            rw [hzs q (by omega), if_pos (by omega), HGt.out q (by omega), HYs.out q (by omega)])
          have hrow := (ho2.row (base := w.heap.size) (by have := HGw.out; omega) (by unfold maxLen; omega))
          rw [hzl, HF.out] at hrow
          have HRow := Lib.hid hrow
          clear ho2 hzl hzs hu2 hrow
          go_wp2_with fail
          go_ret
          exact ⟨_, rfl, by rw [HLl.out]; exact HRow.out, HU2.out⟩
end Go.Proofs.Ytopjjdfnnjgnlaa
