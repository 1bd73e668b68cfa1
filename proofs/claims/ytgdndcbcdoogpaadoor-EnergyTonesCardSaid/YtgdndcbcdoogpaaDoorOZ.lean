/- energy: the law Tones -/
import Derived.Test.YtgdndcbcdoogpaaDoorOl
namespace Go.Proofs.YtgdndcbcdoogpaaDoor
open Go.RowKit Go.Shelf

theorem spE_co {c : List Int} {s : Bool} {gs : List Int} (hn : c.length = 128) (hco : CoB c) (hd : isD s gs = true) : spE c s gs = 0 := by
  unfold spE
  have hf : dfE c.length s gs = 0 := by unfold dfE; rw [if_pos hd, hn]; decide
  rw [if_pos hf, if_pos]
  exact inB_all hco
theorem to_len {c : List Int} {s : Bool} {gs : List Int} (hn : c.length = 128) (hco : CoB c) (hd : isD s gs = true) : (toS c s gs).length = (bandsL s gs).length := by
  have e : toS c s gs = (cutL c s gs).map tnV := if_pos (spE_co hn hco hd)
  rw [e, List.length_map]
  exact ptL_len _ _
theorem bands_some {s : Bool} {gs : List Int} (hd : isD s gs = true) : 0 < (bandsL s gs).length ∧ (bandsL s gs).length ≤ 100 := by
  have := by_divs (p := fun s gs => decide (0 < (bandsL s gs).length ∧ (bandsL s gs).length ≤ 100)) (by decide +kernel) hd
  exact of_decide_eq_true this
theorem to_at {c : List Int} {s : Bool} {gs : List Int} (hn : c.length = 128) (hco : CoB c) (hd : isD s gs = true) {k : Nat} {x : Int} (h : (toS c s gs)[k]? = some x) : ∃ xs, (cutL c s gs)[k]? = some xs ∧ x = tnV xs := by
  have e : toS c s gs = (cutL c s gs).map tnV := if_pos (spE_co hn hco hd)
  rw [e, List.getElem?_map] at h
  cases hx : (cutL c s gs)[k]? with
  | none => rw [hx] at h; cases h
  | some xs =>
    rw [hx] at h
    injection h with h
    exact ⟨xs, rfl, h.symm⟩
theorem to_zero {c : List Int} {s : Bool} {gs : List Int} {q : Int} (hn : c.length = 128) (hco : CoB c) (hd : isD s gs = true) (hq : ∀ x ∈ c, x * x = q) {k : Nat} {x : Int} (h : (toS c s gs)[k]? = some x) : x = 0 := by
  obtain ⟨xs, h1, rfl⟩ := to_at hn hco hd h
  exact tn_same (cut_mem (P := fun x => x * x = q) hd hn hq h1) (cutL_ok hd hco h1).2.1
theorem to_byte {c : List Int} {s : Bool} {gs : List Int} (hn : c.length = 128) (hco : CoB c) (hd : isD s gs = true) {k : Nat} {x : Int} (h : (toS c s gs)[k]? = some x) : 0 ≤ x ∧ x ≤ 255 := by
  obtain ⟨xs, _, rfl⟩ := to_at hn hco hd h
  exact tn_bd xs
/-- coefficients of one absolute value as far as k -/
def OneV (v : Int) (k : Nat) (ys : List Int) : Prop := ys.length = 128 ∧ ∀ j, j < k → ys.getD j 0 = v ∨ ys.getD j 0 = -v
theorem OneV.all {v : Int} {ys : List Int} (h : OneV v 128 ys) (hv : 0 ≤ v ∧ v ≤ 2097152) : CoB ys ∧ ∀ x ∈ ys, x * x = v * v := by
  obtain ⟨hl, h⟩ := h
  have hm : ∀ (j : Nat) (x : Int), ys[j]? = some x → x = v ∨ x = -v := fun j x hj => by
    have hjl := (List.getElem?_eq_some_iff.1 hj).1
    have := h j (by omega)
    rw [List.getD_eq_getElem?_getD, hj] at this
    exact this
  refine ⟨fun j x hj => by rcases hm j x hj with e | e <;> omega, fun x hx => ?_⟩
  obtain ⟨j, hj⟩ := List.getElem?_of_mem hx
  rcases hm j x hj with e | e
  · rw [e]
  · rw [e, Int.neg_mul_neg]
theorem OneV.set {v : Int} {k : Nat} {ys : List Int} (h : OneV v k ys) (hk : k < 128) (x : Int) (hx : x = v ∨ x = -v) : OneV v (k + 1) (ys.set k x) := by
  obtain ⟨hl, h⟩ := h
  refine ⟨by rw [List.length_set, hl], fun j hj => ?_⟩
  rw [getD_set _ _ _ (by omega)]
  by_cases e : k = j
  · rw [if_pos e]; exact hx
  · rw [if_neg e]; exact h j (by omega)
theorem OneV.set2 {v : Int} {k : Nat} {ys : List Int} (h : OneV v k ys) (hk : k < 128) (x y : Int) (hx : x = v ∨ x = -v) : OneV v (k + 1) ((ys.set k y).set k x) := by
  rw [List.set_set]; exact h.set hk x hx
theorem coB_set {ys : List Int} (h : CoB ys) (k : Nat) (x : Int) (hx : -2097152 ≤ x ∧ x ≤ 2097152) : CoB (ys.set k x) := fun j y hj => by
  rw [List.getElem?_set] at hj
  by_cases e : k = j
  · rw [if_pos e] at hj
    split at hj
    · injection hj with hj; omega
    · cases hj
  · rw [if_neg e] at hj; exact h j y hj
theorem half_in {p : Int} (h : -2097152 ≤ p ∧ p ≤ 2097152) : -2097152 ≤ p.tdiv 2 ∧ p.tdiv 2 ≤ 2097152 := by
  rcases Int.lt_or_le p 0 with h0 | h0
  · have := tdiv_in h0 (show (1 : Int) ≤ 2 by decide)
    omega
  · rw [Int.tdiv_eq_ediv_of_nonneg h0]
    omega
theorem OwnR.ints128 {w : World} {b cap : Nat} {xs : List Int} (h : OwnR w b cap xs) (hl : xs.length = 128) : Ints w (.slice (some ⟨b, 0, none⟩) 128 cap) xs := by
  have := h.ints (by omega)
  rw [hl] at this
  exact this
theorem mod_facts {n : Nat} (h0 : ¬ n = 0) (hb : n ≤ 140737488355328) (k : Nat) : ∃ r : Nat, r < n ∧ (k : Int) % (n : Int) = (r : Int) ∧ (k : Int).tmod (n : Int) = (r : Int) ∧ wrap64 (r : Int) = (r : Int) ∧ IntKind.i64.wrap (r : Int) = (r : Int) := by
  have hl : k % n < n := Nat.mod_lt _ (by omega)
  have e := Int.natCast_emod k n
  generalize k % n = r at *
  exact ⟨r, hl, e.symm, by rw [Int.tmod_eq_emod_of_nonneg (by omega)]; exact e.symm, IntWalk.wrap64_in _ (by omega), IntWalk.i64_in _ (by omega)⟩
set_option maxRecDepth 100000 in
set_option maxHeartbeats 8000000 in
theorem tones_law (bv gv : Value) (bs : List Bool) (v : Int) (gs : List Int) (w : World) (hb : Bls w bv bs) (h : Ints w gv gs) (hg : Gv w) : Calls Tryd.prog 15 #[bv, .int .i64 v, gv] w fun e w' => e = .returned (.bool true) ∧ Upd NoB w w' := by
  have HG := Lib.hid hg; have HB := Lib.hid hb; have HV := Lib.hid h
  have HF := Lib.hid (few_any _ gv [] gs w (Ints.nil w) h)
  have hbl := hb.1
  obtain ⟨ba, bc, rfl⟩ := hb.form
  obtain ⟨ga, gc, rfl⟩ := h.form
  obtain ⟨BN, hBN⟩ : ∃ n, bs.length = n := ⟨_, rfl⟩
  have HBN := Lib.hid hBN
  obtain ⟨GN, hGN⟩ : ∃ n, gs.length = n := ⟨_, rfl⟩
  rw [hBN] at HB hbl ⊢
  rw [hGN] at HV HF ⊢
  clear hb h hg hBN hGN
  by_cases h1 : v < 0
  · have t1 : decide (v < 0) = true := decide_eq_true h1
    clear h1
    go_enter Tryd.func15, Tryd.ntmps15
    go_wp2_with fail
    refine (awake_en _ HG.out).mono ?_
    rintro e w2 ⟨rfl, u2⟩
    have U2 := Lib.hid u2
    clear u2
    go_wp2_with fail
    go_ret
    exact ⟨rfl, U2.out⟩
  have t1 : decide (v < 0) = false := decide_eq_false h1
  by_cases h2 : 2097152 < v
  · have t2 : decide (2097152 < v) = true := decide_eq_true h2
    clear h1 h2
    go_enter Tryd.func15, Tryd.ntmps15
    go_wp2_with fail
    refine (awake_en _ HG.out).mono ?_
    rintro e w2 ⟨rfl, u2⟩
    have U2 := Lib.hid u2
    clear u2
    go_wp2_with fail
    go_ret
    exact ⟨rfl, U2.out⟩
  have t2 : decide (2097152 < v) = false := decide_eq_false h2
  cases hf : fewB [] gs with
  | false =>
    rw [hf] at HF
    clear h1 h2 hf
    go_enter Tryd.func15, Tryd.ntmps15
    go_wp2_with fail
    refine HF.out.mono ?_
    rintro e w1 ⟨rfl, rfl⟩
    go_wp2_with fail
    refine (awake_en _ HG.out).mono ?_
    rintro e w2 ⟨rfl, u2⟩
    have U2 := Lib.hid u2
    clear u2
    go_wp2_with fail
    go_ret
    exact ⟨rfl, U2.out⟩
  | true =>
    rw [hf] at HF
    clear hf
    by_cases h0 : BN = 0
    · subst h0
      clear h1 h2
      go_enter Tryd.func15, Tryd.ntmps15
      go_wp2_with fail
      refine HF.out.mono ?_
      rintro e w1 ⟨rfl, rfl⟩
      go_wp2_with fail
      refine (awake_en _ HG.out).mono ?_
      rintro e w2 ⟨rfl, u2⟩
      have U2 := Lib.hid u2
      clear u2
      go_wp2_with fail
      go_ret
      exact ⟨rfl, U2.out⟩
    · have t3 : ((BN : Int) == 0) = false := by rw [beq_eq_false_iff_ne]; omega
      have t3d : decide ((BN : Int) = 0) = false := decide_eq_false (by omega)
      have t3n : decide (BN = 0) = false := decide_eq_false h0
      obtain ⟨i0, hi, hz0, hz1, hz2⟩ := info_parts Tryd.infoInt
      have hv0 : 0 ≤ v := by omega
      have hv1 : v ≤ 2097152 := by omega
      have HVb := Lib.hid (And.intro hv0 hv1)
      have HB0 := Lib.hid (show ((BN : Int) = 0) = False from eq_false (by omega))
      have z1 : wrap64 (-v) = -v := IntWalk.wrap64_in _ (by omega)
      have z2 : IntKind.i64.wrap (-v) = -v := IntWalk.i64_in _ (by omega)
      clear h1 h2
      go_enter Tryd.func15, Tryd.ntmps15
      go_wp2_with fail
      refine HF.out.mono ?_
      rintro e w1 ⟨rfl, rfl⟩
      go_wp2_with (refine wpList_make_full w rfl _ _ 22 rfl w.heap.size 3 i0 (.int .i64 0) 1 Tryd.underlying22 hi hz0 hz1 .i64 .i64 _ _ 128 rfl rfl rfl rfl ?c1 ?c2 ?c3 ?_)
      case c1 => rw [hz2]; omega
      case c2 => unfold maxLen; omega
      case c3 => exact Nat.le_refl _
      intro w3 hown hgr
      rw [made_zero] at hown
      have u3 : Upd NoB w w3 := (Upd.refl _ _).grown hgr (fun k e => by cases e)
      obtain ⟨G, hG⟩ : ∃ G, w.heap.size = G := ⟨_, rfl⟩
      rw [hG] at hown ⊢
      have HO3 := Lib.hid (show OwnR w3 G 128 (List.replicate 128 0) from OwnR.ofBlk (xs := List.replicate 128 0) (row_full hown).1)
      have U3 := Lib.hid u3; have HGs := Lib.hid hG
      clear hown hgr u3 hG
      go_wp2_with fail
      go_loopw [38] (fun i wr => ∃ (k : Nat) (ys : List Int), k ≤ 128 ∧ i = .int .i64 k ∧ OwnR wr G 128 ys ∧ OneV v k ys ∧ Upd NoB w wr) (fun i _ => 128 - (intOf i).toNat)
      case atStart => exact ⟨0, List.replicate 128 0, Nat.zero_le _, rfl, HO3.out, ⟨by simp, fun j hj => by omega⟩, U3.out⟩
      case round =>
        obtain ⟨k, ys, hk, rfl, ho, hy, hu⟩ := hrel
        have HO := Lib.hid ho; have HY := Lib.hid hy; have HU := Lib.hid hu
        by_cases hlt : k < 128
        · obtain ⟨c0, f0⟩ := ho.cell (k := k) (by rw [hy.1]; exact hlt)
          have uW : Upd NoB w (wr.setCell ⟨G, k, none⟩ (.int .i64 v)) := hu.setCell _ (fun h => by have h : G < w.heap.size := h; have := HGs.out; omega)
          have oW : OwnR (wr.setCell ⟨G, k, none⟩ (.int .i64 v)) G 128 (ys.set k v) := ho.set k (by rw [hy.1]; exact hlt) v
          obtain ⟨c1, f1⟩ := oW.cell (k := k) (by rw [List.length_set, hy.1]; exact hlt)
          have HE1 := Lib.hid (show OwnR (wr.setCell ⟨G, k, none⟩ (.int .i64 v)) G 128 (ys.set k v) ∧ OneV v (k + 1) (ys.set k v) ∧ Upd NoB w (wr.setCell ⟨G, k, none⟩ (.int .i64 v)) from ⟨oW, hy.set hlt v (.inl rfl), uW⟩)
          have HE2 := Lib.hid (show OwnR ((wr.setCell ⟨G, k, none⟩ (.int .i64 v)).setCell ⟨G, k, none⟩ (.int .i64 (-v))) G 128 ((ys.set k v).set k (-v)) ∧ OneV v (k + 1) ((ys.set k v).set k (-v)) ∧ Upd NoB w ((wr.setCell ⟨G, k, none⟩ (.int .i64 v)).setCell ⟨G, k, none⟩ (.int .i64 (-v))) from ⟨oW.set k (by rw [List.length_set, hy.1]; exact hlt) (-v), hy.set2 hlt (-v) v (.inr rfl), uW.setCell _ (fun h => by have h : G < w.heap.size := h; have := HGs.out; omega)⟩)
          obtain ⟨r, hrl, y1, y2, y3, y4⟩ := mod_facts h0 hbl k
          have y5 : ((BN : Int) = 0) = False := HB0.out
          obtain ⟨s, hs⟩ : ∃ s, bs[r]? = some s := ⟨_, List.getElem?_eq_getElem (by rw [HBN.out]; exact hrl)⟩
          obtain ⟨sb, so, rfl, d0⟩ := (HB.out.later uW).cellAt hs
          clear ho hy hu uW oW hs
          cases s
          · go_wp2_with fail
            go_roundw
            case rel => exact ⟨k + 1, _, by omega, by go_num, HE1.out.1, HE1.out.2.1, HE1.out.2.2⟩
            case measure => simp [intOf]; omega
          · go_wp2_with fail
            go_roundw
            case rel => exact ⟨k + 1, _, by omega, by go_num, HE2.out.1, HE2.out.2.1, HE2.out.2.2⟩
            case measure => simp [intOf]; omega
        · obtain rfl : k = 128 := by omega
          have hv := HVb.out
          obtain ⟨hco, hsq⟩ := hy.all hv
          have HCo := Lib.hid hco; have HSq := Lib.hid hsq; have HLn := Lib.hid hy.1
          clear ho hy hu hlt hv hco hsq
          go_wp2_with fail
          refine (rIs_any true _ gs _ (HV.out.later HU.out)).mono ?_
          rintro e w4 ⟨rfl, rfl⟩
          cases hd : isD true gs with
          | false =>
            have HD := Lib.hid (show isD false [] = true from rfl)
            have HI := Lib.hid (show Ints w (.slice none 0 0) [] from Ints.nil w)
            obtain ⟨hN0, hN1⟩ := bands_some HD.out
            obtain ⟨N, hN⟩ : ∃ N, (bandsL false []).length = N := ⟨_, rfl⟩
            have HTl := Lib.hid (show (toS ys false []).length = N by rw [to_len HLn.out HCo.out HD.out, hN])
            have HT0 := Lib.hid (fun k x => to_zero (k := k) (x := x) HLn.out HCo.out HD.out HSq.out)
            have HT2 := Lib.hid (fun q (hq : -2097152 ≤ q ∧ q ≤ 2097152) => (show spE (ys.set 5 q) false [] = 0 ∧ (toS (ys.set 5 q) false []).length = N ∧ ∀ (k : Nat) (x : Int), (toS (ys.set 5 q) false [])[k]? = some x → 0 ≤ x ∧ x ≤ 255 by
              have hl : (ys.set 5 q).length = 128 := by rw [List.length_set, HLn.out]
              have hc := coB_set HCo.out 5 q hq
              exact ⟨spE_co hl hc HD.out, by rw [to_len hl hc HD.out, hN], fun k x hx => to_byte hl hc HD.out hx⟩))
            rw [hN] at hN0 hN1
            have hNi : (0 : Int) < (N : Int) := by omega
            have hNd : decide ((0 : Int) < (N : Int)) = true := decide_eq_true hNi
            clear hN hd
            go_wp2_with fail
            refine (Tones_any _ ys false _ [] _ (HO.out.ints128 HLn.out) (HI.out.later HU.out) (HG.out.later HU.out)).mono ?_
            rw [spE_co HLn.out HCo.out HD.out]
            rintro e w5 ⟨a5, n5, c5, rfl, r5, u5⟩
            rw [HTl.out] at r5
            obtain rfl := (by have := row_form r5; obtain ⟨_, _, e⟩ := this; injection e : n5 = N)
            have I5 := Lib.hid (show Ints w5 (.slice a5 n5 c5) (toS ys false []) from Ints.ofRow (by rw [HTl.out]; exact r5) (by rw [HTl.out]; omega))
            have U5 := Lib.hid (HU.out.then u5); have HO5 := Lib.hid (HO.out.upd u5 (noB _))
            clear r5 u5
            generalize toS ys false [] = T at *
            go_wp2_with fail
            go_loop [71] (fun i => ∃ k : Nat, k ≤ n5 ∧ i = .int .i64 k) (fun i => n5 - (intOf i).toNat)
            case atStart => exact ⟨0, Nat.zero_le _, rfl⟩
            case round =>
              obtain ⟨k, hk, rfl⟩ := hrel
              by_cases hlt : k < n5
              · obtain ⟨x, hx⟩ : ∃ x, T[k]? = some x := ⟨_, List.getElem?_eq_getElem (by rw [HTl.out]; exact hlt)⟩
                obtain rfl := HT0.out k x hx
                obtain ⟨tb, toff, rfl, d0⟩ := I5.out.cellAt hx
                clear hx
                go_wp2_with fail
                go_round
                case rel => exact ⟨k + 1, by omega, by go_num⟩
                case measure => simp [intOf]; omega
              · obtain rfl : k = n5 := by omega
                clear hlt
                obtain ⟨c5', f5⟩ := HO5.out.cell (k := 5) (by rw [HLn.out]; decide)
                have hY : -2097152 ≤ ys.getD 5 0 ∧ ys.getD 5 0 ≤ 2097152 := HCo.out 5 _ (by rw [List.getD_eq_getElem?_getD, List.getElem?_eq_getElem (by rw [HLn.out]; decide)]; rfl)
                generalize ys.getD 5 0 = Y at *
                obtain ⟨P, hP⟩ : ∃ P, -Y = P := ⟨_, rfl⟩
                have hPb : -2097152 ≤ P ∧ P ≤ 2097152 := by omega
                have x1 : wrap64 (-Y) = P := by rw [hP]; exact IntWalk.wrap64_in _ (by omega)
                have x2 : IntKind.i64.wrap (-Y) = P := by rw [hP]; exact IntWalk.i64_in _ (by omega)
                obtain ⟨q, hq⟩ : ∃ q, P.tdiv 2 = q := ⟨_, rfl⟩
                have hqb : -2097152 ≤ q ∧ q ≤ 2097152 := by rw [← hq]; exact half_in hPb
                have x3 : wrap64 (P.tdiv 2) = q := by rw [hq]; exact IntWalk.wrap64_in _ (by omega)
                have x4 : IntKind.i64.wrap (P.tdiv 2) = q := by rw [hq]; exact IntWalk.i64_in _ (by omega)
                obtain ⟨g1, g2, g3⟩ := HT2.out q hqb
                have HG1 := Lib.hid g1; have HG2 := Lib.hid g2; have HG3 := Lib.hid g3
                have HO6 := Lib.hid (HO5.out.set 5 (by rw [HLn.out]; decide) q)
                have U6 := Lib.hid (U5.out.setCell (p := ⟨G, 5, none⟩) (.int .i64 q) (fun h => by have h : G < w.heap.size := h; have := HGs.out; omega))
                clear hP hq hPb hY g1 g2 g3 hqb
                go_wp2_with fail
                refine (Tones_any _ (ys.set 5 q) false _ [] _ (HO6.out.ints128 (by rw [List.length_set]; exact HLn.out)) (HI.out.later U6.out) (HG.out.later U6.out)).mono ?_
                rw [HG1.out]
                rintro e w7 ⟨a7, n7, c7, rfl, r7, u7⟩
                rw [HG2.out] at r7
                obtain rfl := (by have := row_form r7; obtain ⟨_, _, e⟩ := this; injection e : n7 = k)
                have I7 := Lib.hid (show Ints w7 (.slice a7 n7 c7) (toS (ys.set 5 q) false []) from Ints.ofRow (by rw [HG2.out]; exact r7) (by rw [HG2.out]; omega))
                have U7 := Lib.hid (U6.out.then u7)
                clear r7 u7 c5' f5
                generalize toS (ys.set 5 q) false [] = V at *
                go_wp2_with fail
                go_loop [94] (fun i => ∃ k : Nat, k ≤ n7 ∧ i = .int .i64 k) (fun i => n7 - (intOf i).toNat)
                case atStart => exact ⟨0, Nat.zero_le _, rfl⟩
                case round =>
                  obtain ⟨j, hj, rfl⟩ := hrel
                  by_cases hlt : j < n7
                  · obtain ⟨x, hx⟩ : ∃ x, V[j]? = some x := ⟨_, List.getElem?_eq_getElem (by rw [HG2.out]; exact hlt)⟩
                    obtain ⟨b1, b2⟩ := HG3.out j x hx
                    obtain ⟨tb, toff, rfl, d0⟩ := I7.out.cellAt hx
                    have s1 : decide (x < 0) = false := decide_eq_false (by omega)
                    have s2 : decide ((255 : Int) < x) = false := decide_eq_false (by omega)
                    clear hx
                    go_wp2_with fail
                    go_round
                    case rel => exact ⟨j + 1, by omega, by go_num⟩
                    case measure => simp [intOf]; omega
                  · obtain rfl : j = n7 := by omega
                    clear hlt
                    go_wp2_with fail
                    refine (awake_en _ (HG.out.later U7.out)).mono ?_
                    rintro e w8 ⟨rfl, u8⟩
                    have U8 := Lib.hid (U7.out.then u8)
                    clear u8
                    go_wp2_with fail
                    go_ret
                    exact ⟨rfl, U8.out⟩
          | true =>
            have HD := Lib.hid (show isD true gs = true from hd)
            have HI := Lib.hid HV.out
            obtain ⟨hN0, hN1⟩ := bands_some HD.out
            obtain ⟨N, hN⟩ : ∃ N, (bandsL true gs).length = N := ⟨_, rfl⟩
            have HTl := Lib.hid (show (toS ys true gs).length = N by rw [to_len HLn.out HCo.out HD.out, hN])
            have HT0 := Lib.hid (fun k x => to_zero (k := k) (x := x) HLn.out HCo.out HD.out HSq.out)
            have HT2 := Lib.hid (fun q (hq : -2097152 ≤ q ∧ q ≤ 2097152) => (show spE (ys.set 5 q) true gs = 0 ∧ (toS (ys.set 5 q) true gs).length = N ∧ ∀ (k : Nat) (x : Int), (toS (ys.set 5 q) true gs)[k]? = some x → 0 ≤ x ∧ x ≤ 255 by
              have hl : (ys.set 5 q).length = 128 := by rw [List.length_set, HLn.out]
              have hc := coB_set HCo.out 5 q hq
              exact ⟨spE_co hl hc HD.out, by rw [to_len hl hc HD.out, hN], fun k x hx => to_byte hl hc HD.out hx⟩))
            rw [hN] at hN0 hN1
            have hNi : (0 : Int) < (N : Int) := by omega
            have hNd : decide ((0 : Int) < (N : Int)) = true := decide_eq_true hNi
            clear hN hd
            go_wp2_with fail
            refine (Tones_any _ ys true _ gs _ (HO.out.ints128 HLn.out) (HI.out.later HU.out) (HG.out.later HU.out)).mono ?_
            rw [spE_co HLn.out HCo.out HD.out]
            rintro e w5 ⟨a5, n5, c5, rfl, r5, u5⟩
            rw [HTl.out] at r5
            obtain rfl := (by have := row_form r5; obtain ⟨_, _, e⟩ := this; injection e : n5 = N)
            have I5 := Lib.hid (show Ints w5 (.slice a5 n5 c5) (toS ys true gs) from Ints.ofRow (by rw [HTl.out]; exact r5) (by rw [HTl.out]; omega))
            have U5 := Lib.hid (HU.out.then u5); have HO5 := Lib.hid (HO.out.upd u5 (noB _))
            clear r5 u5
            generalize toS ys true gs = T at *
            go_wp2_with fail
            go_loop [71] (fun i => ∃ k : Nat, k ≤ n5 ∧ i = .int .i64 k) (fun i => n5 - (intOf i).toNat)
            case atStart => exact ⟨0, Nat.zero_le _, rfl⟩
            case round =>
              obtain ⟨k, hk, rfl⟩ := hrel
              by_cases hlt : k < n5
              · obtain ⟨x, hx⟩ : ∃ x, T[k]? = some x := ⟨_, List.getElem?_eq_getElem (by rw [HTl.out]; exact hlt)⟩
                obtain rfl := HT0.out k x hx
                obtain ⟨tb, toff, rfl, d0⟩ := I5.out.cellAt hx
                clear hx
                go_wp2_with fail
                go_round
                case rel => exact ⟨k + 1, by omega, by go_num⟩
                case measure => simp [intOf]; omega
              · obtain rfl : k = n5 := by omega
                clear hlt
                obtain ⟨c5', f5⟩ := HO5.out.cell (k := 5) (by rw [HLn.out]; decide)
                have hY : -2097152 ≤ ys.getD 5 0 ∧ ys.getD 5 0 ≤ 2097152 := HCo.out 5 _ (by rw [List.getD_eq_getElem?_getD, List.getElem?_eq_getElem (by rw [HLn.out]; decide)]; rfl)
                generalize ys.getD 5 0 = Y at *
                obtain ⟨P, hP⟩ : ∃ P, -Y = P := ⟨_, rfl⟩
                have hPb : -2097152 ≤ P ∧ P ≤ 2097152 := by omega
                have x1 : wrap64 (-Y) = P := by rw [hP]; exact IntWalk.wrap64_in _ (by omega)
                have x2 : IntKind.i64.wrap (-Y) = P := by rw [hP]; exact IntWalk.i64_in _ (by omega)
                obtain ⟨q, hq⟩ : ∃ q, P.tdiv 2 = q := ⟨_, rfl⟩
                have hqb : -2097152 ≤ q ∧ q ≤ 2097152 := by rw [← hq]; exact half_in hPb
                have x3 : wrap64 (P.tdiv 2) = q := by rw [hq]; exact IntWalk.wrap64_in _ (by omega)
                have x4 : IntKind.i64.wrap (P.tdiv 2) = q := by rw [hq]; exact IntWalk.i64_in _ (by omega)
                obtain ⟨g1, g2, g3⟩ := HT2.out q hqb
                have HG1 := Lib.hid g1; have HG2 := Lib.hid g2; have HG3 := Lib.hid g3
                have HO6 := Lib.hid (HO5.out.set 5 (by rw [HLn.out]; decide) q)
                have U6 := Lib.hid (U5.out.setCell (p := ⟨G, 5, none⟩) (.int .i64 q) (fun h => by have h : G < w.heap.size := h; have := HGs.out; omega))
                clear hP hq hPb hY g1 g2 g3 hqb
                go_wp2_with fail
                refine (Tones_any _ (ys.set 5 q) true _ gs _ (HO6.out.ints128 (by rw [List.length_set]; exact HLn.out)) (HI.out.later U6.out) (HG.out.later U6.out)).mono ?_
                rw [HG1.out]
                rintro e w7 ⟨a7, n7, c7, rfl, r7, u7⟩
                rw [HG2.out] at r7
                obtain rfl := (by have := row_form r7; obtain ⟨_, _, e⟩ := this; injection e : n7 = k)
                have I7 := Lib.hid (show Ints w7 (.slice a7 n7 c7) (toS (ys.set 5 q) true gs) from Ints.ofRow (by rw [HG2.out]; exact r7) (by rw [HG2.out]; omega))
                have U7 := Lib.hid (U6.out.then u7)
                clear r7 u7 c5' f5
                generalize toS (ys.set 5 q) true gs = V at *
                go_wp2_with fail
                go_loop [94] (fun i => ∃ k : Nat, k ≤ n7 ∧ i = .int .i64 k) (fun i => n7 - (intOf i).toNat)
                case atStart => exact ⟨0, Nat.zero_le _, rfl⟩
                case round =>
                  obtain ⟨j, hj, rfl⟩ := hrel
                  by_cases hlt : j < n7
                  · obtain ⟨x, hx⟩ : ∃ x, V[j]? = some x := ⟨_, List.getElem?_eq_getElem (by rw [HG2.out]; exact hlt)⟩
                    obtain ⟨b1, b2⟩ := HG3.out j x hx
                    obtain ⟨tb, toff, rfl, d0⟩ := I7.out.cellAt hx
                    have s1 : decide (x < 0) = false := decide_eq_false (by omega)
                    have s2 : decide ((255 : Int) < x) = false := decide_eq_false (by omega)
                    clear hx
                    go_wp2_with fail
                    go_round
                    case rel => exact ⟨j + 1, by omega, by go_num⟩
                    case measure => simp [intOf]; omega
                  · obtain rfl : j = n7 := by omega
                    clear hlt
                    go_wp2_with fail
                    refine (awake_en _ (HG.out.later U7.out)).mono ?_
                    rintro e w8 ⟨rfl, u8⟩
                    have U8 := Lib.hid (U7.out.then u8)
                    clear u8
                    go_wp2_with fail
                    go_ret
                    exact ⟨rfl, U8.out⟩
end Go.Proofs.YtgdndcbcdoogpaaDoor
