/- block: Of -/
import Derived.Test.YtmkbpocibpjjaaaLN
import Derived.Test.YtmkbpocibpjjaaaLO
namespace Go.Proofs.Ytmkbpocibpjjaaa
open Go.RowKit Go.Shelf

/-- the flags of kinds, and the error -/
def ofB (ks : List Int) : List Bool := ks.map fun k => decide (k = 2)
def ofE (ks : List Int) : Int := if 64 < ks.length then 2 else if allIn 0 4 ks then (if kds (ofB ks) = ks then 0 else 4) else 1
def ofS (ks : List Int) : List Bool := if ofE ks = 0 then ofB ks else []
theorem ofS_bad {ks : List Int} {E : Int} (h : ofE ks = E) (hE : E ≠ 0) : ofS ks = [] := if_neg (by rw [h]; exact hE)
def stO (ks : List Int) (n k : Nat) : List Bool := (List.range n).map fun i => if i < k then (ofB ks).getD i false else false
theorem stO_length (ks : List Int) (n k : Nat) : (stO ks n k).length = n := by simp [stO]
theorem stO_zero (ks : List Int) (n : Nat) : stO ks n 0 = List.replicate n false := by
  refine List.ext_getElem (by simp [stO]) fun i h1 h2 => ?_
  simp [stO]
theorem stO_all (ks : List Int) : stO ks ks.length ks.length = ofB ks := by
  refine List.ext_getElem (by simp [stO, ofB]) fun i h1 h2 => ?_
  have h3 : i < ks.length := by simpa [stO] using h1
  simp only [stO, List.getElem_map, List.getElem_range, if_pos h3]
  rw [List.getD_eq_getElem?_getD, List.getElem?_eq_getElem h2]
  rfl
theorem stO_set {ks : List Int} {n k : Nat} {x : Int} (h : ks[k]? = some x) : (bls (stO ks n k)).toArray.setIfInBounds k (.bool (decide (x = 2))) = (bls (stO ks n (k + 1))).toArray := by
  have hx : (ofB ks).getD k false = decide (x = 2) := by unfold ofB; rw [List.getD_eq_getElem?_getD, List.getElem?_map, h]; rfl
  rw [List.setIfInBounds_toArray]
  congr 1
  refine List.ext_getElem (by simp [stO, bls]) fun i h1 h2 => ?_
  rw [List.getElem_set]
  simp only [bls, stO, List.getElem_map, List.getElem_range]
  by_cases e : k = i
  · subst e; rw [if_pos rfl, if_pos (by omega), hx]
  · rw [if_neg e]
    by_cases h3 : i < k
    · rw [if_pos h3, if_pos (by omega)]
    · rw [if_neg h3, if_neg (by omega)]
set_option maxRecDepth 100000 in
set_option maxHeartbeats 4000000 in
theorem Of_any (v : Value) (ks : List Int) (w : World) (h : Ints w v ks) : Calls Try.prog 28 #[v] w (EBls w (ofS ks) (ofE ks)) := by
  obtain ⟨a, cap, rfl⟩ := h.form
  have H := Lib.hid h
  have hlb := h.1
  obtain ⟨L, hL⟩ : ∃ L, ks.length = L := ⟨_, rfl⟩
  have HL := Lib.hid hL
  rw [hL] at H hlb ⊢
  clear h hL
  by_cases h1 : 64 < L
  · have hE : ofE ks = 2 := if_pos (by rw [HL.out]; exact h1)
    have HS := Lib.hid (ofS_bad hE (by decide)); have HE := Lib.hid hE
    rw [HS.out, HE.out]
    have T1 := Lib.hid (show decide ((64 : Int) < (L : Int)) = true from decide_eq_true (by omega))
    clear h1 hlb hE
    go_enter Try.func28, Try.ntmps28
    go_wp2_with (go_at_call 50; refine (fulli_any _ _ _ _).mono ?_; rw [T1.out]; rintro e w' ⟨rfl, rfl⟩)
    go_ret2
    exact ⟨none, 0, 0, rfl, World.ownsRow_nil _ _ _ _, Upd.refl _ _⟩
  have T1 := Lib.hid (show decide ((64 : Int) < (L : Int)) = false from decide_eq_false (by omega))
  have hE1 : ofE ks = if allIn 0 4 ks then (if kds (ofB ks) = ks then 0 else 4) else 1 := if_neg (by rw [HL.out]; exact h1)
  have HKi := Lib.hid (kindsOfi_any (.slice a L cap) ks w H.out (by rw [HL.out]; omega))
  obtain ⟨i0, hi, hz0, hz1, hz2⟩ := info_parts Try.infoBool
  have HO0 := Lib.hid (stO_zero ks L)
  have HOl := Lib.hid (fun k => stO_length ks L k)
  have HOa := Lib.hid (show stO ks L L = ofB ks by rw [← HL.out]; exact stO_all ks)
  have HOs := Lib.hid (fun (k : Nat) (x : Int) (hx : ks[k]? = some x) => stO_set (n := L) hx)
  have HOb := Lib.hid (show (ofB ks).length = L by unfold ofB; rw [List.length_map, HL.out])
  rw [show (ks.map fun k => decide (k = 2)) = ofB ks from rfl] at HKi
  have HKl := Lib.hid (show (kds (ofB ks)).length = L by rw [kds_length, HOb.out])
  have HIf := Lib.hid (show (kds (ofB ks) = ks) ∨ (kds (ofB ks) ≠ ks) from Classical.em _)
  by_cases hbad : allIn 0 4 ks = false
  · have hE : ofE ks = 1 := by rw [hE1, hbad]; rfl
    have HS := Lib.hid (ofS_bad hE (by decide)); have HE := Lib.hid hE
    rw [HS.out, HE.out]
    obtain ⟨n, hn⟩ : ∃ n, L = n + 1 := by
      cases L with
      | zero => rw [List.eq_nil_of_length_eq_zero HL.out] at hbad; exact absurd hbad (by decide)
      | succ n => exact ⟨n, rfl⟩
    have HMn := Lib.hid (sMin_any (.slice a L cap) ks n w H.out (HL.out.trans hn) (by omega))
    have HMx := Lib.hid (sMax_any (.slice a L cap) ks n w H.out (HL.out.trans hn) (by omega))
    have HI := minmax_in (lo := 0) (hi := 4) (HL.out.trans hn)
    generalize mnT ks n = m1 at *
    generalize mxT ks n = m2 at *
    have t0 : decide ((0 : Int) < (L : Int)) = true := decide_eq_true (by omega)
    have t0n : decide (0 < L) = true := decide_eq_true (by omega)
    by_cases g1 : m1 < 0
    · have s1 : decide (m1 < 0) = true := decide_eq_true g1
      clear g1 HI h1 hlb hE1 hbad hE hn
      go_enter Try.func28, Try.ntmps28
      go_wp2_with (first | (go_at_call 50; refine (fulli_any _ _ _ _).mono ?_; rw [T1.out]; rintro e w' ⟨rfl, rfl⟩) | (go_at_call 51; refine HMn.out.mono ?_; rintro e w' ⟨rfl, rfl⟩) | (go_at_call 52; refine HMx.out.mono ?_; rintro e w' ⟨rfl, rfl⟩))
      go_ret2
      exact ⟨none, 0, 0, rfl, World.ownsRow_nil _ _ _ _, Upd.refl _ _⟩
    have s1 : decide (m1 < 0) = false := decide_eq_false g1
    have g2 : 4 < m2 := by
      by_cases g : 4 < m2
      · exact g
      · rw [HI.2 ⟨g1, g⟩] at hbad; cases hbad
    have s2 : decide ((4 : Int) < m2) = true := decide_eq_true g2
    clear g1 g2 HI h1 hlb hE1 hbad hE hn
    go_enter Try.func28, Try.ntmps28
    go_wp2_with (first | (go_at_call 50; refine (fulli_any _ _ _ _).mono ?_; rw [T1.out]; rintro e w' ⟨rfl, rfl⟩) | (go_at_call 51; refine HMn.out.mono ?_; rintro e w' ⟨rfl, rfl⟩) | (go_at_call 52; refine HMx.out.mono ?_; rintro e w' ⟨rfl, rfl⟩))
    go_ret2
    exact ⟨none, 0, 0, rfl, World.ownsRow_nil _ _ _ _, Upd.refl _ _⟩
  have hall : allIn 0 4 ks = true := by cases e : allIn 0 4 ks with | true => rfl | false => exact absurd e hbad
  have HE := Lib.hid (show ofE ks = if kds (ofB ks) = ks then 0 else 4 by rw [hE1, hall]; rfl)
  have hL64 : L ≤ 64 := by omega
  have HC : L = 0 ∨ ∃ n m1 m2, L = n + 1 ∧ mnT ks n = m1 ∧ mxT ks n = m2 ∧ ¬ m1 < 0 ∧ ¬ 4 < m2 := by
    cases L with
    | zero => exact .inl rfl
    | succ n =>
      have := (minmax_in (lo := 0) (hi := 4) HL.out).1 hall
      exact .inr ⟨n, _, _, rfl, rfl, rfl, this.1, this.2⟩
  clear h1 hlb hE1 hbad hall
  rcases HC with hz | ⟨n, m1, m2, hn, hm1, hm2, g1, g2⟩
  · have t0 : decide ((0 : Int) < (L : Int)) = false := decide_eq_false (by omega)
    have t0n : decide (0 < L) = false := decide_eq_false (by omega)
    clear hz
    go_enter Try.func28, Try.ntmps28
    go_wp2_with (first | (go_at_call 50; refine (fulli_any _ _ _ _).mono ?_; rw [T1.out]; rintro e w' ⟨rfl, rfl⟩))
    refine HKi.out.mono ?_
    rintro e w1 ⟨vk, rfl, r1, u1⟩
    obtain ⟨ak, ck, rfl⟩ := row_form r1
    have IK := Lib.hid (Ints.ofRow r1 (by rw [HKl.out]; omega)); have U1 := Lib.hid u1; have H1 := Lib.hid (H.out.later u1)
    rw [HKl.out] at IK ⊢
    clear r1 u1
    go_wp2_with fail
    refine (sEqual_any _ _ (kds (ofB ks)) ks w1 IK.out H1.out).mono ?_
    rintro e w2 ⟨rfl, n2, rfl⟩
    have H2 := Lib.hid (H1.out.later (upd_drewN (Upd.refl NoB w1) n2)); have U2 := Lib.hid (upd_drewN U1.out n2)
    clear IK H1 U1
    generalize w1.drewN n2 = w2 at *
    rcases HIf.out with hy | hno
    · have HB := Lib.hid (show intsB (kds (ofB ks)) ks = true from intsB_iff.2 hy)
      rw [HB.out]
      have HE0 := Lib.hid (show ofE ks = 0 by rw [HE.out, if_pos hy])
      have HS0 := Lib.hid (show ofS ks = ofB ks from if_pos HE0.out)
      clear hy
      go_wp2_with (refine wpList_make_full w2 rfl _ _ 27 rfl w2.heap.size 4 i0 (.bool false) 1 Try.underlying27 hi hz0 hz1 .i64 .i64 _ _ L rfl rfl rfl rfl ?c1 ?c2 ?c3 ?_)
      case c1 => rw [hz2]; omega
      case c2 => unfold maxLen; omega
      case c3 => exact Nat.le_refl _
      intro w3 hown hgr
      rw [made_false] at hown
      have hu3 : Upd NoB w2 w3 := (Upd.refl _ _).grown hgr (fun k e => by cases e)
      have HF := Lib.hid (show w3.heap[w2.heap.size]? = some (.cells (bls (stO ks L 0)).toArray 4 (0, 0)) by rw [HO0.out]; exact (row_full hown).1)
      have H3 := Lib.hid (H2.out.later hu3); have U3 := Lib.hid hu3
      have HLt := Lib.hid (fun hne j hj => H2.out.lt hne j hj)
      clear hown hgr hu3
      go_wp2_with fail
      go_loopw [5, 6, 32] (fun _ _ i wr => ∃ k : Nat, k ≤ L ∧ i = .int .i64 k ∧ wr.heap[w2.heap.size]? = some (.cells (bls (stO ks L k)).toArray 4 (0, 0)) ∧ Upd (fun q => q = w2.heap.size) w3 wr) (fun _ _ i _ => L - (intOf i).toNat)
      case atStart => exact ⟨0, Nat.zero_le _, rfl, HF.out, Upd.refl _ _⟩
      case round =>
        obtain ⟨k, hk, rfl, hm, hu⟩ := hrel
        by_cases hlt : k < L
        · obtain ⟨x, hx⟩ : ∃ x, ks[k]? = some x := ⟨_, List.getElem?_eq_getElem (by rw [HL.out]; exact hlt)⟩
          have hX := H3.out.upd hu (fun hne j hj e => by have := HLt.out hne j hj; omega)
          obtain ⟨b, off, rfl, c0⟩ := hX.cellAt hx
          have f3 := blk_free hm k
          have c3 : wr.cell? ⟨w2.heap.size, k, none⟩ = some (.bool ((stO ks L k).getD k false)) := by
            rw [blk_cell hm k, List.getElem?_toArray, bls_get]
            rw [List.getD_eq_getElem?_getD, List.getElem?_eq_getElem (by rw [HOl.out]; exact hlt)]
            rfl
          have HM := Lib.hid hm; have HU := Lib.hid hu
          have HSt := Lib.hid (HOs.out k x hx)
          clear hm hu hx hX
          go_wp2_with fail
          go_roundw
          case rel => exact ⟨k + 1, by omega, by go_num, by have := block_set (i := k) HM.out (.bool (decide (x = 2))); rw [HSt.out] at this; exact this, HU.out.setCell _ (fun _ => rfl)⟩
          case measure => simp [intOf]; omega
        · obtain rfl : k = L := by omega
          have HM := Lib.hid hm; have HU := Lib.hid hu
          clear hm hu
          go_wp2_with fail
          go_ret2
          exact ⟨_, _, _, by rw [HE0.out]; rfl, by rw [HS0.out, HOb.out, ← HOa.out]; exact row_of_full (by simp [bls, HOl.out]) (by unfold maxLen; omega) U2.out.size HM.out, (U2.out.then U3.out).trans HU.out (fun j hj e => by have := U2.out.size; omega)⟩
    · have HB := Lib.hid (show intsB (kds (ofB ks)) ks = false by cases e : intsB (kds (ofB ks)) ks with | false => rfl | true => exact absurd (intsB_iff.1 e) hno)
      rw [HB.out]
      have HE0 := Lib.hid (show ofE ks = 4 by rw [HE.out, if_neg hno])
      have HS0 := Lib.hid (ofS_bad HE0.out (by decide))
      clear hno
      go_wp2_with fail
      go_ret2
      exact ⟨none, 0, 0, by rw [HE0.out]; rfl, by rw [HS0.out]; exact World.ownsRow_nil _ _ _ _, U2.out⟩
  · have HMn := Lib.hid (sMin_any (.slice a L cap) ks n w H.out (HL.out.trans hn) (by omega))
    have HMx := Lib.hid (sMax_any (.slice a L cap) ks n w H.out (HL.out.trans hn) (by omega))
    rw [hm1] at HMn
    rw [hm2] at HMx
    have t0 : decide ((0 : Int) < (L : Int)) = true := decide_eq_true (by omega)
    have t0n : decide (0 < L) = true := decide_eq_true (by omega)
    have s1 : decide (m1 < 0) = false := decide_eq_false g1
    have s2 : decide ((4 : Int) < m2) = false := decide_eq_false g2
    clear hn hm1 hm2 g1 g2
    go_enter Try.func28, Try.ntmps28
    go_wp2_with (first | (go_at_call 50; refine (fulli_any _ _ _ _).mono ?_; rw [T1.out]; rintro e w' ⟨rfl, rfl⟩) | (go_at_call 51; refine HMn.out.mono ?_; rintro e w' ⟨rfl, rfl⟩) | (go_at_call 52; refine HMx.out.mono ?_; rintro e w' ⟨rfl, rfl⟩))
    refine HKi.out.mono ?_
    rintro e w1 ⟨vk, rfl, r1, u1⟩
    obtain ⟨ak, ck, rfl⟩ := row_form r1
    have IK := Lib.hid (Ints.ofRow r1 (by rw [HKl.out]; omega)); have U1 := Lib.hid u1; have H1 := Lib.hid (H.out.later u1)
    rw [HKl.out] at IK ⊢
    clear r1 u1
    go_wp2_with fail
    refine (sEqual_any _ _ (kds (ofB ks)) ks w1 IK.out H1.out).mono ?_
    rintro e w2 ⟨rfl, n2, rfl⟩
    have H2 := Lib.hid (H1.out.later (upd_drewN (Upd.refl NoB w1) n2)); have U2 := Lib.hid (upd_drewN U1.out n2)
    clear IK H1 U1
    generalize w1.drewN n2 = w2 at *
    rcases HIf.out with hy | hno
    · have HB := Lib.hid (show intsB (kds (ofB ks)) ks = true from intsB_iff.2 hy)
      rw [HB.out]
      have HE0 := Lib.hid (show ofE ks = 0 by rw [HE.out, if_pos hy])
      have HS0 := Lib.hid (show ofS ks = ofB ks from if_pos HE0.out)
      clear hy
      go_wp2_with (refine wpList_make_full w2 rfl _ _ 27 rfl w2.heap.size 4 i0 (.bool false) 1 Try.underlying27 hi hz0 hz1 .i64 .i64 _ _ L rfl rfl rfl rfl ?c1 ?c2 ?c3 ?_)
      case c1 => rw [hz2]; omega
      case c2 => unfold maxLen; omega
      case c3 => exact Nat.le_refl _
      intro w3 hown hgr
      rw [made_false] at hown
      have hu3 : Upd NoB w2 w3 := (Upd.refl _ _).grown hgr (fun k e => by cases e)
      have HF := Lib.hid (show w3.heap[w2.heap.size]? = some (.cells (bls (stO ks L 0)).toArray 4 (0, 0)) by rw [HO0.out]; exact (row_full hown).1)
      have H3 := Lib.hid (H2.out.later hu3); have U3 := Lib.hid hu3
      have HLt := Lib.hid (fun hne j hj => H2.out.lt hne j hj)
      clear hown hgr hu3
      go_wp2_with fail
      go_loopw [5, 6, 32] (fun _ _ i wr => ∃ k : Nat, k ≤ L ∧ i = .int .i64 k ∧ wr.heap[w2.heap.size]? = some (.cells (bls (stO ks L k)).toArray 4 (0, 0)) ∧ Upd (fun q => q = w2.heap.size) w3 wr) (fun _ _ i _ => L - (intOf i).toNat)
      case atStart => exact ⟨0, Nat.zero_le _, rfl, HF.out, Upd.refl _ _⟩
      case round =>
        obtain ⟨k, hk, rfl, hm, hu⟩ := hrel
        by_cases hlt : k < L
        · obtain ⟨x, hx⟩ : ∃ x, ks[k]? = some x := ⟨_, List.getElem?_eq_getElem (by rw [HL.out]; exact hlt)⟩
          have hX := H3.out.upd hu (fun hne j hj e => by have := HLt.out hne j hj; omega)
          obtain ⟨b, off, rfl, c0⟩ := hX.cellAt hx
          have f3 := blk_free hm k
          have c3 : wr.cell? ⟨w2.heap.size, k, none⟩ = some (.bool ((stO ks L k).getD k false)) := by
            rw [blk_cell hm k, List.getElem?_toArray, bls_get]
            rw [List.getD_eq_getElem?_getD, List.getElem?_eq_getElem (by rw [HOl.out]; exact hlt)]
            rfl
          have HM := Lib.hid hm; have HU := Lib.hid hu
          have HSt := Lib.hid (HOs.out k x hx)
          clear hm hu hx hX
          go_wp2_with fail
          go_roundw
          case rel => exact ⟨k + 1, by omega, by go_num, by have := block_set (i := k) HM.out (.bool (decide (x = 2))); rw [HSt.out] at this; exact this, HU.out.setCell _ (fun _ => rfl)⟩
          case measure => simp [intOf]; omega
        · obtain rfl : k = L := by omega
          have HM := Lib.hid hm; have HU := Lib.hid hu
          clear hm hu
          go_wp2_with fail
          go_ret2
          exact ⟨_, _, _, by rw [HE0.out]; rfl, by rw [HS0.out, HOb.out, ← HOa.out]; exact row_of_full (by simp [bls, HOl.out]) (by unfold maxLen; omega) U2.out.size HM.out, (U2.out.then U3.out).trans HU.out (fun j hj e => by have := U2.out.size; omega)⟩
    · have HB := Lib.hid (show intsB (kds (ofB ks)) ks = false by cases e : intsB (kds (ofB ks)) ks with | false => rfl | true => exact absurd (intsB_iff.1 e) hno)
      rw [HB.out]
      have HE0 := Lib.hid (show ofE ks = 4 by rw [HE.out, if_neg hno])
      have HS0 := Lib.hid (ofS_bad HE0.out (by decide))
      clear hno
      go_wp2_with fail
      go_ret2
      exact ⟨none, 0, 0, by rw [HE0.out]; rfl, by rw [HS0.out]; exact World.ownsRow_nil _ _ _ _, U2.out⟩
end Go.Proofs.Ytmkbpocibpjjaaa
