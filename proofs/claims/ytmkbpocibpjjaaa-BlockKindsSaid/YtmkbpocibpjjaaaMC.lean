/- block: Either, and that of the reference -/
import Derived.Test.YtmkbpocibpjjaaaLV
namespace Go.Proofs.Ytmkbpocibpjjaaa
open Go.RowKit Go.Shelf

def eiL (fs gs : List Bool) (n : Nat) : List Bool := (List.range n).map fun i => fs.getD i false || gs.getD i false
theorem eiL_length (fs gs : List Bool) (n : Nat) : (eiL fs gs n).length = n := by simp [eiL]
theorem eiL_take {fs gs : List Bool} {n k : Nat} (hk : k < n) : (eiL fs gs n).take (k + 1) = (eiL fs gs n).take k ++ [fs.getD k false || gs.getD k false] := by
  rw [List.take_add_one]
  unfold eiL
  rw [List.getElem?_map, List.getElem?_range hk]
  rfl
def eiE (fs gs : List Bool) : Int := if 64 < fs.length ∨ 64 < gs.length then 2 else if fs.length = gs.length then 0 else 4
def eiS (fs gs : List Bool) : List Bool := if eiE fs gs = 0 then eiL fs gs fs.length else []
theorem eiS_bad {fs gs : List Bool} {E : Int} (h : eiE fs gs = E) (hE : E ≠ 0) : eiS fs gs = [] := if_neg (by rw [h]; exact hE)
def stE (fs gs : List Bool) (n k : Nat) : List Bool := (List.range n).map fun i => if i < k then (fs.getD i false || gs.getD i false) else false
theorem stE_length (fs gs : List Bool) (n k : Nat) : (stE fs gs n k).length = n := by simp [stE]
theorem stE_zero (fs gs : List Bool) (n : Nat) : stE fs gs n 0 = List.replicate n false := by
  refine List.ext_getElem (by simp [stE]) fun i h1 h2 => ?_
  simp [stE]
theorem stE_all (fs gs : List Bool) (n : Nat) : stE fs gs n n = eiL fs gs n := by
  refine List.ext_getElem (by simp [stE, eiL]) fun i h1 h2 => ?_
  have h3 : i < n := by simpa [stE] using h1
  simp only [stE, eiL, List.getElem_map, List.getElem_range, if_pos h3]
theorem stE_set (fs gs : List Bool) (n k : Nat) : (bls (stE fs gs n k)).toArray.setIfInBounds k (.bool (fs.getD k false || gs.getD k false)) = (bls (stE fs gs n (k + 1))).toArray := by
  rw [List.setIfInBounds_toArray]
  congr 1
  refine List.ext_getElem (by simp [stE, bls]) fun i h1 h2 => ?_
  rw [List.getElem_set]
  simp only [bls, stE, List.getElem_map, List.getElem_range]
  by_cases e : k = i
  · subst e; rw [if_pos rfl, if_pos (by omega)]
  · rw [if_neg e]
    by_cases h3 : i < k
    · rw [if_pos h3, if_pos (by omega)]
    · rw [if_neg h3, if_neg (by omega)]
set_option maxRecDepth 100000 in
set_option maxHeartbeats 4000000 in
theorem Either_any (va vb : Value) (fs gs : List Bool) (w : World) (ha : Bls w va fs) (hb : Bls w vb gs) : Calls Try.prog 20 #[va, vb] w (EBls w (eiS fs gs) (eiE fs gs)) := by
  obtain ⟨a, ca, rfl⟩ := ha.form
  obtain ⟨b, cb, rfl⟩ := hb.form
  have HA := Lib.hid ha; have HB := Lib.hid hb
  have hla := ha.1
  have hlb := hb.1
  obtain ⟨L, hL⟩ : ∃ L, fs.length = L := ⟨_, rfl⟩
  obtain ⟨K, hK⟩ : ∃ K, gs.length = K := ⟨_, rfl⟩
  have HL := Lib.hid hL; have HK := Lib.hid hK
  rw [hL] at HA hla ⊢
  rw [hK] at HB hlb ⊢
  clear ha hb hL hK
  by_cases h1 : 64 < L
  · have hE : eiE fs gs = 2 := if_pos (.inl (by rw [HL.out]; exact h1))
    have HS := Lib.hid (eiS_bad hE (by decide)); have HE := Lib.hid hE
    rw [HS.out, HE.out]
    have T1 := Lib.hid (show decide ((64 : Int) < (L : Int)) = true from decide_eq_true (by omega))
    clear h1 hla hlb hE
    go_enter Try.func20, Try.ntmps20
    go_wp2_with (go_at_call 44; refine (fullb_any (.int .i64 0) _ _ _ _).mono ?_; rw [T1.out]; rintro e w' ⟨rfl, rfl⟩)
    go_ret2
    exact ⟨none, 0, 0, rfl, World.ownsRow_nil _ _ _ _, Upd.refl _ _⟩
  have T1 := Lib.hid (show decide ((64 : Int) < (L : Int)) = false from decide_eq_false (by omega))
  by_cases h2 : 64 < K
  · have hE : eiE fs gs = 2 := if_pos (.inr (by rw [HK.out]; exact h2))
    have HS := Lib.hid (eiS_bad hE (by decide)); have HE := Lib.hid hE
    rw [HS.out, HE.out]
    have T2 := Lib.hid (show decide ((64 : Int) < (K : Int)) = true from decide_eq_true (by omega))
    clear h1 h2 hla hlb hE
    go_enter Try.func20, Try.ntmps20
    go_wp2_with fail
    refine (fullb_any (.int .i64 0) _ _ _ _).mono ?_
    rw [T1.out]
    rintro e w' ⟨rfl, rfl⟩
    go_wp2_with fail
    refine (fullb_any (.int .i64 0) _ _ _ _).mono ?_
    rw [T2.out]
    rintro e w' ⟨rfl, rfl⟩
    go_wp2_with fail
    go_ret2
    exact ⟨none, 0, 0, rfl, World.ownsRow_nil _ _ _ _, Upd.refl _ _⟩
  have T2 := Lib.hid (show decide ((64 : Int) < (K : Int)) = false from decide_eq_false (by omega))
  have hE1 : eiE fs gs = if fs.length = gs.length then 0 else 4 := if_neg (by rw [HL.out, HK.out]; omega)
  by_cases h3 : L = K
  · subst h3
    have hE : eiE fs gs = 0 := by rw [hE1, if_pos (by rw [HL.out, HK.out])]
    have HE := Lib.hid hE
    have HS := Lib.hid (show eiS fs gs = eiL fs gs L by unfold eiS; rw [if_pos hE, HL.out])
    rw [HS.out, HE.out]
    obtain ⟨i0, hi, hz0, hz1, hz2⟩ := info_parts Try.infoBool
    have hl64 : L ≤ 64 := by omega
    clear h1 h2 hla hlb hE hE1
    go_enter Try.func20, Try.ntmps20
    go_wp2_with fail
    refine (fullb_any (.int .i64 0) _ _ _ _).mono ?_
    rw [T1.out]
    rintro e w' ⟨rfl, rfl⟩
    go_wp2_with fail
    refine (fullb_any (.int .i64 0) _ _ _ _).mono ?_
    rw [T2.out]
    rintro e w' ⟨rfl, rfl⟩
    go_wp2_with (refine wpList_make_full w rfl _ _ 27 rfl w.heap.size 4 i0 (.bool false) 1 Try.underlying27 hi hz0 hz1 .i64 .i64 _ _ L rfl rfl rfl rfl ?c1 ?c2 ?c3 ?_)
    case c1 => rw [hz2]; omega
    case c2 => unfold maxLen; omega
    case c3 => exact Nat.le_refl _
    intro w2 hown hgr
    rw [made_false] at hown
    have hu2 : Upd NoB w w2 := (Upd.refl _ _).grown hgr (fun k e => by cases e)
    have HF := Lib.hid (show w2.heap[w.heap.size]? = some (.cells (bls (stE fs gs L 0)).toArray 4 (0, 0)) by rw [stE_zero]; exact (row_full hown).1)
    have A2 := Lib.hid (HA.out.later hu2); have B2 := Lib.hid (HB.out.later hu2); have U2 := Lib.hid hu2
    have LtA := Lib.hid (fun hne j hj => HA.out.lt hne j hj); have LtB := Lib.hid (fun hne j hj => HB.out.lt hne j hj)
    clear hown hgr hu2
    go_wp2_with fail
    go_loopw [24] (fun i wr => ∃ k : Nat, k ≤ L ∧ i = .int .i64 k ∧ wr.heap[w.heap.size]? = some (.cells (bls (stE fs gs L k)).toArray 4 (0, 0)) ∧ Upd (fun q => q = w.heap.size) w2 wr) (fun i _ => L - (intOf i).toNat)
    case atStart => exact ⟨0, Nat.zero_le _, rfl, HF.out, Upd.refl _ _⟩
    case round =>
      obtain ⟨k, hk, rfl, hm, hu⟩ := hrel
      by_cases hlt : k < L
      · obtain ⟨x, hx⟩ : ∃ x, fs[k]? = some x := ⟨_, List.getElem?_eq_getElem (by rw [HL.out]; exact hlt)⟩
        obtain ⟨y, hy⟩ : ∃ y, gs[k]? = some y := ⟨_, List.getElem?_eq_getElem (by rw [HK.out]; exact hlt)⟩
        have hA := A2.out.upd hu (fun hne j hj e => by have := LtA.out hne j hj; omega)
        have hB := B2.out.upd hu (fun hne j hj e => by have := LtB.out hne j hj; omega)
        obtain ⟨ba, oa, rfl, c0⟩ := hA.cellAt hx
        obtain ⟨bb, ob, rfl, c1⟩ := hB.cellAt hy
        have f3 := blk_free hm k
        have c3 : wr.cell? ⟨w.heap.size, k, none⟩ = some (.bool ((stE fs gs L k).getD k false)) := by
          rw [blk_cell hm k, List.getElem?_toArray, bls_get]
          rw [List.getD_eq_getElem?_getD, List.getElem?_eq_getElem (by rw [stE_length]; exact hlt)]
          rfl
        have HSt := stE_set fs gs L k
        rw [getD_of hx, getD_of hy] at HSt
        have HM := Lib.hid hm; have HU := Lib.hid hu; have HSt := Lib.hid HSt
        clear hm hu hx hy hA hB
        cases x <;>
          (go_wp2_with fail
           go_roundw
           case rel => exact ⟨k + 1, by omega, by go_num, by rw [← HSt.out]; exact block_set HM.out _, HU.out.setCell _ (fun _ => rfl)⟩
           case measure => simp [intOf]; omega)
      · obtain rfl : k = L := by omega
        have HM := Lib.hid hm; have HU := Lib.hid hu
        clear hm hu
        go_wp2_with fail
        go_ret2
        exact ⟨_, _, _, rfl, by rw [eiL_length, ← stE_all]; exact row_of_full (by simp [bls, stE_length]) (by unfold maxLen; omega) (Nat.le_refl _) HM.out, upd_ge ((upd_ge' U2.out w.heap.size).trans HU.out (fun j hj e => by omega))⟩
  · have hE : eiE fs gs = 4 := by rw [hE1, if_neg (by rw [HL.out, HK.out]; exact h3)]
    have HE := Lib.hid hE
    have HS := Lib.hid (eiS_bad hE (by decide))
    rw [HS.out, HE.out]
    have t3 : ((L : Int) != (K : Int)) = true := by rw [bne_iff_ne]; omega
    clear h1 h2 h3 hla hlb hE hE1
    go_enter Try.func20, Try.ntmps20
    go_wp2_with fail
    refine (fullb_any (.int .i64 0) _ _ _ _).mono ?_
    rw [T1.out]
    rintro e w' ⟨rfl, rfl⟩
    go_wp2_with fail
    refine (fullb_any (.int .i64 0) _ _ _ _).mono ?_
    rw [T2.out]
    rintro e w' ⟨rfl, rfl⟩
    go_wp2_with fail
    go_ret2
    exact ⟨none, 0, 0, rfl, World.ownsRow_nil _ _ _ _, Upd.refl _ _⟩
set_option maxRecDepth 100000 in
set_option maxHeartbeats 4000000 in
theorem rEither_any (va vb : Value) (fs gs : List Bool) (w : World) (ha : Bls w va fs) (hb : Bls w vb gs) : Calls Try.prog 21 #[va, vb] w (EBls w (eiS fs gs) (eiE fs gs)) := by
  obtain ⟨a, ca, rfl⟩ := ha.form
  obtain ⟨b, cb, rfl⟩ := hb.form
  have HA := Lib.hid ha; have HB := Lib.hid hb
  have hla := ha.1
  have hlb := hb.1
  obtain ⟨L, hL⟩ : ∃ L, fs.length = L := ⟨_, rfl⟩
  obtain ⟨K, hK⟩ : ∃ K, gs.length = K := ⟨_, rfl⟩
  have HL := Lib.hid hL; have HK := Lib.hid hK
  rw [hL] at HA hla ⊢
  rw [hK] at HB hlb ⊢
  clear ha hb hL hK
  by_cases h1 : 64 < L
  · have hE : eiE fs gs = 2 := if_pos (.inl (by rw [HL.out]; exact h1))
    have HS := Lib.hid (eiS_bad hE (by decide)); have HE := Lib.hid hE
    rw [HS.out, HE.out]
    have t1 : decide ((64 : Int) < (L : Int)) = true := decide_eq_true (by omega)
    clear h1 hla hlb hE
    go_enter Try.func21, Try.ntmps21
    go_wp2_with fail
    go_ret2
    exact ⟨none, 0, 0, rfl, World.ownsRow_nil _ _ _ _, Upd.refl _ _⟩
  have t1 : decide ((64 : Int) < (L : Int)) = false := decide_eq_false (by omega)
  by_cases h2 : 64 < K
  · have hE : eiE fs gs = 2 := if_pos (.inr (by rw [HK.out]; exact h2))
    have HS := Lib.hid (eiS_bad hE (by decide)); have HE := Lib.hid hE
    rw [HS.out, HE.out]
    have t2 : decide ((64 : Int) < (K : Int)) = true := decide_eq_true (by omega)
    clear h1 h2 hla hlb hE
    go_enter Try.func21, Try.ntmps21
    go_wp2_with fail
    go_ret2
    exact ⟨none, 0, 0, rfl, World.ownsRow_nil _ _ _ _, Upd.refl _ _⟩
  have t2 : decide ((64 : Int) < (K : Int)) = false := decide_eq_false (by omega)
  have hE1 : eiE fs gs = if fs.length = gs.length then 0 else 4 := if_neg (by rw [HL.out, HK.out]; omega)
  by_cases h3 : L = K
  · subst h3
    have hE : eiE fs gs = 0 := by rw [hE1, if_pos (by rw [HL.out, HK.out])]
    have HE := Lib.hid hE
    have HS := Lib.hid (show eiS fs gs = eiL fs gs L by unfold eiS; rw [if_pos hE, HL.out])
    rw [HS.out, HE.out]
    have hl64 : L ≤ 64 := by omega
    clear h1 h2 hla hlb hE hE1
    go_enter Try.func21, Try.ntmps21
    go_wp2_with fail
    go_loopw [6, 23] (fun v i wr => ∃ k : Nat, k ≤ L ∧ i = .int .i64 k ∧ wr.ownsRow w.heap.size 4 1 v k (bls ((eiL fs gs L).take k)) ∧ Upd NoB w wr) (fun _ i _ => L - (intOf i).toNat)
    case atStart => exact ⟨0, Nat.zero_le _, rfl, World.ownsRow_nil _ _ _ _, Upd.refl _ _⟩
    case round =>
      obtain ⟨k, hk, rfl, hown, hu⟩ := hrel
      obtain ⟨va, vc, rfl⟩ := row_form hown
      have HOw := Lib.hid hown; have HU := Lib.hid hu
      clear hown hu
      by_cases hlt : k < L
      · obtain ⟨x, hx⟩ : ∃ x, fs[k]? = some x := ⟨_, List.getElem?_eq_getElem (by rw [HL.out]; exact hlt)⟩
        obtain ⟨y, hy⟩ : ∃ y, gs[k]? = some y := ⟨_, List.getElem?_eq_getElem (by rw [HK.out]; exact hlt)⟩
        have hA := HA.out.later HU.out
        have hB := HB.out.later HU.out
        obtain ⟨ba, oa, rfl, c0⟩ := hA.cellAt hx
        obtain ⟨bb, ob, rfl, c1⟩ := hB.cellAt hy
        have hT := eiL_take (fs := fs) (gs := gs) hlt
        rw [getD_of hx, getD_of hy] at hT
        have HT := Lib.hid hT
        have hbs := HU.out.size
        generalize (eiL fs gs L).take k = ys at *
        clear hx hy hA hB hT
        cases x with
        | true =>
          go_wp2_with (at_builtin; refine wpList_pushb rfl (.tmp 26) (.tmp 37) rfl w.heap.size (.slice va k vc) k ys true rfl rfl HOw.out (by omega) hbs ?_; intro v' w' hown' u'; have R' := Lib.hid hown'; have U' := Lib.hid u'; clear hown' u')
          go_roundw
          case rel => exact ⟨k + 1, by omega, by go_num, by rw [HT.out]; exact R'.out, upd_ge ((upd_ge' HU.out w.heap.size).trans U'.out (fun _ _ h => h))⟩
          case measure => simp [intOf]; omega
        | false =>
          go_wp2_with (at_builtin; refine wpList_pushb rfl (.tmp 26) (.tmp 37) rfl w.heap.size (.slice va k vc) k ys y rfl rfl HOw.out (by omega) hbs ?_; intro v' w' hown' u'; have R' := Lib.hid hown'; have U' := Lib.hid u'; clear hown' u')
          go_roundw
          case rel => exact ⟨k + 1, by omega, by go_num, by rw [HT.out]; exact R'.out, upd_ge ((upd_ge' HU.out w.heap.size).trans U'.out (fun _ _ h => h))⟩
          case measure => simp [intOf]; omega
      · obtain rfl : k = L := by omega
        have HT := Lib.hid (show (eiL fs gs k).take k = eiL fs gs k from List.take_of_length_le (by rw [eiL_length]; exact Nat.le_refl _))
        go_wp2_with fail
        go_ret2
        exact ⟨_, _, _, rfl, by rw [eiL_length, ← HT.out]; exact HOw.out, HU.out⟩
  · have hE : eiE fs gs = 4 := by rw [hE1, if_neg (by rw [HL.out, HK.out]; exact h3)]
    have HE := Lib.hid hE
    have HS := Lib.hid (eiS_bad hE (by decide))
    rw [HS.out, HE.out]
    have t3 : ((L : Int) != (K : Int)) = true := by rw [bne_iff_ne]; omega
    clear h1 h2 h3 hla hlb hE hE1
    go_enter Try.func21, Try.ntmps21
    go_wp2_with fail
    go_ret2
    exact ⟨none, 0, 0, rfl, World.ownsRow_nil _ _ _ _, Upd.refl _ _⟩
end Go.Proofs.Ytmkbpocibpjjaaa
