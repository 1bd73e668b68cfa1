/- energy: each and sum, for each function that they are given -/
import Derived.Test.YtaplmdkjoijcgaaDoorOI
import Derived.OwnWalk
namespace Go.Proofs.YtaplmdkjoijcgaaDoor
open Go.RowKit Go.Shelf

/-- The slice v holds these parts. -/
def Parts (w : World) (v : Value) (ps : List (List Int)) : Prop := ∃ b c, v = .slice (some ⟨b, 0, none⟩) ps.length c ∧ ∀ k xs, ps[k]? = some xs → ∃ a cap, w.cell? ⟨b, k, none⟩ = some (.slice a xs.length cap) ∧ Ints w (.slice a xs.length cap) xs
theorem Parts.later {w w' : World} {v : Value} {ps : List (List Int)} (h : Parts w v ps) (u : Upd NoB w w') : Parts w' v ps := by
  obtain ⟨b, c, e, hk⟩ := h
  refine ⟨b, c, e, fun k xs hx => ?_⟩
  obtain ⟨a, cap, h1, h2⟩ := hk k xs hx
  exact ⟨a, cap, u.cell h1 (noB _), h2.later u⟩
theorem mmap_take {α : Type} {f : α → Int} {ps : List α} {k : Nat} {x : α} (h : ps[k]? = some x) : (ps.take (k + 1)).map f = (ps.take k).map f ++ [f x] := by
  rw [List.take_add_one, h, List.map_append]; rfl
theorem msum_take {α : Type} {f : α → Int} {ps : List α} {k : Nat} {x : α} (h : ps[k]? = some x) : ((ps.take (k + 1)).map f).sum = ((ps.take k).map f).sum + f x := by
  rw [mmap_take h, List.sum_append]; simp
theorem msum_bd {α : Type} {f : α → Int} {B : Int} {ps : List α} (hB : 0 ≤ B) (h : ∀ (j : Nat) (x : α), ps[j]? = some x → 0 ≤ f x ∧ f x ≤ B) : ∀ k : Nat, 0 ≤ ((ps.take k).map f).sum ∧ ((ps.take k).map f).sum ≤ B * (k : Int)
  | 0 => by simp
  | k + 1 => by
    have ih := msum_bd hB h k
    rw [Int.natCast_add, Int.mul_add]
    cases hx : ps[k]? with
    | none =>
      have e : ps.take (k + 1) = ps.take k := by rw [List.take_add_one, hx]; simp
      rw [e]; omega
    | some x =>
      have hb := h k x hx
      rw [msum_take hx]
      omega
set_option maxRecDepth 100000 in
set_option maxHeartbeats 2000000 in
theorem eachEn_any (sv : Value) (ps : List (List Int)) (f : (List Int) → Int) (w : World) (h : Parts w sv ps) (hl : ps.length ≤ 1000)
    (HF : ∀ (k : Nat) (x : List Int) (a : Option Addr) (cap : Nat) (w' : World), ps[k]? = some x → Upd NoB w w' → Ints w' (.slice a x.length cap) x → Calls Tryd.prog 69 #[.slice a x.length cap] w' fun r w'' => r = .returned (.int .i64 (f x)) ∧ Upd NoB w' w'') :
    Calls Tryd.prog 68 #[sv, .func (.func 69) #[] #[]] w (IRes w (ps.map f)) := by
  obtain ⟨b, c, rfl, hk⟩ := h
  have HK := Lib.hid hk
  have HF := Lib.hid HF
  have HE := Lib.hid (show (ps.take ps.length).map f = ps.map f by rw [List.take_length])
  have HLn := Lib.hid (show (ps.map f).length = ps.length by rw [List.length_map])
  obtain ⟨i0, hi, hz0, hz1, hz2⟩ := info_parts Tryd.infoInt
  obtain ⟨L, hL⟩ : ∃ L, ps.length = L := ⟨_, rfl⟩
  have HL := Lib.hid hL
  rw [hL] at hl HE HLn ⊢
  clear hL hk
  go_enter Tryd.func68, Tryd.ntmps68
  go_wp2_with (refine wpList_make_own w rfl _ _ 22 rfl w.heap.size 3 i0 (.int .i64 0) 1 Tryd.underlying22 hi hz0 hz1 .i64 .i64 _ L rfl rfl rfl ?c1 ?c2 ?c3 ?_)
  case c1 => rw [hz2]; omega
  case c2 => unfold maxLen; omega
  case c3 => exact Nat.le_refl _
  intro w1 hown hgr
  have HO := Lib.hid hown; have U1 := Lib.hid (show Upd NoB w w1 from (Upd.refl _ _).grown hgr (fun k e => by cases e))
  clear hown hgr
  go_wp2_with fail
  go_loopw [5, 13] (fun v i wr => ∃ k : Nat, k ≤ L ∧ i = .int .i64 k ∧ wr.ownsRow w.heap.size 3 1 v k (i64s ((ps.take k).map f)) ∧ Upd NoB w wr) (fun _ i _ => L - (intOf i).toNat)
  case atStart => exact ⟨0, Nat.zero_le _, rfl, HO.out, U1.out⟩
  case round =>
    obtain ⟨k, hk, rfl, hown, hu⟩ := hrel
    obtain ⟨va, vc, rfl⟩ := row_form hown
    have HOw := Lib.hid hown; have HU := Lib.hid hu
    by_cases hlt : k < L
    · obtain ⟨x, hx⟩ : ∃ x, ps[k]? = some x := ⟨_, List.getElem?_eq_getElem (by rw [HL.out]; exact hlt)⟩
      obtain ⟨xa, xc, cx, ix⟩ := HK.out k x hx
      have c0 := hu.cell cx (noB _)
      have HFx := Lib.hid (HF.out k x xa xc wr hx hu (ix.later hu))
      generalize x.length = xl at *
      have HM := Lib.hid (mmap_take (f := f) hx)
      generalize (ps.take k).map f = ys at *
      generalize f x = y at *
      clear hx hown hu cx ix
      go_wp2_with fail
      refine HFx.out.mono ?_
      rintro r w2 ⟨rfl, u2⟩
      have O2 := Lib.hid (u2.row HOw.out (fun j _ => noB j)); have U2 := Lib.hid (HU.out.then u2)
      have hb2 := U2.out.size
      clear u2
      go_wp2_with (at_builtin; refine wpList_push rfl (.tmp 17) (.tmp 21) rfl w.heap.size (.slice va k vc) k ys y rfl rfl O2.out (by omega) hb2 ?_; intro v' w' hown' u'; have R' := Lib.hid hown'; have U' := Lib.hid u'; clear hown' u')
      go_roundw
      case rel => exact ⟨k + 1, by omega, by go_num, by rw [HM.out]; exact R'.out, upd_ge ((upd_ge' U2.out w.heap.size).trans U'.out (fun _ _ h => h))⟩
      case measure => simp [intOf]; omega
    · obtain rfl : k = L := by omega
      rw [HE.out] at HOw
      clear hlt hown hu
      go_wp2_with fail
      go_ret
      exact ⟨_, rfl, by rw [HLn.out]; exact HOw.out, HU.out⟩
set_option maxRecDepth 100000 in
set_option maxHeartbeats 2000000 in
theorem eachTo_any (sv : Value) (ps : List (List Int)) (f : (List Int) → Int) (w : World) (h : Parts w sv ps) (hl : ps.length ≤ 1000)
    (HF : ∀ (k : Nat) (x : List Int) (a : Option Addr) (cap : Nat) (w' : World), ps[k]? = some x → Upd NoB w w' → Ints w' (.slice a x.length cap) x → Calls Tryd.prog 74 #[.slice a x.length cap] w' fun r w'' => r = .returned (.int .i64 (f x)) ∧ Upd NoB w' w'') :
    Calls Tryd.prog 68 #[sv, .func (.func 74) #[] #[]] w (IRes w (ps.map f)) := by
  obtain ⟨b, c, rfl, hk⟩ := h
  have HK := Lib.hid hk
  have HF := Lib.hid HF
  have HE := Lib.hid (show (ps.take ps.length).map f = ps.map f by rw [List.take_length])
  have HLn := Lib.hid (show (ps.map f).length = ps.length by rw [List.length_map])
  obtain ⟨i0, hi, hz0, hz1, hz2⟩ := info_parts Tryd.infoInt
  obtain ⟨L, hL⟩ : ∃ L, ps.length = L := ⟨_, rfl⟩
  have HL := Lib.hid hL
  rw [hL] at hl HE HLn ⊢
  clear hL hk
  go_enter Tryd.func68, Tryd.ntmps68
  go_wp2_with (refine wpList_make_own w rfl _ _ 22 rfl w.heap.size 3 i0 (.int .i64 0) 1 Tryd.underlying22 hi hz0 hz1 .i64 .i64 _ L rfl rfl rfl ?c1 ?c2 ?c3 ?_)
  case c1 => rw [hz2]; omega
  case c2 => unfold maxLen; omega
  case c3 => exact Nat.le_refl _
  intro w1 hown hgr
  have HO := Lib.hid hown; have U1 := Lib.hid (show Upd NoB w w1 from (Upd.refl _ _).grown hgr (fun k e => by cases e))
  clear hown hgr
  go_wp2_with fail
  go_loopw [5, 13] (fun v i wr => ∃ k : Nat, k ≤ L ∧ i = .int .i64 k ∧ wr.ownsRow w.heap.size 3 1 v k (i64s ((ps.take k).map f)) ∧ Upd NoB w wr) (fun _ i _ => L - (intOf i).toNat)
  case atStart => exact ⟨0, Nat.zero_le _, rfl, HO.out, U1.out⟩
  case round =>
    obtain ⟨k, hk, rfl, hown, hu⟩ := hrel
    obtain ⟨va, vc, rfl⟩ := row_form hown
    have HOw := Lib.hid hown; have HU := Lib.hid hu
    by_cases hlt : k < L
    · obtain ⟨x, hx⟩ : ∃ x, ps[k]? = some x := ⟨_, List.getElem?_eq_getElem (by rw [HL.out]; exact hlt)⟩
      obtain ⟨xa, xc, cx, ix⟩ := HK.out k x hx
      have c0 := hu.cell cx (noB _)
      have HFx := Lib.hid (HF.out k x xa xc wr hx hu (ix.later hu))
      generalize x.length = xl at *
      have HM := Lib.hid (mmap_take (f := f) hx)
      generalize (ps.take k).map f = ys at *
      generalize f x = y at *
      clear hx hown hu cx ix
      go_wp2_with fail
      refine HFx.out.mono ?_
      rintro r w2 ⟨rfl, u2⟩
      have O2 := Lib.hid (u2.row HOw.out (fun j _ => noB j)); have U2 := Lib.hid (HU.out.then u2)
      have hb2 := U2.out.size
      clear u2
      go_wp2_with (at_builtin; refine wpList_push rfl (.tmp 17) (.tmp 21) rfl w.heap.size (.slice va k vc) k ys y rfl rfl O2.out (by omega) hb2 ?_; intro v' w' hown' u'; have R' := Lib.hid hown'; have U' := Lib.hid u'; clear hown' u')
      go_roundw
      case rel => exact ⟨k + 1, by omega, by go_num, by rw [HM.out]; exact R'.out, upd_ge ((upd_ge' U2.out w.heap.size).trans U'.out (fun _ _ h => h))⟩
      case measure => simp [intOf]; omega
    · obtain rfl : k = L := by omega
      rw [HE.out] at HOw
      clear hlt hown hu
      go_wp2_with fail
      go_ret
      exact ⟨_, rfl, by rw [HLn.out]; exact HOw.out, HU.out⟩
set_option maxRecDepth 100000 in
set_option maxHeartbeats 2000000 in
theorem eachLv_any (sv : Value) (ps : List Int) (f : Int → Int) (w : World) (h : Ints w sv ps) (hl : ps.length ≤ 1000)
    (HF : ∀ (k : Nat) (x : Int)  (w' : World), ps[k]? = some x → Upd NoB w w' → Calls Tryd.prog 78 #[.int .i64 x] w' fun r w'' => r = .returned (.int .i64 (f x)) ∧ Upd NoB w' w'') :
    Calls Tryd.prog 77 #[sv, .func (.func 78) #[] #[]] w (IRes w (ps.map f)) := by
  obtain ⟨a, cap, rfl⟩ := h.form
  have H := Lib.hid h
  have HF := Lib.hid HF
  have HE := Lib.hid (show (ps.take ps.length).map f = ps.map f by rw [List.take_length])
  have HLn := Lib.hid (show (ps.map f).length = ps.length by rw [List.length_map])
  obtain ⟨i0, hi, hz0, hz1, hz2⟩ := info_parts Tryd.infoInt
  obtain ⟨L, hL⟩ : ∃ L, ps.length = L := ⟨_, rfl⟩
  have HL := Lib.hid hL
  rw [hL] at hl HE HLn H ⊢
  clear hL h
  go_enter Tryd.func77, Tryd.ntmps77
  go_wp2_with (refine wpList_make_own w rfl _ _ 22 rfl w.heap.size 3 i0 (.int .i64 0) 1 Tryd.underlying22 hi hz0 hz1 .i64 .i64 _ L rfl rfl rfl ?c1 ?c2 ?c3 ?_)
  case c1 => rw [hz2]; omega
  case c2 => unfold maxLen; omega
  case c3 => exact Nat.le_refl _
  intro w1 hown hgr
  have HO := Lib.hid hown; have U1 := Lib.hid (show Upd NoB w w1 from (Upd.refl _ _).grown hgr (fun k e => by cases e))
  clear hown hgr
  go_wp2_with fail
  go_loopw [5, 13] (fun v i wr => ∃ k : Nat, k ≤ L ∧ i = .int .i64 k ∧ wr.ownsRow w.heap.size 3 1 v k (i64s ((ps.take k).map f)) ∧ Upd NoB w wr) (fun _ i _ => L - (intOf i).toNat)
  case atStart => exact ⟨0, Nat.zero_le _, rfl, HO.out, U1.out⟩
  case round =>
    obtain ⟨k, hk, rfl, hown, hu⟩ := hrel
    obtain ⟨va, vc, rfl⟩ := row_form hown
    have HOw := Lib.hid hown; have HU := Lib.hid hu
    by_cases hlt : k < L
    · obtain ⟨x, hx⟩ : ∃ x, ps[k]? = some x := ⟨_, List.getElem?_eq_getElem (by rw [HL.out]; exact hlt)⟩
      obtain ⟨bb, off, rfl, c0⟩ := (H.out.later hu).cellAt hx
      have HFx := Lib.hid (HF.out k x wr hx hu)
      have HM := Lib.hid (mmap_take (f := f) hx)
      generalize (ps.take k).map f = ys at *
      generalize f x = y at *
      clear hx hown hu
      go_wp2_with fail
      refine HFx.out.mono ?_
      rintro r w2 ⟨rfl, u2⟩
      have O2 := Lib.hid (u2.row HOw.out (fun j _ => noB j)); have U2 := Lib.hid (HU.out.then u2)
      have hb2 := U2.out.size
      clear u2
      go_wp2_with (at_builtin; refine wpList_push rfl (.tmp 17) (.tmp 21) rfl w.heap.size (.slice va k vc) k ys y rfl rfl O2.out (by omega) hb2 ?_; intro v' w' hown' u'; have R' := Lib.hid hown'; have U' := Lib.hid u'; clear hown' u')
      go_roundw
      case rel => exact ⟨k + 1, by omega, by go_num, by rw [HM.out]; exact R'.out, upd_ge ((upd_ge' U2.out w.heap.size).trans U'.out (fun _ _ h => h))⟩
      case measure => simp [intOf]; omega
    · obtain rfl : k = L := by omega
      rw [HE.out] at HOw
      clear hlt hown hu
      go_wp2_with fail
      go_ret
      exact ⟨_, rfl, by rw [HLn.out]; exact HOw.out, HU.out⟩
set_option maxRecDepth 100000 in
set_option maxHeartbeats 2000000 in
theorem sumParts_any (sv : Value) (ps : List (List Int)) (f : List Int → Int) (w : World) (h : Parts w sv ps) (hl : ps.length ≤ 100) (hb : ∀ (j : Nat) (x : List Int), ps[j]? = some x → 0 ≤ f x ∧ f x ≤ 1319413953331200)
    (HF : ∀ (k : Nat) (x : List Int) (a : Option Addr) (cap : Nat) (w' : World), ps[k]? = some x → Upd NoB w w' → Ints w' (.slice a x.length cap) x → Calls Tryd.prog 69 #[.slice a x.length cap] w' fun r w'' => r = .returned (.int .i64 (f x)) ∧ Upd NoB w' w'') :
    Calls Tryd.prog 73 #[sv, .func (.func 69) #[] #[]] w fun r w' => r = .returned (.int .i64 (ps.map f).sum) ∧ Upd NoB w w' := by
  obtain ⟨b, c, rfl, hk⟩ := h
  have HK := Lib.hid hk
  have HF := Lib.hid HF; have HBd := Lib.hid hb
  have HB := Lib.hid (fun k => msum_bd (by omega) hb k)
  have HE := Lib.hid (show ((ps.take ps.length).map f).sum = (ps.map f).sum by rw [List.take_length])
  obtain ⟨L, hL⟩ : ∃ L, ps.length = L := ⟨_, rfl⟩
  have HL := Lib.hid hL
  rw [hL] at hl HE ⊢
  clear hL hk hb
  go_enter Tryd.func73, Tryd.ntmps73
  go_wp2_with fail
  go_loopw [5, 10] (fun s i wr => ∃ k : Nat, k ≤ L ∧ i = .int .i64 k ∧ s = .int .i64 ((ps.take k).map f).sum ∧ Upd NoB w wr) (fun _ i _ => L - (intOf i).toNat)
  case atStart => exact ⟨0, Nat.zero_le _, rfl, rfl, Upd.refl _ _⟩
  case round =>
    obtain ⟨k, hk, rfl, rfl, hu⟩ := hrel
    have HU := Lib.hid hu
    by_cases hlt : k < L
    · obtain ⟨x, hx⟩ : ∃ x, ps[k]? = some x := ⟨_, List.getElem?_eq_getElem (by rw [HL.out]; exact hlt)⟩
      obtain ⟨xa, xc, cx, ix⟩ := HK.out k x hx
      have c0 := hu.cell cx (noB _)
      have HFx := Lib.hid (HF.out k x xa xc wr hx hu (ix.later hu))
      obtain ⟨q0, q1⟩ := HBd.out k x hx
      have HSu := Lib.hid (msum_take (f := f) hx)
      obtain ⟨s0, s1⟩ := HB.out k
      have hs2 : ((ps.take k).map f).sum ≤ 1319413953331200 * 100 := by omega
      generalize ((ps.take k).map f).sum = S at *
      generalize f x = q at *
      generalize x.length = xl at *
      clear hx s1 hu cx ix
      go_wp2_with fail
      refine HFx.out.mono ?_
      rintro r w2 ⟨rfl, u2⟩
      have U2 := Lib.hid (HU.out.then u2)
      clear u2
      go_wp2_with fail
      go_roundw
      case rel => exact ⟨k + 1, by omega, by go_num, by rw [HSu.out], U2.out⟩
      case measure => simp [intOf]; omega
    · obtain rfl : k = L := by omega
      rw [HE.out]
      clear hlt hu
      go_wp2_with fail
      go_ret
      exact ⟨rfl, HU.out⟩
end Go.Proofs.YtaplmdkjoijcgaaDoor
