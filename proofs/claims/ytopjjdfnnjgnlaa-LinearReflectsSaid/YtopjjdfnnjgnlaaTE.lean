/- linear: round, products, sum of products -/
import Derived.Test.YtopjjdfnnjgnlaaTD
import Derived.Test.YtopjjdfnnjgnlaaRQ
import Derived.Stop.RegionWithIn
namespace Go.Proofs.Ytopjjdfnnjgnlaa
open Go.RowKit Go.Shelf
attribute [local go_sem] Oper.semAt_some

set_option maxRecDepth 100000 in
theorem lround_any (a b : Int) (w : World) (h : ratE a b = 0) : Calls Try.prog 108 #[.int .i64 a, .int .i64 b] w fun e w' => e = .returned (.int .i64 (rnd a b)) ∧ w' = w := by
  have HR := Lib.hid (Round_any a b w)
  rw [h] at HR
  have HV := Lib.hid (show onOk 0 (rnd a b) = rnd a b from rfl)
  rw [HV.out] at HR
  generalize rnd a b = R at *
  clear h
  go_enter Try.func108, Try.ntmps108
  go_wp2_with fail
  refine HR.out.mono ?_
  rintro e w' ⟨rfl, rfl⟩
  go_wp2_with fail
  go_ret
  exact ⟨rfl, rfl⟩
def KeepD (D : Nat → Prop) (A B : World) : Prop := ∀ k, D k → B.heap[k]? = A.heap[k]?
theorem KeepD.trans {D : Nat → Prop} {A B C : World} (h : KeepD D A B) (k : KeepD D B C) : KeepD D A C := fun i hi => (k i hi).trans (h i hi)
theorem KeepD.refl (D : Nat → Prop) (A : World) : KeepD D A A := fun _ _ => rfl
theorem KeepD.cell {D : Nat → Prop} {A B : World} (h : KeepD D A B) {p : Addr} (hp : D p.block) : B.cell? p = A.cell? p := World.cell?_of_block (w := A) (h p.block hp)
theorem Upd.keepD {S D : Nat → Prop} {A B : World} (h : Upd S A B) (hd : ∀ k, D k → k < A.heap.size ∧ ¬ S k) : KeepD D A B := fun k hk => h.block k (hd k hk).1 (hd k hk).2
theorem keepD_putObj {D : Nat → Prop} {W : World} {l : Nat} {o' : Obj} (hl : ¬ D l) : KeepD D W (W.putObj l o') := fun k hk => World.putObj_heap_other (fun e => hl (by rw [← e]; exact hk))
theorem grownBy_drewN (w : World) (n : Nat) : w.grownBy (w.drewN n) none := ⟨rfl, rfl, rfl, Nat.le_refl _, fun _ _ _ => rfl⟩
theorem keepD_drewN {D : Nat → Prop} {A B : World} (h : KeepD D A B) (n : Nat) : KeepD D A (B.drewN n) := h
theorem Ints.keepD {D : Nat → Prop} {A B : World} {v : Value} {xs : List Int} (h : Ints A v xs) (k : KeepD D A B) (hD : xs ≠ [] → ∀ b, v.ownBlock = some b → D b) : Ints B v xs := by
  obtain ⟨hb, a, cap, rfl, hc, h3⟩ := h
  refine ⟨hb, a, cap, rfl, hc, ?_⟩
  rcases h3 with h3 | ⟨b, off, rfl, h3⟩
  · exact .inl h3
  · exact .inr ⟨b, off, rfl, fun j x hx => (k.cell (p := ⟨b, off + j, none⟩) (hD (by rintro rfl; simp at hx) b rfl)).trans (h3 j x hx)⟩
/-- the sum of the first k products -/
def dotK (xs ys : List Int) (k : Nat) : Int := dotL (xs.take k) (ys.take k)
theorem dotK_succ : ∀ (xs ys : List Int) (k : Nat) (x y : Int), xs[k]? = some x → ys[k]? = some y → dotK xs ys (k + 1) = dotK xs ys k + x * y
  | [], _, k, x, y, h, _ => by simp at h
  | a :: l, [], k, x, y, _, h => by simp at h
  | a :: l, b :: m, 0, x, y, h, g => by
    simp only [List.getElem?_cons_zero, Option.some.injEq] at h g
    subst h; subst g
    show a * b + dotL (l.take 0) (m.take 0) = dotL [] [] + a * b
    rw [List.take_zero, dotL_nil, dotL_nil]
    omega
  | a :: l, b :: m, k + 1, x, y, h, g => by
    simp only [List.getElem?_cons_succ] at h g
    have ih := dotK_succ l m k x y h g
    show a * b + dotL (l.take (k + 1)) (m.take (k + 1)) = a * b + dotL (l.take k) (m.take k) + x * y
    unfold dotK at ih
    rw [ih]
    omega
theorem dotK_all : ∀ (xs ys : List Int), dotK xs ys (min xs.length ys.length) = dotL xs ys
  | [], ys => by unfold dotK; rw [List.take_nil, dotL_nil, dotL_nil]
  | a :: l, [] => by unfold dotK; rw [List.take_nil, dotL_nil2, dotL_nil2]
  | a :: l, b :: m => by
    have ih := dotK_all l m
    rw [List.length_cons, List.length_cons, show min (l.length + 1) (m.length + 1) = min l.length m.length + 1 by omega]
    show a * b + dotL (l.take _) (m.take _) = a * b + dotL l m
    unfold dotK at ih
    rw [ih]
abbrev encP (xs ys : List Int) (k : Nat) : Array Value := #[.int .i64 (xs.getD k 0 * ys.getD k 0)]
set_option maxRecDepth 100000 in
set_option maxHeartbeats 2000000 in
theorem products1_in (l B1 B2 n : Nat) (sx sy : Value) (xs ys : List Int) (N : Nat) (hN : min xs.length ys.length = N) (hl : xs.length ≤ 1000000 ∧ ys.length ≤ 1000000)
    (hb : ∀ (k : Nat) (x y : Int), xs[k]? = some x → ys[k]? = some y → -4611686018427387904 ≤ x * y ∧ x * y ≤ 4611686018427387904)
    (J : Nat → World → Prop) (D : Nat → Prop) (hD1 : D B1) (hD2 : D B2) (W : World) (hX : ∀ V, KeepD D W V → Ints V sx xs ∧ Ints V sy ys) (hJ : OwnM W.heap.size 0 J)
    (hY : ∀ k V, J k V → W.heap.size + 0 ≤ V.heap.size → k < N → YieldAt Fence.wide (n - 1) Try.prog l (encP xs ys k) V fun e V' => e = .returned (.bool true) ∧ J (k + 1) V' ∧ KeepD D V V' ∧ V.heap.size ≤ V'.heap.size)
    (hb1 : W.cell? ⟨B1, 0, none⟩ = some sx) (hb2 : W.cell? ⟨B2, 0, none⟩ = some sy) (h0 : J 0 W) :
    CallsIn Fence.wide n Try.prog 115 #[.func (.yield l) #[] #[], .pointer (some ⟨B1, 0, none⟩), .pointer (some ⟨B2, 0, none⟩)] W fun e W' => (∃ v, e = .returned v) ∧ J N W' := by
  refine callsIn_of_wp Try.func115 rfl trivial ?_ rfl
  simp only [Try.ntmps115, List.size_toArray, List.length_cons, List.length_nil, Nat.reduceAdd, Nat.reduceSub, Array.replicate_succ, Array.replicate_zero, List.push_toArray, List.append_toArray, List.nil_append, List.cons_append]
  have HY := Lib.hid @hY; clear hY
  have HJ := Lib.hid hJ; clear hJ
  have HX := Lib.hid hX
  have HB := Lib.hid hb
  obtain ⟨ix, iy⟩ := hX W (KeepD.refl _ _)
  clear hX hb
  obtain ⟨ax, cx, rfl⟩ := ix.form
  obtain ⟨ay, cy, rfl⟩ := iy.form
  have HLx := Lib.hid (rfl : xs.length = xs.length); have HLy := Lib.hid (rfl : ys.length = ys.length)
  obtain ⟨Lx, hLx⟩ : ∃ n, xs.length = n := ⟨_, rfl⟩
  obtain ⟨Ly, hLy⟩ : ∃ n, ys.length = n := ⟨_, rfl⟩
  have HLxe := Lib.hid hLx; have HLye := Lib.hid hLy
  rw [hLx] at hb1 HX hN hl
  rw [hLy] at hb2 HX hN hl
  have hNl : N ≤ Lx ∧ N ≤ Ly := by omega
  have HNm := Lib.hid hN
  clear ix iy hLx hLy HLx HLy hN
  by_cases hc : Ly < Lx
  · have HZ := Lib.hid (show N = Ly by have := HNm.out; omega)
    gi_wp2
    gi_loopw [10] (fun i wr => ∃ k : Nat, k ≤ Ly ∧ i = .int .i64 (k : Int) ∧ J k wr ∧ KeepD D W wr ∧ W.heap.size ≤ wr.heap.size) (fun i _ => Ly - (intOf i).toNat)
    case atStart => exact ⟨0, Nat.zero_le _, rfl, h0, KeepD.refl _ _, Nat.le_refl _⟩
    case round =>
      obtain ⟨k, hk, rfl, hJs, hkd, hws⟩ := hrel
      have HKd := Lib.hid hkd; have HJs := Lib.hid hJs; have HWs := Lib.hid hws
      by_cases hlt : k < Ly
      · obtain ⟨x, hx⟩ : ∃ x, xs[k]? = some x := ⟨_, List.getElem?_eq_getElem (by rw [HLxe.out]; omega)⟩
        obtain ⟨y, hy⟩ : ∃ y, ys[k]? = some y := ⟨_, List.getElem?_eq_getElem (by rw [HLye.out]; omega)⟩
        have hJ2 := HJ.out _ wr wr.drew none hJs (grownBy_drewN wr 1) (fun r e => by cases e)
        have hk2 : KeepD D W wr.drew := hkd
        obtain ⟨i1, i2⟩ := HX.out _ hk2
        obtain ⟨bx, ox, hax, c3⟩ := i1.cellAt hx
        obtain ⟨by', oy, hay, c4⟩ := i2.cellAt hy
        have c1 : wr.drew.cell? ⟨B1, 0, none⟩ = some (.slice ax Lx cx) := (hk2.cell (p := ⟨B1, 0, none⟩) hD1).trans hb1
        have c2 : wr.drew.cell? ⟨B2, 0, none⟩ = some (.slice ay Ly cy) := (hk2.cell (p := ⟨B2, 0, none⟩) hD2).trans hb2
        have hbd := HB.out k x y hx hy
        obtain ⟨fn, tmps, assign, body, hy0, hR⟩ := HY.out k wr.drew hJ2 hws (by have := HNm.out; omega)
        have hxd : xs.getD k 0 = x := by rw [List.getD_eq_getElem?_getD, hx]; rfl
        have hyd : ys.getD k 0 = y := by rw [List.getD_eq_getElem?_getD, hy]; rfl
        simp only [encP, hxd, hyd] at hy0
        obtain ⟨q, hq⟩ : ∃ q, x * y = q := ⟨_, rfl⟩
        rw [hq] at hy0 hbd
        have z1 : wrap64 (x * y) = q := by rw [hq]; exact IntWalk.wrap64_in _ (by omega)
        have z2 : IntKind.i64.wrap (x * y) = q := by rw [hq]; exact IntWalk.i64_in _ (by omega)
        have q1 : (k : Int) < (Lx : Int) := by omega
        have q2 : (k : Int) < (Ly : Int) := by omega
        have q3 : k < Lx := by omega
        have q4 : k < Ly := by omega
        subst hax; subst hay
        have HK2 := Lib.hid hk2; have HLt := Lib.hid hlt
        clear hx hy hxd hyd hq hbd hkd hJs hws i1 i2 hJ2 hk2
        gi_wp2
        gi_region_with (refine ⟨(fun h => by cases h), hR.mono ?_⟩; rintro e W3 ⟨rfl, hJ3, hk3, hs3⟩)
        all_goals
          gi_wp2
          go_roundw
          case rel => exact ⟨k + 1, by omega, by go_num, hJ3, HK2.out.trans hk3, Nat.le_trans HWs.out hs3⟩
          case measure => simp [intOf]; omega
      · obtain rfl : k = Ly := by omega
        gi_wp2
        go_end0
        exact ⟨⟨_, rfl⟩, by rw [HZ.out]; exact hJs⟩
  · have HZ := Lib.hid (show N = Lx by have := HNm.out; omega)
    gi_wp2
    gi_loopw [10] (fun i wr => ∃ k : Nat, k ≤ Lx ∧ i = .int .i64 (k : Int) ∧ J k wr ∧ KeepD D W wr ∧ W.heap.size ≤ wr.heap.size) (fun i _ => Lx - (intOf i).toNat)
    case atStart => exact ⟨0, Nat.zero_le _, rfl, h0, KeepD.refl _ _, Nat.le_refl _⟩
    case round =>
      obtain ⟨k, hk, rfl, hJs, hkd, hws⟩ := hrel
      have HKd := Lib.hid hkd; have HJs := Lib.hid hJs; have HWs := Lib.hid hws
      by_cases hlt : k < Lx
      · obtain ⟨x, hx⟩ : ∃ x, xs[k]? = some x := ⟨_, List.getElem?_eq_getElem (by rw [HLxe.out]; omega)⟩
        obtain ⟨y, hy⟩ : ∃ y, ys[k]? = some y := ⟨_, List.getElem?_eq_getElem (by rw [HLye.out]; omega)⟩
        have hJ2 := HJ.out _ wr wr.drew none hJs (grownBy_drewN wr 1) (fun r e => by cases e)
        have hk2 : KeepD D W wr.drew := hkd
        obtain ⟨i1, i2⟩ := HX.out _ hk2
        obtain ⟨bx, ox, hax, c3⟩ := i1.cellAt hx
        obtain ⟨by', oy, hay, c4⟩ := i2.cellAt hy
        have c1 : wr.drew.cell? ⟨B1, 0, none⟩ = some (.slice ax Lx cx) := (hk2.cell (p := ⟨B1, 0, none⟩) hD1).trans hb1
        have c2 : wr.drew.cell? ⟨B2, 0, none⟩ = some (.slice ay Ly cy) := (hk2.cell (p := ⟨B2, 0, none⟩) hD2).trans hb2
        have hbd := HB.out k x y hx hy
        obtain ⟨fn, tmps, assign, body, hy0, hR⟩ := HY.out k wr.drew hJ2 hws (by have := HNm.out; omega)
        have hxd : xs.getD k 0 = x := by rw [List.getD_eq_getElem?_getD, hx]; rfl
        have hyd : ys.getD k 0 = y := by rw [List.getD_eq_getElem?_getD, hy]; rfl
        simp only [encP, hxd, hyd] at hy0
        obtain ⟨q, hq⟩ : ∃ q, x * y = q := ⟨_, rfl⟩
        rw [hq] at hy0 hbd
        have z1 : wrap64 (x * y) = q := by rw [hq]; exact IntWalk.wrap64_in _ (by omega)
        have z2 : IntKind.i64.wrap (x * y) = q := by rw [hq]; exact IntWalk.i64_in _ (by omega)
        have q1 : (k : Int) < (Lx : Int) := by omega
        have q2 : (k : Int) < (Ly : Int) := by omega
        have q3 : k < Lx := by omega
        have q4 : k < Ly := by omega
        subst hax; subst hay
        have HK2 := Lib.hid hk2; have HLt := Lib.hid hlt
        clear hx hy hxd hyd hq hbd hkd hJs hws i1 i2 hJ2 hk2
        gi_wp2
        gi_region_with (refine ⟨(fun h => by cases h), hR.mono ?_⟩; rintro e W3 ⟨rfl, hJ3, hk3, hs3⟩)
        all_goals
          gi_wp2
          go_roundw
          case rel => exact ⟨k + 1, by omega, by go_num, hJ3, HK2.out.trans hk3, Nat.le_trans HWs.out hs3⟩
          case measure => simp [intOf]; omega
      · obtain rfl : k = Lx := by omega
        gi_wp2
        go_end0
        exact ⟨⟨_, rfl⟩, by rw [HZ.out]; exact hJs⟩
end Go.Proofs.Ytopjjdfnnjgnlaa
