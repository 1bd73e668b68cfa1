/- quant: each over odd; Values, Quantize -/
import Derived.Test.YteioaeceobgbdaaQG
import Derived.OwnWalk
namespace Go.Proofs.Yteioaeceobgbdaa
open Go.RowKit Go.Shelf

def EInts (w : World) (xs : List Int) (E : Int) (e : Ending) (w' : World) : Prop := ∃ a n c, e = .returned (.tuple #[.slice a n c, .int .i64 E]) ∧ w'.ownsRow w.heap.size 3 1 (.slice a n c) xs.length (i64s xs) ∧ Upd NoB w w'
theorem mmap_take {xs : List Int} {k : Nat} {x : Int} {f : Int → Int} (h : xs[k]? = some x) : (xs.take (k + 1)).map f = (xs.take k).map f ++ [f x] := by
  rw [List.take_add_one, h]; simp
set_option maxRecDepth 100000 in
set_option maxHeartbeats 2000000 in
theorem eachV_any (sv : Value) (xs : List Int) (s b B : Nat) (w : World) (h : Ints w sv xs) (hl : xs.length ≤ 128) (hin : inM 1023 xs = true) (hm : Memo w b) (hs : s ≤ 95) (hc : w.cell? ⟨B, 0, none⟩ = some (.func (.func 47) #[lad s b] #[])) (hB : B ≠ b) (hsv : xs ≠ [] → ∀ k, sv.ownBlock = some k → ¬ k = b) :
    Calls Try.prog 54 #[sv, .func (.func 91) #[] #[.pointer (some ⟨B, 0, none⟩)]] w fun e w' => ∃ v, e = .returned v ∧ w'.ownsRow w.heap.size 3 1 v xs.length (i64s (xs.map (sgV s))) ∧ Upd (fun k => k = b) w w' := by
  have HF := Lib.hid (fun (k : Nat) (q : Int) (hq : xs[k]? = some q) W (hM : Memo W b) (u : Upd (fun k => k = b) w W) => odd1V_any s b B q W hM hs (inM_yes hin q (List.mem_of_getElem? hq)) (u.cell hc hB))
  have HX := Lib.hid (fun W (u : Upd (fun k => k = b) w W) => h.upd u hsv)
  have HM := Lib.hid hm
  have HE := Lib.hid (show (xs.take xs.length).map (sgV s) = xs.map (sgV s) by rw [List.take_length])
  have HT := Lib.hid (fun k x (h : xs[k]? = some x) => mmap_take (f := sgV s) h)
  have hbw := hm.lt
  obtain ⟨a, cap, rfl⟩ := h.form
  obtain ⟨i0, hi, hz0, hz1, hz2⟩ := info_parts Try.infoInt
  obtain ⟨L, hL⟩ : ∃ L, xs.length = L := ⟨_, rfl⟩
  have HL := Lib.hid hL
  rw [hL] at hl HE HX ⊢
  clear h hin hm hs hc hB hsv hL
  go_enter Try.func54, Try.ntmps54
  go_wp2_with (refine wpList_make_own w rfl _ _ 28 rfl w.heap.size 3 i0 (.int .i64 0) 1 Try.underlying28 hi hz0 hz1 .i64 .i64 _ L rfl rfl rfl ?c1 ?c2 ?c3 ?_)
  case c1 => rw [hz2]; omega
  case c2 => unfold maxLen; omega
  case c3 => exact Nat.le_refl _
  intro w1 hown hgr
  have hu1 : Upd NoB w w1 := (Upd.refl _ _).grown hgr (fun k e => by cases e)
  have HO := Lib.hid hown; have U1 := Lib.hid (show Upd (fun k => k = b) w w1 from hu1.mono (fun _ _ h => h.elim)); have M1 := Lib.hid (HM.out.later hu1)
  clear hown hgr hu1
  go_wp2_with fail
  go_loopw [5, 13] (fun v i wr => ∃ k : Nat, k ≤ L ∧ i = .int .i64 k ∧ wr.ownsRow w.heap.size 3 1 v k (i64s ((xs.take k).map (sgV s))) ∧ Memo wr b ∧ Upd (fun k => k = b) w wr) (fun _ i _ => L - (intOf i).toNat)
  case atStart => exact ⟨0, Nat.zero_le _, rfl, HO.out, M1.out, U1.out⟩
  case round =>
    obtain ⟨k, hk, rfl, hown, hM, hu⟩ := hrel
    obtain ⟨va, vc, rfl⟩ := row_form hown
    have HOw := Lib.hid hown; have HU := Lib.hid hu
    by_cases hlt : k < L
    · obtain ⟨x, hx⟩ : ∃ x, xs[k]? = some x := ⟨_, List.getElem?_eq_getElem (by rw [HL.out]; exact hlt)⟩
      obtain ⟨bb, off, rfl, c0⟩ := (HX.out wr hu).cellAt hx
      have HFx := Lib.hid (HF.out k x hx wr hM hu)
      have HM2 := Lib.hid (HT.out k x hx)
      generalize (xs.take k).map (sgV s) = ys at *
      generalize sgV s x = y at *
      have hk6 : k ≤ 1000000 := by omega
      have hnb := Lib.hid (show ¬ w.heap.size ≤ b by omega)
      clear hx hown hM hu
      go_wp2_with fail
      refine HFx.out.mono ?_
      rintro r w2 ⟨rfl, m2, u2⟩
      have O2 := Lib.hid (u2.row HOw.out (fun j hj e => by have := (HOw.out.lt j hj).1; have e : j = b := e; omega)); have U2 := Lib.hid (HU.out.trans u2 (fun _ _ h => h)); have M2 := Lib.hid m2
      have hb2 := U2.out.size
      clear u2 m2
      go_wp2_with (at_builtin; refine wpList_push rfl (.tmp 17) (.tmp 21) rfl w.heap.size (.slice va k vc) k ys y rfl rfl O2.out hk6 hb2 ?_; intro v' w' hown' u'; have R' := Lib.hid hown'; have U' := Lib.hid u'; clear hown' u')
      go_roundw
      case rel => exact ⟨k + 1, by omega, by go_num, by rw [HM2.out]; exact R'.out, M2.out.upd U'.out hnb.out, U2.out.trans U'.out (fun j hj e => absurd hj (Nat.not_lt.2 e))⟩
      case measure => simp [intOf]; omega
    · obtain rfl : k = L := by omega
      rw [HE.out] at HOw
      clear hlt hown hM hu
      go_wp2_with fail
      go_ret
      exact ⟨_, rfl, HOw.out, HU.out⟩
def lV (xs : List Int) (s : Int) : List Int := if ckS 1023 xs s = 0 then xs.map (sgV s.toNat) else []
set_option maxRecDepth 100000 in
set_option maxHeartbeats 2000000 in
theorem pVs_any (sv : Value) (xs : List Int) (s : Int) (w : World) (h : Ints w sv xs) : Calls Try.prog 22 #[sv, .int .i64 s] w (EInts w (lV xs s) (ckS 1023 xs s)) := by
  have HC := Lib.hid (check_any sv xs s 1023 w (by decide) h)
  by_cases hE : ckS 1023 xs s = 0
  · have HS := Lib.hid (show lV xs s = xs.map (sgV s.toNat) from if_pos hE)
    rw [HS.out, hE]
    rw [hE] at HC
    have hs : 0 ≤ s ∧ s ≤ 95 := by
      unfold ckS at hE
      split at hE
      · assumption
      · cases hE
    have hk : ckQ 1023 xs = 0 := by
      unfold ckS at hE
      rw [if_pos hs] at hE
      exact hE
    obtain ⟨hl, hin⟩ := ckQ_ok hk
    obtain ⟨n, rfl⟩ : ∃ n : Nat, s = (n : Int) := ⟨s.toNat, by omega⟩
    rw [Int.toNat_natCast]
    have hn : n ≤ 95 := by omega
    have HL := Lib.hid (fun W => ladderOf_any n W hn)
    have HEa := Lib.hid (fun b B W (u : Upd NoB w W) (hm : Memo W b) hc hB (hb : w.heap.size ≤ b) => eachV_any sv xs n b B W (h.later u) hl hin hm hn hc hB (fun hx k hk e => by have := h.lt hx k hk; omega))
    have HLn := Lib.hid (show (xs.map (sgV n)).length = xs.length by rw [List.length_map])
    obtain ⟨a, cap, rfl⟩ := h.form
    generalize xs.map (sgV n) = ys at *
    generalize xs.length = L at *
    clear h hE hs hk hl hin hn HS
    go_enter Try.func22, Try.ntmps22
    go_wp2_with fail
    refine HC.out.mono ?_
    rintro e w1 ⟨rfl, u1⟩
    have U1 := Lib.hid u1
    clear u1
    go_wp2_with fail
    refine (HL.out _).mono ?_
    rintro e w2 ⟨b, rfl, hb, m2, u2⟩
    have M2 := Lib.hid m2; have U2 := Lib.hid (U1.out.then u2)
    have HB := Lib.hid (show w.heap.size ≤ b from Nat.le_trans U1.out.size hb)
    clear m2 u2 hb
    go_wp2_with fail
    refine (odd_any _ _ _).mono ?_
    rintro e w3 ⟨rfl, hw3⟩
    have hc := heap_alloc_new w2 (.cells #[.func (.func 47) #[lad n b] #[]] 51)
    have u3 : Upd NoB w2 w3 := by rw [hw3]; exact (Upd.refl _ _).alloc _
    have hc2 : w3.cell? ⟨w2.heap.size, 0, none⟩ = some (.func (.func 47) #[lad n b] #[]) := by rw [hw3]; exact blk_cell hc 0
    have HCe := Lib.hid (HEa.out b w2.heap.size w3 (U2.out.then u3) (M2.out.later u3) hc2 (by have := M2.out.lt; omega) HB.out)
    have U3 := Lib.hid (U2.out.then u3)
    clear hw3 hc u3 hc2
    go_wp2_with fail
    refine HCe.out.mono ?_
    rintro e w4 ⟨v, rfl, r4, u4⟩
    obtain ⟨va, vc, rfl⟩ := row_form r4
    have U4 := Lib.hid (U3.out.trans u4 (fun j hj e => by have := HB.out; have e : j = b := e; omega))
    have R4 := Lib.hid (row_base r4 U3.out.size)
    clear r4 u4
    go_wp2_with fail
    go_ret2
    exact ⟨_, _, _, rfl, by rw [HLn.out]; exact R4.out, U4.out⟩
  · have HS := Lib.hid (show lV xs s = [] from if_neg hE)
    rw [HS.out]
    generalize ckS 1023 xs s = E at *
    obtain ⟨a, cap, rfl⟩ := h.form
    have t1 : (E != 0) = true := bne_iff_ne.2 hE
    generalize xs.length = L at *
    clear h hE
    go_enter Try.func22, Try.ntmps22
    go_wp2_with fail
    refine HC.out.mono ?_
    rintro e w1 ⟨rfl, u1⟩
    have U1 := Lib.hid u1
    clear u1
    go_wp2_with fail
    go_ret2
    exact ⟨none, 0, 0, rfl, World.ownsRow_nil _ _ _ _, U1.out⟩
set_option maxRecDepth 100000 in
set_option maxHeartbeats 2000000 in
theorem eachQ_any (sv : Value) (xs : List Int) (s b B : Nat) (w : World) (h : Ints w sv xs) (hl : xs.length ≤ 128) (hin : inM 2097152 xs = true) (hm : Memo w b) (hs : s ≤ 95) (hc : w.cell? ⟨B, 0, none⟩ = some (.func (.func 50) #[lad s b] #[])) (hB : B ≠ b) (hsv : xs ≠ [] → ∀ k, sv.ownBlock = some k → ¬ k = b) :
    Calls Try.prog 54 #[sv, .func (.func 91) #[] #[.pointer (some ⟨B, 0, none⟩)]] w fun e w' => ∃ v, e = .returned v ∧ w'.ownsRow w.heap.size 3 1 v xs.length (i64s (xs.map (sgQ s))) ∧ Upd (fun k => k = b) w w' := by
  have HF := Lib.hid (fun (k : Nat) (q : Int) (hq : xs[k]? = some q) W (hM : Memo W b) (u : Upd (fun k => k = b) w W) => odd1Q_any s b B q W hM hs (inM_yes hin q (List.mem_of_getElem? hq)) (u.cell hc hB))
  have HX := Lib.hid (fun W (u : Upd (fun k => k = b) w W) => h.upd u hsv)
  have HM := Lib.hid hm
  have HE := Lib.hid (show (xs.take xs.length).map (sgQ s) = xs.map (sgQ s) by rw [List.take_length])
  have HT := Lib.hid (fun k x (h : xs[k]? = some x) => mmap_take (f := sgQ s) h)
  have hbw := hm.lt
  obtain ⟨a, cap, rfl⟩ := h.form
  obtain ⟨i0, hi, hz0, hz1, hz2⟩ := info_parts Try.infoInt
  obtain ⟨L, hL⟩ : ∃ L, xs.length = L := ⟨_, rfl⟩
  have HL := Lib.hid hL
  rw [hL] at hl HE HX ⊢
  clear h hin hm hs hc hB hsv hL
  go_enter Try.func54, Try.ntmps54
  go_wp2_with (refine wpList_make_own w rfl _ _ 28 rfl w.heap.size 3 i0 (.int .i64 0) 1 Try.underlying28 hi hz0 hz1 .i64 .i64 _ L rfl rfl rfl ?c1 ?c2 ?c3 ?_)
  case c1 => rw [hz2]; omega
  case c2 => unfold maxLen; omega
  case c3 => exact Nat.le_refl _
  intro w1 hown hgr
  have hu1 : Upd NoB w w1 := (Upd.refl _ _).grown hgr (fun k e => by cases e)
  have HO := Lib.hid hown; have U1 := Lib.hid (show Upd (fun k => k = b) w w1 from hu1.mono (fun _ _ h => h.elim)); have M1 := Lib.hid (HM.out.later hu1)
  clear hown hgr hu1
  go_wp2_with fail
  go_loopw [5, 13] (fun v i wr => ∃ k : Nat, k ≤ L ∧ i = .int .i64 k ∧ wr.ownsRow w.heap.size 3 1 v k (i64s ((xs.take k).map (sgQ s))) ∧ Memo wr b ∧ Upd (fun k => k = b) w wr) (fun _ i _ => L - (intOf i).toNat)
  case atStart => exact ⟨0, Nat.zero_le _, rfl, HO.out, M1.out, U1.out⟩
  case round =>
    obtain ⟨k, hk, rfl, hown, hM, hu⟩ := hrel
    obtain ⟨va, vc, rfl⟩ := row_form hown
    have HOw := Lib.hid hown; have HU := Lib.hid hu
    by_cases hlt : k < L
    · obtain ⟨x, hx⟩ : ∃ x, xs[k]? = some x := ⟨_, List.getElem?_eq_getElem (by rw [HL.out]; exact hlt)⟩
      obtain ⟨bb, off, rfl, c0⟩ := (HX.out wr hu).cellAt hx
      have HFx := Lib.hid (HF.out k x hx wr hM hu)
      have HM2 := Lib.hid (HT.out k x hx)
      generalize (xs.take k).map (sgQ s) = ys at *
      generalize sgQ s x = y at *
      have hk6 : k ≤ 1000000 := by omega
      have hnb := Lib.hid (show ¬ w.heap.size ≤ b by omega)
      clear hx hown hM hu
      go_wp2_with fail
      refine HFx.out.mono ?_
      rintro r w2 ⟨rfl, m2, u2⟩
      have O2 := Lib.hid (u2.row HOw.out (fun j hj e => by have := (HOw.out.lt j hj).1; have e : j = b := e; omega)); have U2 := Lib.hid (HU.out.trans u2 (fun _ _ h => h)); have M2 := Lib.hid m2
      have hb2 := U2.out.size
      clear u2 m2
      go_wp2_with (at_builtin; refine wpList_push rfl (.tmp 17) (.tmp 21) rfl w.heap.size (.slice va k vc) k ys y rfl rfl O2.out hk6 hb2 ?_; intro v' w' hown' u'; have R' := Lib.hid hown'; have U' := Lib.hid u'; clear hown' u')
      go_roundw
      case rel => exact ⟨k + 1, by omega, by go_num, by rw [HM2.out]; exact R'.out, M2.out.upd U'.out hnb.out, U2.out.trans U'.out (fun j hj e => absurd hj (Nat.not_lt.2 e))⟩
      case measure => simp [intOf]; omega
    · obtain rfl : k = L := by omega
      rw [HE.out] at HOw
      clear hlt hown hM hu
      go_wp2_with fail
      go_ret
      exact ⟨_, rfl, HOw.out, HU.out⟩
def lQ (xs : List Int) (s : Int) : List Int := if ckS 2097152 xs s = 0 then xs.map (sgQ s.toNat) else []
set_option maxRecDepth 100000 in
set_option maxHeartbeats 2000000 in
theorem pQs_any (sv : Value) (xs : List Int) (s : Int) (w : World) (h : Ints w sv xs) : Calls Try.prog 20 #[sv, .int .i64 s] w (EInts w (lQ xs s) (ckS 2097152 xs s)) := by
  have HC := Lib.hid (check_any sv xs s 2097152 w (by decide) h)
  by_cases hE : ckS 2097152 xs s = 0
  · have HS := Lib.hid (show lQ xs s = xs.map (sgQ s.toNat) from if_pos hE)
    rw [HS.out, hE]
    rw [hE] at HC
    have hs : 0 ≤ s ∧ s ≤ 95 := by
      unfold ckS at hE
      split at hE
      · assumption
      · cases hE
    have hk : ckQ 2097152 xs = 0 := by
      unfold ckS at hE
      rw [if_pos hs] at hE
      exact hE
    obtain ⟨hl, hin⟩ := ckQ_ok hk
    obtain ⟨n, rfl⟩ : ∃ n : Nat, s = (n : Int) := ⟨s.toNat, by omega⟩
    rw [Int.toNat_natCast]
    have hn : n ≤ 95 := by omega
    have HL := Lib.hid (fun W => ladderOf_any n W hn)
    have HEa := Lib.hid (fun b B W (u : Upd NoB w W) (hm : Memo W b) hc hB (hb : w.heap.size ≤ b) => eachQ_any sv xs n b B W (h.later u) hl hin hm hn hc hB (fun hx k hk e => by have := h.lt hx k hk; omega))
    have HLn := Lib.hid (show (xs.map (sgQ n)).length = xs.length by rw [List.length_map])
    obtain ⟨a, cap, rfl⟩ := h.form
    generalize xs.map (sgQ n) = ys at *
    generalize xs.length = L at *
    clear h hE hs hk hl hin hn HS
    go_enter Try.func20, Try.ntmps20
    go_wp2_with fail
    refine HC.out.mono ?_
    rintro e w1 ⟨rfl, u1⟩
    have U1 := Lib.hid u1
    clear u1
    go_wp2_with fail
    refine (HL.out _).mono ?_
    rintro e w2 ⟨b, rfl, hb, m2, u2⟩
    have M2 := Lib.hid m2; have U2 := Lib.hid (U1.out.then u2)
    have HB := Lib.hid (show w.heap.size ≤ b from Nat.le_trans U1.out.size hb)
    clear m2 u2 hb
    go_wp2_with fail
    refine (odd_any _ _ _).mono ?_
    rintro e w3 ⟨rfl, hw3⟩
    have hc := heap_alloc_new w2 (.cells #[.func (.func 50) #[lad n b] #[]] 51)
    have u3 : Upd NoB w2 w3 := by rw [hw3]; exact (Upd.refl _ _).alloc _
    have hc2 : w3.cell? ⟨w2.heap.size, 0, none⟩ = some (.func (.func 50) #[lad n b] #[]) := by rw [hw3]; exact blk_cell hc 0
    have HCe := Lib.hid (HEa.out b w2.heap.size w3 (U2.out.then u3) (M2.out.later u3) hc2 (by have := M2.out.lt; omega) HB.out)
    have U3 := Lib.hid (U2.out.then u3)
    clear hw3 hc u3 hc2
    go_wp2_with fail
    refine HCe.out.mono ?_
    rintro e w4 ⟨v, rfl, r4, u4⟩
    obtain ⟨va, vc, rfl⟩ := row_form r4
    have U4 := Lib.hid (U3.out.trans u4 (fun j hj e => by have := HB.out; have e : j = b := e; omega))
    have R4 := Lib.hid (row_base r4 U3.out.size)
    clear r4 u4
    go_wp2_with fail
    go_ret2
    exact ⟨_, _, _, rfl, by rw [HLn.out]; exact R4.out, U4.out⟩
  · have HS := Lib.hid (show lQ xs s = [] from if_neg hE)
    rw [HS.out]
    generalize ckS 2097152 xs s = E at *
    obtain ⟨a, cap, rfl⟩ := h.form
    have t1 : (E != 0) = true := bne_iff_ne.2 hE
    generalize xs.length = L at *
    clear h hE
    go_enter Try.func20, Try.ntmps20
    go_wp2_with fail
    refine HC.out.mono ?_
    rintro e w1 ⟨rfl, u1⟩
    have U1 := Lib.hid u1
    clear u1
    go_wp2_with fail
    go_ret2
    exact ⟨none, 0, 0, rfl, World.ownsRow_nil _ _ _ _, U1.out⟩
end Go.Proofs.Yteioaeceobgbdaa
