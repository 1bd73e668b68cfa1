/- linear: Differ, Add, Trim -/
import Derived.Test.YtopjjdfnnjgnlaaTC
namespace Go.Proofs.Ytopjjdfnnjgnlaa
open Go.RowKit Go.Shelf

theorem differR_any (base : Nat) (v : Value) (xs : List Int) (w : World) (h : w.ownsRow base 3 1 v xs.length (i64s xs)) (hl : xs.length ≤ 8192) (hv : inM 1099511627776 xs = true) :
    Calls Try.prog 68 #[v] w fun e w' => e = .returned (.tuple #[]) ∧ w'.ownsRow base 3 1 v xs.length (i64s (difG 0 xs)) ∧ Upd (fun k => base ≤ k) w w' := by
  by_cases h0 : xs.length = 0
  · obtain rfl := List.eq_nil_of_length_eq_zero h0
    obtain ⟨a, c, e⟩ := row_form h
    refine (differ0_any v w ⟨a, c, e⟩).mono ?_
    rintro e w' ⟨rfl, rfl⟩
    exact ⟨rfl, h, Upd.refl _ _⟩
  · obtain ⟨G, c, rfl⟩ := row_slice h (by omega)
    obtain ⟨o, hb, hc⟩ := OwnR.of h
    refine (differ_any G c xs w o (by omega) hl hv).mono ?_
    rintro e w' ⟨rfl, o', u⟩
    have hr := o'.row hb hc
    rw [difG_len] at hr
    exact ⟨rfl, hr, u.mono (fun k _ e => by have e : k = G := e; show base ≤ k; omega)⟩
theorem addUpR_any (base : Nat) (v : Value) (xs : List Int) (w : World) (h : w.ownsRow base 3 1 v xs.length (i64s xs)) (hl : xs.length ≤ 8192) (hv : inM 67108864 xs = true) :
    Calls Try.prog 72 #[v] w fun e w' => e = .returned (.tuple #[]) ∧ w'.ownsRow base 3 1 v xs.length (i64s (sumG 0 xs)) ∧ Upd (fun k => base ≤ k) w w' := by
  by_cases h0 : xs.length = 0
  · obtain rfl := List.eq_nil_of_length_eq_zero h0
    obtain ⟨a, c, e⟩ := row_form h
    refine (addUp0_any v w ⟨a, c, e⟩).mono ?_
    rintro e w' ⟨rfl, rfl⟩
    exact ⟨rfl, h, Upd.refl _ _⟩
  · obtain ⟨G, c, rfl⟩ := row_slice h (by omega)
    obtain ⟨o, hb, hc⟩ := OwnR.of h
    refine (addUp_any G c xs w o (by omega) hl hv).mono ?_
    rintro e w' ⟨rfl, o', u⟩
    have hr := o'.row hb hc
    rw [sumG_len] at hr
    exact ⟨rfl, hr, u.mono (fun k _ e => by have e : k = G := e; show base ≤ k; omega)⟩
set_option maxRecDepth 100000 in
set_option maxHeartbeats 4000000 in
theorem Differ_any (sv : Value) (xs : List Int) (k : Int) (w : World) (h : Ints w sv xs) : Calls Try.prog 34 #[sv, .int .i64 k] w (EInts w (diS xs k) (diE xs k)) := by
  have HC := Lib.hid (checkList_any sv xs 2097152 w (by decide) h)
  have H := Lib.hid h
  obtain ⟨a, cap, rfl⟩ := h.form
  by_cases hk : k < 0 ∨ 4 < k
  · have HE := Lib.hid (show diE xs k = 1 from if_pos hk)
    have HS := Lib.hid (show diS xs k = [] from if_neg (by rw [HE.out]; decide))
    rw [HE.out, HS.out]
    generalize xs.length = L at *
    by_cases h1 : k < 0
    · have t1 : decide (k < 0) = true := decide_eq_true h1
      clear h hk
      go_enter Try.func34, Try.ntmps34
      go_wp2_with fail
      go_ret2
      exact ⟨none, 0, 0, rfl, World.ownsRow_nil _ _ _ _, Upd.refl _ _⟩
    · have t1 : decide (k < 0) = false := decide_eq_false h1
      have t2 : decide (4 < k) = true := decide_eq_true (by omega)
      clear h hk
      go_enter Try.func34, Try.ntmps34
      go_wp2_with fail
      go_ret2
      exact ⟨none, 0, 0, rfl, World.ownsRow_nil _ _ _ _, Upd.refl _ _⟩
  · have HE := Lib.hid (show diE xs k = ckE 2097152 xs from if_neg hk)
    have t1 : decide (k < 0) = false := decide_eq_false (by omega)
    have t2 : decide (4 < k) = false := decide_eq_false (by omega)
    by_cases hE : ckE 2097152 xs = 0
    · obtain ⟨hl, hin⟩ := ckE_ok hE
      obtain ⟨n, rfl⟩ : ∃ n : Nat, k = (n : Int) := ⟨k.toNat, by omega⟩
      have HS := Lib.hid (show diS xs (n : Int) = difK n xs by
        have e : diS xs (n : Int) = difK (n : Int).toNat xs := if_pos (by rw [HE.out, hE])
        rw [e, Int.toNat_natCast])
      have HB := Lib.hid (fun j (hj : j ≤ 4) => (show inM 1099511627776 (difK j xs) = true from inM_mono (by have := pow2_le hj; omega) (difK_in j hin)))
      have HLk := Lib.hid (fun j => difK_len j xs)
      have HK1 := Lib.hid (fun j => (show difK (j + 1) xs = difG 0 (difK j xs) from rfl))
      have hn4 : n ≤ 4 := by omega
      rw [HE.out, hE, HS.out]
      rw [hE] at HC
      have HL := Lib.hid (rfl : xs.length = xs.length)
      obtain ⟨L, hL⟩ : ∃ L, xs.length = L := ⟨_, rfl⟩
      have HLe := Lib.hid hL
      rw [hL] at HC H hl HLk ⊢
      clear h hL hk hE hin HL
      go_enter Try.func34, Try.ntmps34
      go_wp2_with fail
      refine HC.out.mono ?_
      rintro e w1 ⟨rfl, u1⟩
      have U1 := Lib.hid u1
      have HCl := Lib.hid (iclone_any _ xs w1 (H.out.later u1))
      clear u1
      go_wp2_with fail
      refine HCl.out.mono ?_
      rintro e w2 ⟨v2, rfl, r2, u2⟩
      rw [HLe.out] at r2
      have R2 := Lib.hid r2; have U2 := Lib.hid (U1.out.then u2)
      obtain ⟨B, hB⟩ : ∃ B, w1.heap.size = B := ⟨_, rfl⟩
      rw [hB] at R2
      have HBw := Lib.hid (show w.heap.size ≤ B by rw [← hB]; exact U1.out.size)
      clear r2 u2 hB
      go_wp2_with fail
      go_loopw [22] (fun i wr => ∃ j : Nat, j ≤ n ∧ i = .int .i64 (j : Int) ∧ wr.ownsRow B 3 1 v2 L (i64s (difK j xs)) ∧ Upd NoB w wr) (fun i _ => n - (intOf i).toNat)
      case atStart => exact ⟨0, Nat.zero_le _, rfl, R2.out, U2.out⟩
      case round =>
        obtain ⟨j, hj, rfl, hr, hu⟩ := hrel
        have HR := Lib.hid hr; have HU := Lib.hid hu
        by_cases hlt : j < n
        · have HD := Lib.hid (by
            have := differR_any B v2 (difK j xs) wr (by rw [HLk.out]; exact hr) (by rw [HLk.out]; exact hl) (HB.out j (by omega))
            rw [HLk.out] at this
            exact this)
          have hji : (j : Int) < (n : Int) := by omega
          clear hr hu
          go_wp2_with fail
          refine HD.out.mono ?_
          rintro e w3 ⟨rfl, r3, u3⟩
          have R3 := Lib.hid r3
          have U3 := Lib.hid (show Upd NoB w w3 from HU.out.trans u3 (fun k hk e => by have e : B ≤ k := e; have := HBw.out; exfalso; omega))
          clear r3 u3
          go_wp2_with fail
          go_roundw
          case rel => exact ⟨j + 1, by omega, by go_num, by rw [HK1.out]; exact R3.out, U3.out⟩
          case measure => simp [intOf]; omega
        · obtain rfl : j = n := by omega
          have hji : decide ((j : Int) < (j : Int)) = false := decide_eq_false (Int.lt_irrefl _)
          obtain ⟨va, vc, rfl⟩ := row_form hr
          clear hr hu hlt
          go_wp2_with fail
          go_ret2
          exact ⟨_, _, _, rfl, by rw [HLk.out]; exact row_base HR.out HBw.out, HU.out⟩
    · have HS := Lib.hid (show diS xs k = [] from if_neg (by rw [HE.out]; exact hE))
      rw [HS.out, HE.out]
      have t3 : (ckE 2097152 xs != 0) = true := by rw [bne_iff_ne]; exact hE
      generalize ckE 2097152 xs = E at *
      generalize xs.length = L at *
      clear h hk hE
      go_enter Try.func34, Try.ntmps34
      go_wp2_with fail
      refine HC.out.mono ?_
      rintro e w1 ⟨rfl, u1⟩
      have U1 := Lib.hid u1
      clear u1
      go_wp2_with fail
      go_ret2
      exact ⟨none, 0, 0, rfl, World.ownsRow_nil _ _ _ _, U1.out⟩
/-- how long a filter is without the zeros at its end -/
def tmN (xs : List Int) : Nat → Nat
  | 0 => 0
  | e + 1 => if xs.getD e 0 = 0 then tmN xs e else e + 1
theorem tmN_step (xs : List Int) (e : Nat) (x : Int) (h : xs[e]? = some x) : tmN xs (e + 1) = if x = 0 then tmN xs e else e + 1 := by
  rw [tmN, List.getD_eq_getElem?_getD, h]; rfl
def tmE (xs : List Int) : Int := if isF xs then 0 else 1
def tmS (xs : List Int) : List Int := if isF xs then xs.take (tmN xs xs.length) else []
theorem run_slice_pre (w : World) (a : Option Addr) (n cap t : Nat) (ht : t ≤ cap) :
    (Instr.slice 22 (.slice a n cap) none (some (.int .i64 (t : Int))) none).run Try.prog w = .ok (.slice a t cap) w := by
  have h1 : (0 : Int) ≤ (t : Int) ∧ (t : Int) ≤ (cap : Int) := ⟨by omega, by omega⟩
  have hsz : (sizeOf 3).run Try.prog w = .ok 1 w := by kernel_rfl
  have hu : (underlying 22).run Try.prog w = .ok (.slice 3) w := by kernel_rfl
  rcases a with _ | ⟨b, o, s⟩ <;> simp [Instr.slice, Instr.sliceBounds, Instr.sliceBound, asIntOf, Sem.run_bind, Result.andThen, hu, hsz, h1, Int.toNat_natCast, ht, Addr.add]
theorem Ints.pre {w : World} {a : Option Addr} {n cap : Nat} {xs : List Int} (h : Ints w (.slice a n cap) xs) (e : Nat) (he : e ≤ xs.length) : Ints w (.slice a (xs.take e).length cap) (xs.take e) := by
  have hl : (xs.take e).length = e := by rw [List.length_take]; omega
  obtain ⟨hb, a', cap', e', ⟨hc, hn⟩, h3⟩ := h
  injection e' with e1 e2 e3
  subst e1; subst e3
  refine ⟨by omega, a, cap, rfl, ⟨by omega, hn⟩, ?_⟩
  rcases h3 with h3 | ⟨b, off, rfl, h3⟩
  · exact .inl (by rw [h3]; simp)
  · refine .inr ⟨b, off, rfl, fun j x hj => ?_⟩
    rw [List.getElem?_take] at hj
    split at hj
    · exact h3 j x hj
    · cases hj
theorem addK_in {o : Nat} {l : List Int} (h : addK o l ≠ none) : inM (2097152 * 2 ^ o) l = true := by
  cases o with
  | zero =>
    unfold addK at h
    split at h
    · rename_i hh; rw [show (2097152 : Int) * 2 ^ 0 = 2097152 by decide]; exact hh
    · exact absurd rfl h
  | succ o =>
    unfold addK at h
    split at h
    · rename_i hh; exact hh
    · exact absurd rfl h
theorem addK_step {o : Nat} {M : Int} (hM : (2097152 : Int) * 2 ^ (o + 1) = M) {l : List Int} : addK (o + 1) l = if inM M l then addK o (sumG 0 l) else none := by subst hM; rfl
theorem pw1 : (2097152 : Int) * 2 ^ (0 + 1) = 4194304 := by decide
theorem pw2 : (2097152 : Int) * 2 ^ (1 + 1) = 8388608 := by decide
theorem pw3 : (2097152 : Int) * 2 ^ (2 + 1) = 16777216 := by decide
theorem pw4 : (2097152 : Int) * 2 ^ (3 + 1) = 33554432 := by decide
set_option maxRecDepth 100000 in
set_option maxHeartbeats 8000000 in
theorem Add_any (sv : Value) (xs : List Int) (k : Int) (w : World) (h : Ints w sv xs) : Calls Try.prog 36 #[sv, .int .i64 k] w (EInts w (adS xs k) (adE xs k)) := by
  have HC := Lib.hid (checkList_any sv xs 67108864 w (by decide) h)
  have H := Lib.hid h
  obtain ⟨a, cap, rfl⟩ := h.form
  by_cases hk : k < 0 ∨ 4 < k
  · have HE := Lib.hid (show adE xs k = 1 from if_pos hk)
    have HS := Lib.hid (show adS xs k = [] from if_neg (by rw [HE.out]; decide))
    rw [HE.out, HS.out]
    generalize xs.length = L at *
    by_cases h1 : k < 0
    · have t1 : decide (k < 0) = true := decide_eq_true h1
      clear h hk
      go_enter Try.func36, Try.ntmps36
      go_wp2_with fail
      go_ret2
      exact ⟨none, 0, 0, rfl, World.ownsRow_nil _ _ _ _, Upd.refl _ _⟩
    · have t1 : decide (k < 0) = false := decide_eq_false h1
      have t2 : decide (4 < k) = true := decide_eq_true (by omega)
      clear h hk
      go_enter Try.func36, Try.ntmps36
      go_wp2_with fail
      go_ret2
      exact ⟨none, 0, 0, rfl, World.ownsRow_nil _ _ _ _, Upd.refl _ _⟩
  · have HE := Lib.hid (show adE xs k = if ckE 67108864 xs = 0 then (if (addK k.toNat xs).isSome then 0 else 6) else ckE 67108864 xs from if_neg hk)
    have t1 : decide (k < 0) = false := decide_eq_false (by omega)
    have t2 : decide (4 < k) = false := decide_eq_false (by omega)
    by_cases hE : ckE 67108864 xs = 0
    · obtain ⟨hl, hin⟩ := ckE_ok hE
      obtain ⟨n, rfl⟩ : ∃ n : Nat, k = (n : Int) := ⟨k.toNat, by omega⟩
      rw [if_pos hE, Int.toNat_natCast] at HE
      have HNo := Lib.hid (fun (hno : addK n xs = none) => (show adE xs (n : Int) = 6 ∧ adS xs (n : Int) = [] by
        have e : adE xs (n : Int) = 6 := by rw [HE.out, hno]; rfl
        exact ⟨e, if_neg (by rw [e]; decide)⟩))
      have HYes := Lib.hid (fun y (hy : addK n xs = some y) => (show adE xs (n : Int) = 0 ∧ adS xs (n : Int) = y by
        have e : adE xs (n : Int) = 0 := by rw [HE.out, hy]; rfl
        have e2 : adS xs (n : Int) = (addK (n : Int).toNat xs).getD [] := if_pos e
        rw [Int.toNat_natCast, hy] at e2
        exact ⟨e, e2⟩))
      have hn4 : n ≤ 4 := by omega
      rw [hE] at HC
      have HIn := Lib.hid hin
      obtain ⟨L, hL⟩ : ∃ L, xs.length = L := ⟨_, rfl⟩
      have HLe := Lib.hid hL
      rw [hL] at HC H hl ⊢
      clear h hL hk hE hin HE
      go_enter Try.func36, Try.ntmps36
      go_wp2_with fail
      refine HC.out.mono ?_
      rintro e w1 ⟨rfl, u1⟩
      have U1 := Lib.hid u1
      have HCl := Lib.hid (iclone_any _ xs w1 (H.out.later u1))
      clear u1
      go_wp2_with fail
      refine HCl.out.mono ?_
      rintro e w2 ⟨v2, rfl, r2, u2⟩
      rw [HLe.out] at r2
      have R2 := Lib.hid r2; have U2 := Lib.hid (U1.out.then u2)
      obtain ⟨B, hB⟩ : ∃ B, w1.heap.size = B := ⟨_, rfl⟩
      rw [hB] at R2
      have HBw := Lib.hid (show w.heap.size ≤ B by rw [← hB]; exact U1.out.size)
      obtain ⟨va, vc, rfl⟩ := row_form r2
      clear r2 u2 hB
      go_wp2_with fail
      go_loopw [8] (fun i wr => ∃ (o : Nat) (ys : List Int), o ≤ n ∧ i = .int .i64 (o : Int) ∧ ys.length = L ∧ addK n xs = addK o ys ∧ wr.ownsRow B 3 1 (.slice va L vc) L (i64s ys) ∧ Upd NoB w wr) (fun i _ => (intOf i).toNat)
      case atStart => exact ⟨n, xs, Nat.le_refl _, rfl, HLe.out, rfl, R2.out, U2.out⟩
      case round =>
        obtain ⟨o, ys, ho, rfl, hyl, hya, hr, hu⟩ := hrel
        have HR := Lib.hid hr; have HU := Lib.hid hu; have HYl := Lib.hid hyl; have HYa := Lib.hid hya
        have HI := Lib.hid (show Ints wr (.slice va L vc) ys from by
          have := Ints.ofRow (xs := ys) (by rw [hyl]; exact hr) (by rw [hyl]; omega)
          exact this)
        clear hr hu hyl hya
        by_cases ho0 : o = 0
        · subst ho0
          have HW := Lib.hid (areWithin_any _ ys 2097152 wr (by decide) HI.out)
          cases hin : inM 2097152 ys with
          | false =>
            have HNo2 := Lib.hid (HNo.out (by rw [HYa.out]; unfold addK; rw [hin]; rfl))
            rw [hin] at HW
            clear hin
            go_wp2_with fail
            refine HW.out.mono ?_
            rintro e w3 ⟨rfl, u3⟩
            have U3 := Lib.hid (HU.out.then u3)
            clear u3
            go_wp2_with fail
            go_ret2
            rw [HNo2.out.1, HNo2.out.2]
            exact ⟨none, 0, 0, rfl, World.ownsRow_nil _ _ _ _, U3.out⟩
          | true =>
            have HY2 := Lib.hid (HYes.out ys (by rw [HYa.out]; unfold addK; rw [hin]; rfl))
            rw [hin] at HW
            clear hin
            go_wp2_with fail
            refine HW.out.mono ?_
            rintro e w3 ⟨rfl, u3⟩
            have U3 := Lib.hid (HU.out.then u3)
            have R3 := Lib.hid (u3.row HR.out (fun k _ => noB k))
            clear u3
            go_wp2_with fail
            go_ret2
            rw [HY2.out.1, HY2.out.2]
            exact ⟨_, _, _, rfl, by rw [HYl.out]; exact row_base R3.out HBw.out, U3.out⟩
        · rcases (show o = 1 ∨ o = 2 ∨ o = 3 ∨ o = 4 by omega) with rfl | rfl | rfl | rfl
          · have HW := Lib.hid (areWithin_any _ ys 4194304 wr (by decide) HI.out)
            cases hin : inM 4194304 ys with
            | false =>
              have HNo2 := Lib.hid (HNo.out (by rw [HYa.out, addK_step pw1, hin, if_neg (by decide)]))
              rw [hin] at HW
              clear hin
              go_wp2_with fail
              refine HW.out.mono ?_
              rintro e w3 ⟨rfl, u3⟩
              have U3 := Lib.hid (HU.out.then u3)
              clear u3
              go_wp2_with fail
              go_ret2
              rw [HNo2.out.1, HNo2.out.2]
              exact ⟨none, 0, 0, rfl, World.ownsRow_nil _ _ _ _, U3.out⟩
            | true =>
              have HN2 := Lib.hid (show addK n xs = addK 0 (sumG 0 ys) by rw [HYa.out, addK_step pw1, hin, if_pos rfl])
              have HB := Lib.hid (inM_mono (b := 67108864) (by decide) hin)
              have HSl := Lib.hid (sumG_len 0 ys)
              rw [hin] at HW
              clear hin
              go_wp2_with fail
              refine HW.out.mono ?_
              rintro e w3 ⟨rfl, u3⟩
              have U3 := Lib.hid (HU.out.then u3)
              have R3 := Lib.hid (u3.row HR.out (fun k _ => noB k))
              have HA := Lib.hid (by
                have := addUpR_any B (.slice va L vc) ys w3 (by rw [HYl.out]; exact R3.out) (by rw [HYl.out]; exact hl) HB.out
                rw [HYl.out] at this
                exact this)
              clear u3
              go_wp2_with fail
              refine HA.out.mono ?_
              rintro e w4 ⟨rfl, r4, u4⟩
              have R4 := Lib.hid r4
              have U4 := Lib.hid (show Upd NoB w w4 from U3.out.trans u4 (fun k hk e => by have e : B ≤ k := e; have := HBw.out; exfalso; omega))
              clear r4 u4
              go_wp2_with fail
              go_roundw
              case rel => exact ⟨0, sumG 0 ys, by omega, by go_num, by rw [HSl.out]; exact HYl.out, HN2.out, R4.out, U4.out⟩
              case measure => simp [intOf]
          · have HW := Lib.hid (areWithin_any _ ys 8388608 wr (by decide) HI.out)
            cases hin : inM 8388608 ys with
            | false =>
              have HNo2 := Lib.hid (HNo.out (by rw [HYa.out, addK_step pw2, hin, if_neg (by decide)]))
              rw [hin] at HW
              clear hin
              go_wp2_with fail
              refine HW.out.mono ?_
              rintro e w3 ⟨rfl, u3⟩
              have U3 := Lib.hid (HU.out.then u3)
              clear u3
              go_wp2_with fail
              go_ret2
              rw [HNo2.out.1, HNo2.out.2]
              exact ⟨none, 0, 0, rfl, World.ownsRow_nil _ _ _ _, U3.out⟩
            | true =>
              have HN2 := Lib.hid (show addK n xs = addK 1 (sumG 0 ys) by rw [HYa.out, addK_step pw2, hin, if_pos rfl])
              have HB := Lib.hid (inM_mono (b := 67108864) (by decide) hin)
              have HSl := Lib.hid (sumG_len 0 ys)
              rw [hin] at HW
              clear hin
              go_wp2_with fail
              refine HW.out.mono ?_
              rintro e w3 ⟨rfl, u3⟩
              have U3 := Lib.hid (HU.out.then u3)
              have R3 := Lib.hid (u3.row HR.out (fun k _ => noB k))
              have HA := Lib.hid (by
                have := addUpR_any B (.slice va L vc) ys w3 (by rw [HYl.out]; exact R3.out) (by rw [HYl.out]; exact hl) HB.out
                rw [HYl.out] at this
                exact this)
              clear u3
              go_wp2_with fail
              refine HA.out.mono ?_
              rintro e w4 ⟨rfl, r4, u4⟩
              have R4 := Lib.hid r4
              have U4 := Lib.hid (show Upd NoB w w4 from U3.out.trans u4 (fun k hk e => by have e : B ≤ k := e; have := HBw.out; exfalso; omega))
              clear r4 u4
              go_wp2_with fail
              go_roundw
              case rel => exact ⟨1, sumG 0 ys, by omega, by go_num, by rw [HSl.out]; exact HYl.out, HN2.out, R4.out, U4.out⟩
              case measure => simp [intOf]
          · have HW := Lib.hid (areWithin_any _ ys 16777216 wr (by decide) HI.out)
            cases hin : inM 16777216 ys with
            | false =>
              have HNo2 := Lib.hid (HNo.out (by rw [HYa.out, addK_step pw3, hin, if_neg (by decide)]))
              rw [hin] at HW
              clear hin
              go_wp2_with fail
              refine HW.out.mono ?_
              rintro e w3 ⟨rfl, u3⟩
              have U3 := Lib.hid (HU.out.then u3)
              clear u3
              go_wp2_with fail
              go_ret2
              rw [HNo2.out.1, HNo2.out.2]
              exact ⟨none, 0, 0, rfl, World.ownsRow_nil _ _ _ _, U3.out⟩
            | true =>
              have HN2 := Lib.hid (show addK n xs = addK 2 (sumG 0 ys) by rw [HYa.out, addK_step pw3, hin, if_pos rfl])
              have HB := Lib.hid (inM_mono (b := 67108864) (by decide) hin)
              have HSl := Lib.hid (sumG_len 0 ys)
              rw [hin] at HW
              clear hin
              go_wp2_with fail
              refine HW.out.mono ?_
              rintro e w3 ⟨rfl, u3⟩
              have U3 := Lib.hid (HU.out.then u3)
              have R3 := Lib.hid (u3.row HR.out (fun k _ => noB k))
              have HA := Lib.hid (by
                have := addUpR_any B (.slice va L vc) ys w3 (by rw [HYl.out]; exact R3.out) (by rw [HYl.out]; exact hl) HB.out
                rw [HYl.out] at this
                exact this)
              clear u3
              go_wp2_with fail
              refine HA.out.mono ?_
              rintro e w4 ⟨rfl, r4, u4⟩
              have R4 := Lib.hid r4
              have U4 := Lib.hid (show Upd NoB w w4 from U3.out.trans u4 (fun k hk e => by have e : B ≤ k := e; have := HBw.out; exfalso; omega))
              clear r4 u4
              go_wp2_with fail
              go_roundw
              case rel => exact ⟨2, sumG 0 ys, by omega, by go_num, by rw [HSl.out]; exact HYl.out, HN2.out, R4.out, U4.out⟩
              case measure => simp [intOf]
          · have HW := Lib.hid (areWithin_any _ ys 33554432 wr (by decide) HI.out)
            cases hin : inM 33554432 ys with
            | false =>
              have HNo2 := Lib.hid (HNo.out (by rw [HYa.out, addK_step pw4, hin, if_neg (by decide)]))
              rw [hin] at HW
              clear hin
              go_wp2_with fail
              refine HW.out.mono ?_
              rintro e w3 ⟨rfl, u3⟩
              have U3 := Lib.hid (HU.out.then u3)
              clear u3
              go_wp2_with fail
              go_ret2
              rw [HNo2.out.1, HNo2.out.2]
              exact ⟨none, 0, 0, rfl, World.ownsRow_nil _ _ _ _, U3.out⟩
            | true =>
              have HN2 := Lib.hid (show addK n xs = addK 3 (sumG 0 ys) by rw [HYa.out, addK_step pw4, hin, if_pos rfl])
              have HB := Lib.hid (inM_mono (b := 67108864) (by decide) hin)
              have HSl := Lib.hid (sumG_len 0 ys)
              rw [hin] at HW
              clear hin
              go_wp2_with fail
              refine HW.out.mono ?_
              rintro e w3 ⟨rfl, u3⟩
              have U3 := Lib.hid (HU.out.then u3)
              have R3 := Lib.hid (u3.row HR.out (fun k _ => noB k))
              have HA := Lib.hid (by
                have := addUpR_any B (.slice va L vc) ys w3 (by rw [HYl.out]; exact R3.out) (by rw [HYl.out]; exact hl) HB.out
                rw [HYl.out] at this
                exact this)
              clear u3
              go_wp2_with fail
              refine HA.out.mono ?_
              rintro e w4 ⟨rfl, r4, u4⟩
              have R4 := Lib.hid r4
              have U4 := Lib.hid (show Upd NoB w w4 from U3.out.trans u4 (fun k hk e => by have e : B ≤ k := e; have := HBw.out; exfalso; omega))
              clear r4 u4
              go_wp2_with fail
              go_roundw
              case rel => exact ⟨3, sumG 0 ys, by omega, by go_num, by rw [HSl.out]; exact HYl.out, HN2.out, R4.out, U4.out⟩
              case measure => simp [intOf]
    · have HE1 := Lib.hid (show adE xs k = ckE 67108864 xs by rw [HE.out, if_neg hE])
      have HS := Lib.hid (show adS xs k = [] from if_neg (by rw [HE1.out]; exact hE))
      rw [HS.out, HE1.out]
      have t3 : (ckE 67108864 xs != 0) = true := by rw [bne_iff_ne]; exact hE
      clear HE HE1 HS
      generalize ckE 67108864 xs = E at *
      generalize xs.length = L at *
      clear h hk hE
      go_enter Try.func36, Try.ntmps36
      go_wp2_with fail
      refine HC.out.mono ?_
      rintro e w1 ⟨rfl, u1⟩
      have U1 := Lib.hid u1
      clear u1
      go_wp2_with fail
      go_ret2
      exact ⟨none, 0, 0, rfl, World.ownsRow_nil _ _ _ _, U1.out⟩
set_option maxRecDepth 100000 in
set_option maxHeartbeats 4000000 in
theorem Trim_any (sv : Value) (xs : List Int) (w : World) (h : Ints w sv xs) : Calls Try.prog 42 #[sv] w (EInts w (tmS xs) (tmE xs)) := by
  have HC := Lib.hid (isFilter_any sv xs w h)
  have H := Lib.hid h
  have HE := Lib.hid (show tmE xs = if isF xs = true then 0 else 1 from rfl)
  have HS := Lib.hid (show tmS xs = if isF xs = true then xs.take (tmN xs xs.length) else [] from rfl)
  obtain ⟨a, cap, rfl⟩ := h.form
  have hcap : xs.length ≤ cap := by
    obtain ⟨_, a', c', e, ⟨hcc, _⟩, _⟩ := h
    injection e with _ _ e3
    omega
  cases hf : isF xs with
  | false =>
    rw [hf] at HE HS HC
    rw [if_neg (by decide)] at HE HS
    rw [HE.out, HS.out]
    generalize xs.length = L at *
    clear h hf
    go_enter Try.func42, Try.ntmps42
    go_wp2_with fail
    refine HC.out.mono ?_
    rintro e w1 ⟨rfl, u1⟩
    have U1 := Lib.hid u1
    clear u1
    go_wp2_with fail
    go_ret2
    exact ⟨none, 0, 0, rfl, World.ownsRow_nil _ _ _ _, U1.out⟩
  | true =>
    rw [hf] at HE HS HC
    rw [if_pos rfl] at HE HS
    have hl12 := (wt_bd hf).2.1
    rw [HE.out, HS.out]
    have HTk := Lib.hid (fun e (he : e ≤ xs.length) => (show (xs.take e).length = e by rw [List.length_take]; omega))
    have HZ := Lib.hid (fun e x (hx : xs[e]? = some x) => tmN_step xs e x hx)
    have HN0 := Lib.hid (show tmN xs 0 = 0 from rfl)
    obtain ⟨L, hL⟩ : ∃ L, xs.length = L := ⟨_, rfl⟩
    have HL := Lib.hid hL
    rw [hL] at H HC hcap hl12 HTk ⊢
    clear h hf hL
    go_enter Try.func42, Try.ntmps42
    go_wp2_with fail
    refine HC.out.mono ?_
    rintro e w1 ⟨rfl, u1⟩
    have U1 := Lib.hid u1; have H1 := Lib.hid (H.out.later u1)
    clear u1
    go_wp2_with fail
    go_loop [4] (fun i => ∃ e : Nat, e ≤ L ∧ i = .int .i64 (e : Int) ∧ tmN xs L = tmN xs e) (fun i => (intOf i).toNat)
    case atStart => exact ⟨L, Nat.le_refl _, rfl, rfl⟩
    case round =>
      obtain ⟨e, he, rfl, hte⟩ := hrel
      have HTe := Lib.hid hte
      by_cases he0 : e = 0
      · subst he0
        have hte' := hte
        rw [hte, HN0.out]
        have HI := Lib.hid (show Ints w1 (.slice a 0 cap) [] from by
          obtain ⟨_, a', c', e', ⟨hcc, hcn⟩, _⟩ := H1.out
          injection e' with e1 _ e3
          subst e1; subst e3
          exact ⟨Nat.zero_le _, a, cap, rfl, ⟨Nat.zero_le _, hcn⟩, .inl rfl⟩)
        have hsl := fun w => run_slice_pre w a L cap 0 (Nat.zero_le _)
        have HCl := Lib.hid (iclone_any _ [] w1 HI.out)
        have HT0 := Lib.hid (show xs.take 0 = [] from rfl)
        rw [HT0.out]
        clear hte he
        go_wp2_with fail
        refine HCl.out.mono ?_
        rintro e w2 ⟨v2, rfl, r2, u2⟩
        obtain ⟨va, vc, rfl⟩ := row_form r2
        have R2 := Lib.hid r2; have U2 := Lib.hid (U1.out.then u2)
        clear r2 u2
        go_wp2_with fail
        go_ret2
        exact ⟨_, _, _, rfl, by rw [hte', HN0.out, HT0.out]; exact row_base R2.out U1.out.size, U2.out⟩
      · obtain ⟨k, hk⟩ : ∃ k, e = k + 1 := ⟨e - 1, by omega⟩
        have hw1 : wrap64 ((e : Int) - 1) = (k : Int) := by rw [IntWalk.wrap64_in _ (by omega)]; omega
        have hw2 : IntKind.i64.wrap ((e : Int) - 1) = (k : Int) := by rw [IntWalk.i64_in _ (by omega)]; omega
        obtain ⟨x, hx⟩ : ∃ x, xs[k]? = some x := ⟨_, List.getElem?_eq_getElem (by rw [HL.out]; omega)⟩
        obtain ⟨bb, off, hae, c0⟩ := H1.out.cellAt hx
        have he1 : 0 < e := by omega
        have he1i : (0 : Int) < (e : Int) := by omega
        have hki : (k : Int) < (L : Int) := by omega
        have hkL : k < L := by omega
        have HKe := Lib.hid hk
        have hzs := HZ.out k x hx
        by_cases hx0 : x = 0
        · have HNx := Lib.hid (show tmN xs L = tmN xs k by rw [hte, hk, hzs, if_pos hx0])
          have g1 : (x == 0) = true := by rw [beq_iff_eq]; exact hx0
          have g2 : decide (x = 0) = true := decide_eq_true hx0
          subst hae
          subst hx0
          clear hte hx hk hzs
          go_wp2_with fail
          go_round
          case rel => exact ⟨k, by omega, by go_num, HNx.out⟩
          case measure => have := HKe.out; simp [intOf]; omega
        · have HNx := Lib.hid (show tmN xs L = e by rw [hte, hk, hzs, if_neg hx0])
          have g1 : (x == 0) = false := by rw [beq_eq_false_iff_ne]; exact hx0
          have g2 : decide (x = 0) = false := decide_eq_false hx0
          rw [HNx.out]
          have hsl := fun w => run_slice_pre w a L cap e (by omega)
          have HI := Lib.hid (show Ints w1 (.slice a e cap) (xs.take e) from by
            have h1 := Ints.pre H1.out e (by rw [HL.out]; exact he)
            rw [HTk.out e he] at h1
            exact h1)
          have HCl := Lib.hid (iclone_any _ (xs.take e) w1 HI.out)
          subst hae
          clear hte hx hk hzs hx0
          go_wp2_with fail
          refine HCl.out.mono ?_
          rintro e' w2 ⟨v2, rfl, r2, u2⟩
          rw [HTk.out e he] at r2
          obtain ⟨va, vc, rfl⟩ := row_form r2
          have R2 := Lib.hid r2; have U2 := Lib.hid (U1.out.then u2)
          clear r2 u2
          go_wp2_with fail
          go_ret2
          exact ⟨_, _, _, rfl, by rw [HNx.out, HTk.out e he]; exact row_base R2.out U1.out.size, U2.out⟩
end Go.Proofs.Ytopjjdfnnjgnlaa
