/- the law of lists of one's own -/
import Derived.Test.YtpmhioaoniijbaaDoorJM
import Derived.Test.YtpmhioaoniijbaaDoorJZ
namespace Go.Proofs.YtpmhioaoniijbaaDoor
open Go.RowKit Go.Shelf

theorem qints_self (sa sb : Value) (xs : List Int) (w : World) (ha : Ints w sa xs) (hb : Ints w sb xs) : Calls Tryd.prog 32 #[sa, sb] w fun e w' => e = .returned (.bool true) ∧ Upd NoB w w' := by
  have h := qints_any _ _ xs xs w ha hb
  rw [intsB_self] at h
  exact h.mono fun e w' ⟨he, n, hn⟩ => ⟨he, by subst hn; exact upd_drewN (Upd.refl _ _) n⟩
/-- A row of the call's own: what a store into it leaves. -/
theorem row_store {w : World} {base : Nat} {v : Value} {n : Nat} {xs : List Value} (h : w.ownsRow base 3 1 v n xs) {k : Nat} (hk : k < n) (u : Value) :
    ∃ g cap, v = .slice (some ⟨g, 0, none⟩) n cap ∧ (∃ old, w.cell? ⟨g, k, none⟩ = some old) ∧ w.frozen? ⟨g, k, none⟩ = false ∧ (w.setCell ⟨g, k, none⟩ u).ownsRow base 3 1 v n (xs.set k u) ∧ base ≤ g := by
  obtain ⟨g, cap, rfl⟩ := row_slice h (by omega)
  have hl := h.1
  obtain ⟨x, hx⟩ : ∃ x, xs[k]? = some x := ⟨_, List.getElem?_eq_getElem (by omega)⟩
  exact ⟨g, cap, rfl, ⟨x, by rw [h.cellAt _ (by omega), hx]⟩, h.frozenAt k, (h.stored k u).1, (h.lt g rfl).1⟩
set_option maxRecDepth 100000 in
set_option maxHeartbeats 2000000 in
theorem own_law (xv tv : Value) (xs : List Int) (ts : List Tn) (w : World) (hx : Ints w xv xs) (ht : Tns w tv ts) (hp : Parts w) :
    Calls Tryd.prog 10 #[xv, tv] w fun e w' => e = .returned (.bool true) ∧ Upd NoB w w' := by
  obtain ⟨xa, xcap, rfl⟩ := hx.form
  obtain ⟨ta, tcap, rfl⟩ := ht.form
  have P0 := Lib.hid hp; have HX := Lib.hid hx; have HT := Lib.hid ht
  have lx := hx.1
  have lt := ht.1
  have hw0 := hp.lt
  clear hx ht hp
  obtain ⟨L, hL⟩ : ∃ L, xs.length = L := ⟨_, rfl⟩
  obtain ⟨K, hK⟩ : ∃ K, ts.length = K := ⟨_, rfl⟩
  rw [hL] at lx HX ⊢
  rw [hK] at lt HT ⊢
  have HL := Lib.hid hL; have HK := Lib.hid hK
  clear hL hK
  by_cases h1 : 60 < L
  · have t1 : decide (60 < (L : Int)) = true := decide_eq_true (by omega)
    go_enter Tryd.func10, Tryd.ntmps10
    go_wp2_with fail
    (with_reducible refine (jawake_any _ P0.out).mono ?_)
    rintro e w1 ⟨rfl, u1⟩
    have U1 := Lib.hid u1; clear u1
    go_wp2
    go_ret
    exact ⟨rfl, U1.out⟩
  have t1 : decide (60 < (L : Int)) = false := decide_eq_false (by omega)
  by_cases h2 : 60 < K
  · have t2 : decide (60 < (K : Int)) = true := decide_eq_true (by omega)
    go_enter Tryd.func10, Tryd.ntmps10
    go_wp2_with fail
    (with_reducible refine (jawake_any _ P0.out).mono ?_)
    rintro e w1 ⟨rfl, u1⟩
    have U1 := Lib.hid u1; clear u1
    go_wp2
    go_ret
    exact ⟨rfl, U1.out⟩
  have t2 : decide (60 < (K : Int)) = false := decide_eq_false (by omega)
  go_enter Tryd.func10, Tryd.ntmps10
  go_wp2_with (at_builtin; refine wpList_copyI rfl _ _ rfl _ xs rfl rfl HX.out ?_)
  intro v0 w1 r0 u0
  rw [HL.out] at r0
  obtain ⟨a0, c0, rfl⟩ := row_form r0
  have b0 := r0.lt
  have s1 := u0.size
  have R0 := Lib.hid r0; have U0 := Lib.hid u0
  have I0 : Ints w1 (.slice a0 L c0) xs := Ints.ofRow (by rw [HL.out]; exact r0) (by rw [HL.out]; omega)
  have hA := apply_any _ _ xs ts w1 I0 (HT.out.later u0) (P0.out.upd u0 (noB 0)) (fun _ => ⟨by rw [HL.out]; omega, by rw [HK.out]; omega⟩)
  have HA := Lib.hid hA; have HI0 := Lib.hid I0
  clear r0 u0 hA I0
  go_wp2_with fail
  (with_reducible refine HA.out.mono ?_)
  rintro e w2 ⟨av, rfl, ra, ua⟩
  have la : (appV xs ts).length ≤ 60 := by
    unfold appV
    split
    · have : ∀ (l : List Tn) (ys : List Int), (allT forthF l ys).length = ys.length := fun l => by
        induction l with
        | nil => intro ys; rfl
        | cons t l ih => intro ys; have := ih (stepL forthF t.sp ys); rw [stepL_length] at this; exact this
      rw [this, HL.out]; omega
    · simp
  have lb : (undV xs ts).length ≤ 60 := by
    unfold undV
    split
    · have : ∀ (l : List Tn) (ys : List Int), (allT backF l ys).length = ys.length := fun l => by
        induction l with
        | nil => intro ys; rfl
        | cons t l ih => intro ys; have := ih (stepL backF t.sp ys); rw [stepL_length] at this; exact this
      rw [this, HL.out]; omega
    · simp
  have HU := Lib.hid (undo_any _ _ xs ts w2 (HI0.out.later ua) ((HT.out.later U0.out).later ua) ((P0.out.upd U0.out (noB 0)).upd ua (noB 0)) (fun _ => ⟨by rw [HL.out]; omega, by rw [HK.out]; omega⟩))
  obtain ⟨LA, hLA⟩ : ∃ LA, (appV xs ts).length = LA := ⟨_, rfl⟩
  have HLA := Lib.hid hLA
  rw [hLA] at ra la
  obtain ⟨aa, ac, rfl⟩ := row_form ra
  have ba := ra.lt
  have s2 := ua.size
  have RA := Lib.hid ra; have UA := Lib.hid ua
  clear ra ua hLA HA
  go_wp2_with fail
  (with_reducible refine HU.out.mono ?_)
  rintro e w3 ⟨bv, rfl, rb, ub⟩
  obtain ⟨LB, hLB⟩ : ∃ LB, (undV xs ts).length = LB := ⟨_, rfl⟩
  have HLB := Lib.hid hLB
  rw [hLB] at rb lb
  obtain ⟨ba', bc, rfl⟩ := row_form rb
  have bb := rb.lt
  have s3 := ub.size
  have RB := Lib.hid rb; have UB := Lib.hid ub
  clear rb ub hLB HU
  have HQ := Lib.hid (qints_self _ _ xs w3 ((HI0.out.later UA.out).later UB.out) (((HX.out.later U0.out).later UA.out).later UB.out))
  go_wp2_with fail
  (with_reducible refine HQ.out.mono ?_)
  rintro e w4 ⟨rfl, u4⟩
  have U4 := Lib.hid u4
  have s4 := u4.size
  have IA4 := Lib.hid (show Ints w4 (.slice aa LA ac) (appV xs ts) from ((Ints.ofRow (by rw [HLA.out]; exact RA.out) (by rw [HLA.out]; omega)).later UB.out).later u4)
  have IB4 := Lib.hid (show Ints w4 (.slice ba' LB bc) (undV xs ts) from (Ints.ofRow (by rw [HLB.out]; exact RB.out) (by rw [HLB.out]; omega)).later u4)
  clear u4 HQ
  go_wp2_with (at_builtin; refine wpList_copyI rfl _ _ rfl _ (appV xs ts) rfl rfl IA4.out ?_)
  intro cv w5 rc uc
  have s5 := uc.size
  have RC := Lib.hid rc; have UC := Lib.hid uc
  have IB5 := Lib.hid (IB4.out.later uc)
  clear rc uc
  go_wp2_with (at_builtin; refine wpList_copyI rfl _ _ rfl _ (undV xs ts) rfl rfl IB5.out ?_)
  intro dv w6 rd ud
  have s6 := ud.size
  have IC := Lib.hid (show Ints w6 cv (appV xs ts) from (Ints.ofRow RC.out (by rw [HLA.out]; omega)).later ud)
  have ID := Lib.hid (show Ints w6 dv (undV xs ts) from Ints.ofRow rd (by rw [HLB.out]; omega))
  have bC := RC.out.lt
  have bD := rd.lt
  have IA := Lib.hid ((IA4.out.later UC.out).later ud)
  have IB := Lib.hid (IB5.out.later ud)
  have U06 := Lib.hid (((((U0.out.then UA.out).then UB.out).then U4.out).then UC.out).then ud)
  have R06 := Lib.hid (((((R0.out |> fun r => UA.out.row r (fun k _ => noB k)) |> fun r => UB.out.row r (fun k _ => noB k)) |> fun r => U4.out.row r (fun k _ => noB k)) |> fun r => UC.out.row r (fun k _ => noB k)) |> fun r => ud.row r (fun k _ => noB k))
  have RA6 := Lib.hid ((((RA.out |> fun r => UB.out.row r (fun k _ => noB k)) |> fun r => U4.out.row r (fun k _ => noB k)) |> fun r => UC.out.row r (fun k _ => noB k)) |> fun r => ud.row r (fun k _ => noB k))
  clear rd ud
  go_wp2_with fail
  go_loopw [50] (fun iv wr => ∃ (k : Nat) (zs : List Value), iv = .int .i64 k ∧ k ≤ L ∧ wr.ownsRow w.heap.size 3 1 (.slice a0 L c0) L zs ∧ Upd (fun j => (Value.slice a0 L c0).ownBlock = some j) w6 wr) (fun iv _ => L - (intOf iv).toNat)
  case atStart => exact ⟨0, _, rfl, Nat.zero_le _, R06.out, Upd.refl _ _⟩
  case round =>
    obtain ⟨k, zs, rfl, hk, hr, hu⟩ := hrel
    obtain ⟨wo, rfl⟩ : ∃ wo : World, wo = wr := ⟨_, rfl⟩
    have Hu := Lib.hid hu; clear hu
    by_cases hlt : k < L
    · obtain ⟨g, cap, e, ⟨old, q0⟩, q1, q2, q3⟩ := row_store hr hlt (.int .i64 9)
      injection e with e1 e2 e3
      subst e1 e3
      have Q2 := Lib.hid q2
      have z1 : (k : Int) < (L : Int) := by omega
      clear q2 hr
      go_wp2
      go_roundw
      case rel => exact ⟨k + 1, _, by go_num, by omega, Q2.out, Hu.out.setCell _ (fun _ => rfl)⟩
      case measure => simp [intOf]; omega
    · have w7U := Lib.hid Hu.out
      have IA7 := Lib.hid (IA.out.upd Hu.out (fun _ j hj h => by have := (b0 j h).2; have := (ba j hj).1; omega))
      have IB7 := Lib.hid (IB.out.upd Hu.out (fun _ j hj h => by have := (b0 j h).2; have := (bb j hj).1; omega))
      have IC7 := Lib.hid (IC.out.upd Hu.out (fun _ j hj h => by have := (b0 j h).2; have := (bC j hj).1; omega))
      have ID7 := Lib.hid (ID.out.upd Hu.out (fun _ j hj h => by have := (b0 j h).2; have := (bD j hj).1; omega))
      have RA7 := Lib.hid (Hu.out.row RA6.out (fun j hj h => by have := (b0 j h).2; have := (ba j hj).1; omega))
      have HQ1 := Lib.hid (qints_self _ _ _ wo IA7.out IC7.out)
      clear hr
      obtain rfl : k = L := by omega
      clear hlt
      have UT7 := Lib.hid (Upd.trans (S := fun j => w.heap.size ≤ j) (U06.out.mono (T := fun j => w.heap.size ≤ j) (fun _ _ h => h.elim)) w7U.out (fun j _ h => (b0 j h).1))
      clear w7U
      go_wp2_with fail
      (with_reducible refine HQ1.out.mono ?_)
      rintro e w8 ⟨rfl, u8⟩
      have HQ2 := Lib.hid (qints_self _ _ _ w8 (IB7.out.later u8) (ID7.out.later u8))
      have U8 := Lib.hid u8; clear u8
      go_wp2_with fail
      (with_reducible refine HQ2.out.mono ?_)
      rintro e w9 ⟨rfl, u9⟩
      have IB9 := Lib.hid ((IB7.out.later U8.out).later u9)
      have ID9 := Lib.hid ((ID7.out.later U8.out).later u9)
      have RA9 := Lib.hid ((RA7.out |> fun r => U8.out.row r (fun k _ => noB k)) |> fun r => u9.row r (fun k _ => noB k))
      have UT9 := Lib.hid (Upd.then (Upd.then UT7.out U8.out) u9)
      clear u9 HQ1 HQ2
      go_wp2_with fail
      go_loopw [69] (fun iv wr => ∃ (k : Nat) (zs : List Value), iv = .int .i64 k ∧ k ≤ LA ∧ wr.ownsRow w1.heap.size 3 1 (.slice aa LA ac) LA zs ∧ Upd (fun j => (Value.slice aa LA ac).ownBlock = some j) w9 wr) (fun iv _ => LA - (intOf iv).toNat)
      case atStart => exact ⟨0, _, rfl, Nat.zero_le _, RA9.out, Upd.refl _ _⟩
      case round =>
        obtain ⟨k2, zs2, rfl, hk2, hr2, hu2⟩ := hrel
        obtain ⟨wp, rfl⟩ : ∃ wp : World, wp = wr := ⟨_, rfl⟩
        have Hu2 := Lib.hid hu2; clear hu2
        by_cases hlt2 : k2 < LA
        · obtain ⟨g, cap, e, ⟨old, q0⟩, q1, q2, q3⟩ := row_store hr2 hlt2 (.int .i64 8)
          injection e with e1 e2 e3
          subst e1 e3
          have Q2 := Lib.hid q2
          have z1 : (k2 : Int) < (LA : Int) := by omega
          clear q2 hr2
          go_wp2
          go_roundw
          case rel => exact ⟨k2 + 1, _, by go_num, by omega, Q2.out, Hu2.out.setCell _ (fun _ => rfl)⟩
          case measure => simp [intOf]; omega
        · have IB10 := Lib.hid (IB9.out.upd Hu2.out (fun _ j hj h => by have := (ba j h).2; have := (bb j hj).1; omega))
          have ID10 := Lib.hid (ID9.out.upd Hu2.out (fun _ j hj h => by have := (ba j h).2; have := (bD j hj).1; omega))
          have UT10 := Lib.hid (Upd.trans UT9.out Hu2.out (fun j _ h => by have := (ba j h).1; omega))
          have HQ3 := Lib.hid (qints_self _ _ _ wp IB10.out ID10.out)
          clear hr2
          obtain rfl : k2 = LA := by omega
          clear hlt2
          go_wp2_with fail
          (with_reducible refine HQ3.out.mono ?_)
          rintro e w11 ⟨rfl, u11⟩
          have UT11 := Lib.hid (Upd.then UT10.out u11)
          clear u11 HQ3
          go_wp2_with fail
          (with_reducible refine (jawake_any _ (P0.out.upd UT11.out (by omega))).mono ?_)
          rintro e w12 ⟨rfl, u12⟩
          have UT12 := Lib.hid (Upd.then UT11.out u12)
          clear u12
          go_wp2
          go_ret
          exact ⟨rfl, UT12.out.mono (fun j hj h => by omega)⟩
end Go.Proofs.YtpmhioaoniijbaaDoor
