/- energy: the law Sums -/
import Derived.Test.YtgdndcbcdoogpaaDoorOV
namespace Go.Proofs.YtgdndcbcdoogpaaDoor
open Go.RowKit Go.Shelf

set_option maxRecDepth 100000 in
set_option maxHeartbeats 2000000 in
theorem lsum_any (sv : Value) (xs : List Int) (w : World) (h : Ints w sv xs) (hb : ∀ (j : Nat) (x : Int), xs[j]? = some x → 0 ≤ x ∧ x ≤ 1319413953331200) (hl : xs.length ≤ 300) :
    Calls Tryd.prog 49 #[sv] w fun r w' => r = .returned (.int .i64 xs.sum) ∧ w = w' := by
  obtain ⟨a, cap, rfl⟩ := h.form
  have H := Lib.hid h; have HC := Lib.hid hb
  have HB := Lib.hid (fun k => fsum_bd (f := fun v => v) hb k)
  have HE := Lib.hid (show ((xs.take xs.length).map fun v => v).sum = xs.sum by rw [List.take_length]; simp)
  obtain ⟨L, hL⟩ : ∃ L, xs.length = L := ⟨_, rfl⟩
  have HL := Lib.hid hL
  rw [hL] at H hl HE HB ⊢
  clear h hL hb
  go_enter Tryd.func49, Tryd.ntmps49
  go_wp2_with fail
  go_loop [3, 8] (fun s i => ∃ k : Nat, k ≤ L ∧ i = .int .i64 k ∧ s = .int .i64 ((xs.take k).map fun v => v).sum) (fun _ i => L - (intOf i).toNat)
  case atStart => exact ⟨0, Nat.zero_le _, rfl, rfl⟩
  case round =>
    obtain ⟨k, hk, rfl, rfl⟩ := hrel
    by_cases hlt : k < L
    · obtain ⟨x, hx⟩ : ∃ x, xs[k]? = some x := ⟨_, List.getElem?_eq_getElem (by rw [HL.out]; exact hlt)⟩
      obtain ⟨bb, off, rfl, c0⟩ := H.out.cellAt hx
      obtain ⟨q0, q1⟩ := HC.out k x hx
      have HSu := Lib.hid (fmap_take (f := fun v => v) hx)
      obtain ⟨s0, s1⟩ := HB.out k
      have hs2 : ((xs.take k).map fun v => v).sum ≤ 1319413953331200 * 300 := by
        have : ((min k L : Nat) : Int) ≤ 300 := by omega
        omega
      generalize ((xs.take k).map fun v => v).sum = S at *
      clear hx s1
      go_wp2_with fail
      go_round
      case rel => exact ⟨k + 1, by omega, by go_num, by rw [HSu.out]⟩
      case measure => simp [intOf]; omega
    · obtain rfl : k = L := by omega
      rw [HE.out]
      clear hlt
      go_wp2_with fail
      go_ret
      exact ⟨rfl, rfl⟩
def fewB (c gs : List Int) : Bool := decide (c.length ≤ 300) && decide (gs.length ≤ 100)
set_option maxRecDepth 100000 in
theorem few_any (cv v : Value) (c gs : List Int) (w : World) (hc : Ints w cv c) (h : Ints w v gs) : Calls Tryd.prog 35 #[cv, v] w fun e w' => e = .returned (.bool (fewB c gs)) ∧ w = w' := by
  obtain ⟨a, cap, rfl⟩ := hc.form
  obtain ⟨a2, cap2, rfl⟩ := h.form
  have HF := Lib.hid (show fewB c gs = (decide (c.length ≤ 300) && decide (gs.length ≤ 100)) from rfl)
  have hl := hc.1
  have hl2 := h.1
  generalize fewB c gs = z at *
  generalize c.length = n at *
  generalize gs.length = m at *
  clear hc h
  by_cases h1 : n ≤ 300
  · have t1 : decide (n ≤ 300) = true := decide_eq_true h1
    by_cases h2 : m ≤ 100
    · have t2 : decide (m ≤ 100) = true := decide_eq_true h2
      have t1i : decide ((n : Int) ≤ 300) = true := decide_eq_true (by omega)
      have t2i : decide ((m : Int) ≤ 100) = true := decide_eq_true (by omega)
      rw [t1, t2] at HF
      clear h1 h2
      go_enter Tryd.func35, Tryd.ntmps35
      go_wp2_with fail
      go_ret
      exact ⟨by rw [HF.out]; rfl, rfl⟩
    · have t2 : decide (m ≤ 100) = false := decide_eq_false h2
      have t1i : decide ((n : Int) ≤ 300) = true := decide_eq_true (by omega)
      have t2i : decide ((m : Int) ≤ 100) = false := decide_eq_false (by omega)
      rw [t1, t2] at HF
      clear h1 h2
      go_enter Tryd.func35, Tryd.ntmps35
      go_wp2_with fail
      go_ret
      exact ⟨by rw [HF.out]; rfl, rfl⟩
  · have t1 : decide (n ≤ 300) = false := decide_eq_false h1
    have t1i : decide ((n : Int) ≤ 300) = false := decide_eq_false (by omega)
    rw [t1] at HF
    clear h1
    go_enter Tryd.func35, Tryd.ntmps35
    go_wp2_with fail
    go_ret
    exact ⟨by rw [HF.out]; rfl, rfl⟩
theorem few_ok {c gs : List Int} (h : fewB c gs = true) : c.length ≤ 300 ∧ gs.length ≤ 100 := by
  unfold fewB at h
  rw [Bool.and_eq_true, decide_eq_true_eq, decide_eq_true_eq] at h
  exact h
theorem sqs_one {ps : List (List Int)} (h : ∀ (k : Nat) (xs : List Int), ps[k]? = some xs → CoB xs ∧ 0 < xs.length ∧ xs.length ≤ 300) : ∀ (j : Nat) (x : Int), (ps.map sqs)[j]? = some x → 0 ≤ x ∧ x ≤ 1319413953331200 := by
  intro j x hj
  rw [List.getElem?_map] at hj
  cases e : ps[j]? with
  | none => rw [e] at hj; cases hj
  | some xs =>
    rw [e] at hj
    injection hj with hj
    subst hj
    obtain ⟨h1, _, h3⟩ := h j xs e
    exact sqs_bd h1 h3
theorem en_sum {c : List Int} {s : Bool} {gs : List Int} (h : spE c s gs = 0) : (∀ (j : Nat) (x : Int), (enS c s gs)[j]? = some x → 0 ≤ x ∧ x ≤ 1319413953331200) ∧ (enS c s gs).length ≤ 100 ∧ (enS c s gs).sum = sqs c ∧ ttS c s gs = sqs c := by
  obtain ⟨hd, hn, hco⟩ := spE_ok h
  have e : enS c s gs = (cutL c s gs).map sqs := if_pos h
  have e2 : ttS c s gs = ((cutL c s gs).map sqs).sum := if_pos h
  rw [e, e2, cut_sum h]
  exact ⟨sqs_one (fun k xs hx => cutL_ok hd hco hx), by rw [List.length_map]; exact (cutL_len hd).1, rfl, rfl⟩
theorem bl_sum {c : List Int} (h : blE c = 0) : (∀ (j : Nat) (x : Int), (blS c)[j]? = some x → 0 ≤ x ∧ x ≤ 1319413953331200) ∧ (blS c).length = 8 ∧ (blS c).sum = sqs c := by
  obtain ⟨hn, hco⟩ := blE_ok h
  have e : blS c = (bkL c).map sqs := if_pos h
  rw [e, bk_sum hn]
  exact ⟨sqs_one (fun k xs hx => bkL_ok hn hco hx), by rw [List.length_map]; unfold bkL; simp, rfl⟩
theorem spE_of {c : List Int} {s : Bool} {gs : List Int} (h : blE c = 0) (hd : isD s gs = true) : spE c s gs = 0 := by
  obtain ⟨hn, hco⟩ := blE_ok h
  unfold spE
  have hf : dfE c.length s gs = 0 := by unfold dfE; rw [if_pos hd, hn]; decide
  rw [if_pos hf, if_pos]
  exact inB_all hco
set_option maxRecDepth 100000 in
set_option maxHeartbeats 8000000 in
theorem sums_law (cv v : Value) (c gs : List Int) (w : World) (hc : Ints w cv c) (h : Ints w v gs) (hg : Gv w) : Calls Tryd.prog 12 #[cv, v] w fun e w' => e = .returned (.bool true) ∧ Upd NoB w w' := by
  have HG := Lib.hid hg; have HC := Lib.hid hc; have HV := Lib.hid h
  have HF := Lib.hid (few_any cv v c gs w hc h)
  have HBk := Lib.hid (Blocks_any cv c w hc)
  obtain ⟨ca, cc, rfl⟩ := hc.form
  obtain ⟨va, vc, rfl⟩ := h.form
  cases hf : fewB c gs with
  | false =>
    rw [hf] at HF
    generalize c.length = cn at *
    generalize gs.length = gn at *
    clear hc h hg hf
    go_enter Tryd.func12, Tryd.ntmps12
    go_wp2_with fail
    refine HF.out.mono ?_
    rintro e w1 ⟨rfl, rfl⟩
    go_wp2_with fail
    refine (awake_en _ HG.out).mono ?_
    rintro e w2 ⟨rfl, u2⟩
    have U2 := Lib.hid u2
    clear u2
    go_wp2_with fail
    go_ret
    exact ⟨rfl, U2.out⟩
  | true =>
    rw [hf] at HF
    have hgl := (few_ok hf).2
    by_cases hE : blE c = 0
    · obtain ⟨hn, hco⟩ := blE_ok hE
      have HBS := Lib.hid (bl_sum hE)
      have HSp := Lib.hid (fun s gs hd => spE_of (s := s) (gs := gs) hE hd)
      have HSq := Lib.hid (sqs_bd hco (by omega))
      have HEn := Lib.hid (fun s gs hd => en_sum (spE_of (s := s) (gs := gs) hE hd))
      have HBd := Lib.hid (fun k => fsum_bd (f := fun v => v * v) (fun j x hj => sq_co (hco j x hj)) k)
      have HTk := Lib.hid (show ((c.take 128).map fun v => v * v).sum = sqs c by rw [List.take_of_length_le (by omega)]; rfl)
      have HCo := Lib.hid hco
      have HL := Lib.hid hn
      rw [hE] at HBk
      rw [hn] at HF HBk HC HBd ⊢
      generalize gs.length = gn at *
      clear hc h hg hf hE hn hco
      go_enter Tryd.func12, Tryd.ntmps12
      go_wp2_with fail
      refine HF.out.mono ?_
      rintro e w1 ⟨rfl, rfl⟩
      go_wp2_with fail
      refine HBk.out.mono ?_
      rintro e w1 ⟨a1, n1, c1, rfl, r1, u1⟩
      obtain ⟨hb1, hb2, hb3⟩ := HBS.out
      obtain rfl := (by have := row_form r1; obtain ⟨_, _, e⟩ := this; injection e with _ e _; rw [e, hb2] : n1 = 8)
      have IB := Lib.hid (by have := Ints.ofRow (xs := blS c) (by rw [hb2] at r1 ⊢; exact r1) (by rw [hb2]; decide); exact this : Ints w1 (.slice a1 8 c1) (blS c))
      have U1 := Lib.hid u1; have HC1 := Lib.hid (HC.out.later u1)
      clear r1 u1 hb1 hb2 hb3
      go_wp2_with fail
      go_loop [7, 33] (fun s i => ∃ k : Nat, k ≤ 128 ∧ i = .int .i64 k ∧ s = .int .i64 ((c.take k).map fun v => v * v).sum) (fun _ i => 128 - (intOf i).toNat)
      case atStart => exact ⟨0, Nat.zero_le _, rfl, rfl⟩
      case round =>
        obtain ⟨k, hk, rfl, rfl⟩ := hrel
        by_cases hlt : k < 128
        · obtain ⟨x, hx⟩ : ∃ x, c[k]? = some x := ⟨_, List.getElem?_eq_getElem (by rw [HL.out]; exact hlt)⟩
          obtain ⟨bb, off, rfl, c0⟩ := HC1.out.cellAt hx
          obtain ⟨q0, q1⟩ := sq_co (HCo.out k x hx)
          have HSu := Lib.hid (fmap_take (f := fun v => v * v) hx)
          obtain ⟨s0, s1⟩ := HBd.out k
          have hs2 : ((c.take k).map fun v => v * v).sum ≤ 4398046511104 * 300 := by
            have : ((min k 128 : Nat) : Int) ≤ 300 := by omega
            omega
          generalize ((c.take k).map fun v => v * v).sum = S at *
          obtain ⟨q, hq⟩ : ∃ q, x * x = q := ⟨_, rfl⟩
          rw [hq] at q0 q1 HSu
          have hw1 : wrap64 (x * x) = q := by rw [hq]; exact IntWalk.wrap64_in _ (by omega)
          have hw2 : IntKind.i64.wrap (x * x) = q := by rw [hq]; exact IntWalk.i64_in _ (by omega)
          clear hx s1 hq
          go_wp2_with fail
          go_round
          case rel => exact ⟨k + 1, by omega, by go_num, by rw [HSu.out]⟩
          case measure => simp [intOf]; omega
        · obtain rfl : k = 128 := by omega
          rw [HTk.out]
          have HD0 := Lib.hid (show isD false [] = true from rfl)
          obtain ⟨S, hS⟩ : ∃ S, sqs c = S := ⟨_, rfl⟩
          rw [hS] at HBS HSq HEn ⊢
          obtain ⟨sl, sh⟩ := HSq.out
          have hne : (S != S) = false := by simp
          clear hlt hS
          go_wp2_with fail
          refine (Energies_any _ c false _ [] w1 HC1.out (Ints.nil w1) (HG.out.later U1.out)).mono ?_
          obtain ⟨e1, e2, e3, e4⟩ := HEn.out false [] HD0.out
          rw [HSp.out false [] HD0.out]
          rintro e w2 ⟨a2, n2, c2, rfl, r2, u2⟩
          obtain rfl := (by have := row_form r2; obtain ⟨_, _, e⟩ := this; injection e : n2 = (enS c false []).length)
          have IE := Lib.hid (Ints.ofRow (xs := enS c false []) r2 (by omega))
          have HSumE := Lib.hid (fun w' (u : Upd NoB w2 w') => lsum_any _ _ w' (IE.out.later u) e1 (by omega))
          rw [e3] at HSumE
          have U2 := Lib.hid (U1.out.then u2); have HC2 := Lib.hid (HC1.out.later u2); have IB2 := Lib.hid (IB.out.later u2)
          have HT4 := Lib.hid e4
          generalize (enS c false []).length = n2 at *
          clear r2 u2 e1 e2 e3 e4
          go_wp2_with fail
          refine (Total_any _ c false _ [] w2 HC2.out (Ints.nil w2) (HG.out.later U2.out)).mono ?_
          rw [HSp.out false [] HD0.out, HT4.out]
          rintro e w3 ⟨rfl, u3⟩
          have U3 := Lib.hid (U2.out.then u3); have HC3 := Lib.hid (HC2.out.later u3)
          have HSumB := Lib.hid (lsum_any _ _ w3 (IB2.out.later u3) HBS.out.1 (by rw [HBS.out.2.1]; decide))
          rw [HBS.out.2.2] at HSumB
          have HSumE3 := Lib.hid (HSumE.out w3 u3)
          clear u3
          go_wp2_with fail
          refine HSumE3.out.mono ?_
          rintro e w4 ⟨rfl, rfl⟩
          go_wp2_with fail
          refine HSumB.out.mono ?_
          rintro e w4 ⟨rfl, rfl⟩
          go_wp2_with fail
          refine (rIs_any true _ gs _ (HV.out.later U3.out)).mono ?_
          rintro e w4 ⟨rfl, rfl⟩
          cases hd : isD true gs with
          | false =>
            clear hd
            go_wp2_with fail
            refine (awake_en _ (HG.out.later U3.out)).mono ?_
            rintro e w5 ⟨rfl, u5⟩
            have U5 := Lib.hid (U3.out.then u5)
            clear u5
            go_wp2_with fail
            go_ret
            exact ⟨rfl, U5.out⟩
          | true =>
            have HD := Lib.hid hd
            clear hd
            go_wp2_with fail
            refine (Energies_any _ c true _ gs _ HC3.out (HV.out.later U3.out) (HG.out.later U3.out)).mono ?_
            obtain ⟨e1, e2, e3, e4⟩ := HEn.out true gs HD.out
            rw [HSp.out true gs HD.out]
            rintro e w5 ⟨a5, n5, c5, rfl, r5, u5⟩
            obtain rfl := (by have := row_form r5; obtain ⟨_, _, e⟩ := this; injection e : n5 = (enS c true gs).length)
            have IE5 := Lib.hid (Ints.ofRow (xs := enS c true gs) r5 (by omega))
            have HSum5 := Lib.hid (fun w' (u : Upd NoB w5 w') => lsum_any _ _ w' (IE5.out.later u) e1 (by omega))
            rw [e3] at HSum5
            have U5 := Lib.hid (U3.out.then u5); have HC5 := Lib.hid (HC3.out.later u5)
            have HT6 := Lib.hid e4
            generalize (enS c true gs).length = n5 at *
            clear r5 u5 e1 e2 e3 e4
            go_wp2_with fail
            refine (Total_any _ c true _ gs w5 HC5.out (HV.out.later U5.out) (HG.out.later U5.out)).mono ?_
            rw [HSp.out true gs HD.out, HT6.out]
            rintro e w6 ⟨rfl, u6⟩
            have U6 := Lib.hid (U5.out.then u6)
            have HSum6 := Lib.hid (HSum5.out w6 u6)
            clear u6
            go_wp2_with fail
            refine HSum6.out.mono ?_
            rintro e w7 ⟨rfl, rfl⟩
            go_wp2_with fail
            refine (awake_en _ (HG.out.later U6.out)).mono ?_
            rintro e w8 ⟨rfl, u8⟩
            have U8 := Lib.hid (U6.out.then u8)
            clear u8
            go_wp2_with fail
            go_ret
            exact ⟨rfl, U8.out⟩
    · have t1 : (blE c != 0) = true := by rw [bne_iff_ne]; exact hE
      generalize blE c = E at *
      generalize blS c = bs at *
      generalize c.length = cn at *
      generalize gs.length = gn at *
      clear hc h hg hf hE
      go_enter Tryd.func12, Tryd.ntmps12
      go_wp2_with fail
      refine HF.out.mono ?_
      rintro e w1 ⟨rfl, rfl⟩
      go_wp2_with fail
      refine HBk.out.mono ?_
      rintro e w1 ⟨a1, n1, c1, rfl, r1, u1⟩
      have U1 := Lib.hid u1
      clear r1 u1
      go_wp2_with fail
      refine (awake_en _ (HG.out.later U1.out)).mono ?_
      rintro e w2 ⟨rfl, u2⟩
      have U2 := Lib.hid (U1.out.then u2)
      clear u2
      go_wp2_with fail
      go_ret
      exact ⟨rfl, U2.out⟩
end Go.Proofs.YtgdndcbcdoogpaaDoor
