/- quant: the least and the greatest scale; the law Best -/
import Derived.Test.YteioaeceobgbdaaQU
namespace Go.Proofs.Yteioaeceobgbdaa
open Go.RowKit Go.Shelf

@[local go_sem high] theorem run_max3 {P : Program} (w : World) (ts : Array TypeId) (t : TypeId) (k k' k'' : IntKind) (x y z : Int) :
    (Builtin.max_ ts t #[.int k x, .int k' y, .int k'' z]).run P w = .ok (.int k (max (max x y) z)) w := by
  have e : ∀ a b : Int, (if b > a then b else a) = max a b := fun a b => by
    rw [Int.max_def]
    split <;> split <;> omega
  simp [Builtin.max_, Builtin.max2, e]
theorem top95 : vlN 95 1023 = 2097152 := by decide +kernel
theorem lsN_le (g : Int) : lsN g ≤ 95 := by
  have := (fsG_le (p := fun s => decide (g ≤ vlN s 1023)) (n := 95) (k := 0)).2
  unfold lsN
  omega
theorem lsN_iff {g : Int} {s : Nat} (hg : g ≤ 2097152) (hs : s ≤ 95) : g ≤ vlN s 1023 ↔ lsN g ≤ s := by
  constructor
  · intro h
    rcases Nat.lt_or_ge s (lsN g) with e | e
    · have h2 := of_decide_eq_false (fsG_no (p := fun s => decide (g ≤ vlN s 1023)) (Nat.zero_le s) e)
      exact absurd h h2
    · exact e
  · intro h
    have h1 : g ≤ vlN (lsN g) 1023 := by
      rcases Nat.lt_or_ge (lsN g) 95 with e | e
      · exact of_decide_eq_true (fsG_yes (p := fun s => decide (g ≤ vlN s 1023)) (n := 95) (k := 0) (by unfold lsN at e; omega))
      · have e2 : lsN g = 95 := by have := lsN_le g; omega
        rw [e2, top95]; exact hg
    have := vlN_up (q := 1023) h hs
    omega
theorem mosN_spec {p : Nat → Bool} : ∀ {n m : Nat}, mosN p n = some m → p m = true ∧ m < n ∧ ∀ j, m < j → j < n → p j = false
  | 0, m, h => by cases h
  | n + 1, m, h => by
    unfold mosN at h
    cases hp : p n with
    | true => rw [if_pos hp] at h; cases h; exact ⟨hp, by omega, fun j h1 h2 => by omega⟩
    | false =>
      rw [hp, if_neg (by decide)] at h
      obtain ⟨h1, h2, h3⟩ := mosN_spec h
      refine ⟨h1, by omega, fun j h4 h5 => ?_⟩
      by_cases e : j = n
      · subst e; exact hp
      · exact h3 j h4 (by omega)
theorem mosN_spec0 {p : Nat → Bool} : ∀ {n : Nat}, mosN p n = none → ∀ j, j < n → p j = false
  | 0, _, j, hj => by omega
  | n + 1, h, j, hj => by
    unfold mosN at h
    cases hp : p n with
    | true => rw [if_pos hp] at h; cases h
    | false =>
      rw [hp, if_neg (by decide)] at h
      by_cases e : j = n
      · subst e; exact hp
      · exact mosN_spec0 h j (by omega)
theorem mosP_iff {cs : List Int} {lim : Int} {s : Nat} : mosP cs lim s = true ↔ (mxL cs ≤ vlN s 1023 ∧ nsL s cs ≤ lim) := by
  unfold mosP
  rw [Bool.and_eq_true, decide_eq_true_eq, decide_eq_true_eq]
theorem mxL_bd {cs : List Int} (h : ∀ c ∈ cs, 0 ≤ c ∧ c ≤ 2097152) : ∀ k, k ≤ cs.length → 0 ≤ mxL (cs.take k) ∧ mxL (cs.take k) ≤ 2097152
  | 0, _ => by rw [List.take_zero]; decide
  | k + 1, hk => by
    have ih := mxL_bd h k (by omega)
    obtain ⟨x, hx⟩ : ∃ x, cs[k]? = some x := ⟨_, List.getElem?_eq_getElem (by omega)⟩
    rw [mxL_take hx]
    have := h x (List.mem_of_getElem? hx)
    omega
theorem ckQ_S {xs : List Int} {s : Nat} (hs : s ≤ 95) (h : ckQ 2097152 xs = 0) : ckS 2097152 xs (s : Int) = 0 ∧ nV xs (s : Int) = nsL s (xs.map szI) := by
  have e : ckS 2097152 xs (s : Int) = 0 := by unfold ckS; rw [if_pos (by omega)]; exact h
  refine ⟨e, ?_⟩
  unfold nV
  rw [if_pos e, Int.toNat_natCast]
theorem mst_bad {xs : List Int} {lim : Int} (h : ckQ 2097152 xs ≠ 0 ∨ lim < 0 ∨ 72057594037927936 < lim) : mstE xs lim ≠ 0 := by
  unfold mstE
  by_cases h1 : 0 ≤ lim ∧ lim ≤ 72057594037927936
  · rw [if_pos h1]
    have h2 : ckQ 2097152 xs ≠ 0 := h.resolve_right (by omega)
    rw [if_neg h2]
    exact h2
  · rw [if_neg h1]; decide
set_option maxRecDepth 100000 in
set_option maxHeartbeats 8000000 in
theorem best_qu (sv : Value) (xs : List Int) (lim : Int) (w : World) (h : Ints w sv xs) : Calls Try.prog 10 #[sv, .int .i64 lim] w fun e w' => e = .returned (.bool true) ∧ Upd NoB w w' := by
  have X0 := Lib.hid h
  have HLs := Lib.hid (fun W (h : Ints W sv xs) => Least_any sv xs W h)
  have HMo := Lib.hid (fun W (h : Ints W sv xs) => Most_any sv xs lim W h)
  obtain ⟨a, cap, rfl⟩ := h.form
  obtain ⟨L, hL⟩ : ∃ L, xs.length = L := ⟨_, rfl⟩
  have HL := Lib.hid hL
  rw [hL] at X0 HLs HMo ⊢
  clear h
  by_cases h1 : 24 < L
  · have t1 : decide ((24 : Int) < (L : Int)) = true := decide_eq_true (by omega)
    have t2 : decide (24 < L) = true := decide_eq_true h1
    clear h1 hL HLs HMo
    go_enter Try.func10, Try.ntmps10
    go_wp2_with fail
    refine (awake_qu _).mono ?_
    rintro e w1 ⟨rfl, u1⟩
    have UU1 := Lib.hid ((Upd.refl NoB w).then u1)
    clear u1
    go_wp2_with fail
    go_ret
    exact ⟨rfl, UU1.out⟩
  have t1 : decide ((24 : Int) < (L : Int)) = false := decide_eq_false (by omega)
  have t2 : decide (24 < L) = false := decide_eq_false h1
  have HLb := Lib.hid (show L ≤ 24 by omega)
  clear h1
  by_cases h2 : ckQ 2097152 xs = 0
  rotate_left
  · have hm := mst_bad (lim := lim) (Or.inl h2)
    have t3 : (ckQ 2097152 xs != 0) = true := bne_iff_ne.2 h2
    clear h2
    obtain ⟨E2, hE2⟩ : ∃ E, mstE xs lim = E := ⟨_, rfl⟩
    rw [hE2] at HMo hm
    have t9 : (E2 != 0) = true := bne_iff_ne.2 hm
    generalize mstV xs lim = V2 at *
    generalize lstV xs = V1 at *
    generalize ckQ 2097152 xs = E1 at *
    clear hm hE2 hL
    go_enter Try.func10, Try.ntmps10
    go_wp2_with fail
    refine (HLs.out _ X0.out).mono ?_
    rintro e w1 ⟨rfl, u1⟩
    have X1 := Lib.hid (X0.out.later u1)
    clear X0
    have UU1 := Lib.hid ((Upd.refl NoB w).then u1)
    clear u1
    go_wp2_with fail
    refine (HMo.out _ X1.out).mono ?_
    rintro e w2 ⟨rfl, u2⟩
    have X2 := Lib.hid (X1.out.later u2)
    clear X1
    have UU2 := Lib.hid (UU1.out.then u2)
    clear UU1
    clear u2
    go_wp2_with fail
    refine (awake_qu _).mono ?_
    rintro e w3 ⟨rfl, u3⟩
    have X3 := Lib.hid (X2.out.later u3)
    clear X2
    have UU3 := Lib.hid (UU2.out.then u3)
    clear UU2
    clear u3
    go_wp2_with fail
    go_ret
    exact ⟨rfl, UU3.out⟩
  by_cases h3 : lim < 0
  · have hm := mst_bad (xs := xs) (lim := lim) (Or.inr (Or.inl h3))
    have t4 : decide (lim < 0) = true := decide_eq_true h3
    rw [h2] at HLs
    clear h3 h2
    obtain ⟨E2, hE2⟩ : ∃ E, mstE xs lim = E := ⟨_, rfl⟩
    rw [hE2] at HMo hm
    have t9 : (E2 != 0) = true := bne_iff_ne.2 hm
    generalize mstV xs lim = V2 at *
    generalize lstV xs = V1 at *
    generalize ckQ 2097152 xs = E1 at *
    clear hm hE2 hL
    go_enter Try.func10, Try.ntmps10
    go_wp2_with fail
    refine (HLs.out _ X0.out).mono ?_
    rintro e w1 ⟨rfl, u1⟩
    have X1 := Lib.hid (X0.out.later u1)
    clear X0
    have UU1 := Lib.hid ((Upd.refl NoB w).then u1)
    clear u1
    go_wp2_with fail
    refine (HMo.out _ X1.out).mono ?_
    rintro e w2 ⟨rfl, u2⟩
    have X2 := Lib.hid (X1.out.later u2)
    clear X1
    have UU2 := Lib.hid (UU1.out.then u2)
    clear UU1
    clear u2
    go_wp2_with fail
    refine (awake_qu _).mono ?_
    rintro e w3 ⟨rfl, u3⟩
    have X3 := Lib.hid (X2.out.later u3)
    clear X2
    have UU3 := Lib.hid (UU2.out.then u3)
    clear UU2
    clear u3
    go_wp2_with fail
    go_ret
    exact ⟨rfl, UU3.out⟩
  by_cases h4 : 72057594037927936 < lim
  · have hm := mst_bad (xs := xs) (lim := lim) (Or.inr (Or.inr h4))
    have t4 : decide (lim < 0) = false := decide_eq_false h3
    have t5 : decide (72057594037927936 < lim) = true := decide_eq_true h4
    rw [h2] at HLs
    clear h3 h4 h2
    obtain ⟨E2, hE2⟩ : ∃ E, mstE xs lim = E := ⟨_, rfl⟩
    rw [hE2] at HMo hm
    have t9 : (E2 != 0) = true := bne_iff_ne.2 hm
    generalize mstV xs lim = V2 at *
    generalize lstV xs = V1 at *
    generalize ckQ 2097152 xs = E1 at *
    clear hm hE2 hL
    go_enter Try.func10, Try.ntmps10
    go_wp2_with fail
    refine (HLs.out _ X0.out).mono ?_
    rintro e w1 ⟨rfl, u1⟩
    have X1 := Lib.hid (X0.out.later u1)
    clear X0
    have UU1 := Lib.hid ((Upd.refl NoB w).then u1)
    clear u1
    go_wp2_with fail
    refine (HMo.out _ X1.out).mono ?_
    rintro e w2 ⟨rfl, u2⟩
    have X2 := Lib.hid (X1.out.later u2)
    clear X1
    have UU2 := Lib.hid (UU1.out.then u2)
    clear UU1
    clear u2
    go_wp2_with fail
    refine (awake_qu _).mono ?_
    rintro e w3 ⟨rfl, u3⟩
    have X3 := Lib.hid (X2.out.later u3)
    clear X2
    have UU3 := Lib.hid (UU2.out.then u3)
    clear UU2
    clear u3
    go_wp2_with fail
    go_ret
    exact ⟨rfl, UU3.out⟩
  have t4 : decide (lim < 0) = false := decide_eq_false h3
  have t5 : decide (72057594037927936 < lim) = false := decide_eq_false h4
  obtain ⟨hl, hin⟩ := ckQ_ok h2
  have hcs := szI_in hin
  have HNo := Lib.hid (fun (s : Nat) (hs : s ≤ 95) W (h : Ints W (.slice a L cap) xs) => (show Calls Try.prog 24 #[.slice a L cap, .int .i64 (s : Int)] W fun e w' => e = .returned (.tuple #[.int .i64 (nsL s (xs.map szI)), .int .i64 0]) ∧ Upd NoB W w' by
    have := Noise_any (.slice a L cap) xs (s : Int) W h
    rw [(ckQ_S hs h2).1, (ckQ_S hs h2).2] at this
    exact this))
  have HTo := Lib.hid (fun (s : Nat) (hs : s ≤ 95) W => val_at hs (show 1023 ≤ 1023 by omega) (show (1023 : Int) = ((1023 : Nat) : Int) from rfl) W)
  have e1 : lstV xs = ((lsN (mxL (xs.map szI)) : Nat) : Int) := if_pos h2
  rw [e1, h2] at HLs
  have HEq : mstE xs lim = if (mosN (mosP (xs.map szI) lim) 96).isSome then 0 else 5 := by unfold mstE; rw [if_pos (by omega), if_pos h2]
  have HVq : mstV xs lim = if mstE xs lim = 0 then (((mosN (mosP (xs.map szI) lim) 96).getD 0 : Nat) : Int) else 0 := rfl
  have HMx := Lib.hid (fun (k : Nat) (x : Int) (hx : xs[k]? = some x) => (show mxL ((xs.map szI).take (k + 1)) = max (mxL ((xs.map szI).take k)) (max x (-x)) ∧ -2097152 ≤ x ∧ x ≤ 2097152 from
    ⟨mxL_take (show (xs.map szI)[k]? = some (szI x) by rw [List.getElem?_map, hx]; rfl), inM_yes hin x (List.mem_of_getElem? hx)⟩))
  have HM0 := Lib.hid (show mxL ((xs.map szI).take 0) = 0 from rfl)
  have HML := Lib.hid (show mxL ((xs.map szI).take L) = mxL (xs.map szI) by rw [← show (xs.map szI).length = L from (List.length_map szI).trans hL, List.take_length])
  have HIf := Lib.hid (fun (s : Nat) (hs : s ≤ 95) => lsN_iff (g := mxL (xs.map szI)) (by
    have := (mxL_bd hcs (xs.map szI).length (Nat.le_refl _)).2
    rw [List.take_length] at this
    exact this) hs)
  have HPi := Lib.hid (fun (s : Nat) => mosP_iff (cs := xs.map szI) (lim := lim) (s := s))
  generalize xs.map szI = cs at *
  obtain ⟨g, hg⟩ : ∃ g, mxL cs = g := ⟨_, rfl⟩
  rw [hg] at HLs HML HIf HPi
  generalize lsN g = ls at *
  have hcase : ∃ (E2 : Int) (m : Nat), mstE xs lim = E2 ∧ (E2 = 0 → mstV xs lim = (m : Int)) ∧ ((E2 = 0 ∧ mosP cs lim m = true ∧ ∀ j, m < j → j < 96 → mosP cs lim j = false) ∨ (E2 = 5 ∧ ∀ j, j < 96 → mosP cs lim j = false)) := by
    cases hm : mosN (mosP cs lim) 96 with
    | none => exact ⟨5, 0, by rw [HEq, hm]; rfl, fun h => (by cases h), .inr ⟨rfl, mosN_spec0 hm⟩⟩
    | some m =>
      obtain ⟨k1, k2, k3⟩ := mosN_spec hm
      have e0 : mstE xs lim = 0 := by rw [HEq, hm]; rfl
      exact ⟨0, m, e0, fun _ => by rw [HVq, if_pos e0, hm]; rfl, .inl ⟨rfl, k1, k3⟩⟩
  obtain ⟨E2, m, hE2, hV2, hc⟩ := hcase
  rw [hE2] at HMo
  generalize mstV xs lim = V2 at *
  have HCs := Lib.hid (show ∀ s : Nat, s ≤ 95 → ((E2 = 0 ∧ V2 = (m : Int)) ∨ E2 = 5) ∧ (g ≤ vlN s 1023 ↔ ls ≤ s) ∧ (E2 = 5 → ¬ (g ≤ vlN s 1023 ∧ nsL s cs ≤ lim)) ∧ (E2 = 0 → (g ≤ vlN s 1023 ∧ nsL s cs ≤ lim) → s ≤ m) ∧ (E2 = 0 → s = m → (g ≤ vlN s 1023 ∧ nsL s cs ≤ lim)) from fun s hs => by
    refine ⟨?_, HIf.out s hs, fun e hh => ?_, fun e hh => ?_, fun e hh => ?_⟩
    · rcases hc with ⟨e, _⟩ | ⟨e, _⟩
      · exact .inl ⟨e, hV2 e⟩
      · exact .inr e
    · rcases hc with ⟨e', _⟩ | ⟨_, k⟩
      · rw [e'] at e; cases e
      · have := k s (by omega); rw [(HPi.out s).2 hh] at this; cases this
    · rcases hc with ⟨_, _, k⟩ | ⟨e', _⟩
      · rcases Nat.lt_or_ge m s with q | q
        · have := k s q (by omega); rw [(HPi.out s).2 hh] at this; cases this
        · exact q
      · rw [e'] at e; cases e
    · rcases hc with ⟨_, k, _⟩ | ⟨e', _⟩
      · subst hh; exact (HPi.out _).1 k
      · rw [e'] at e; cases e)
  have hfin := (HCs.out 0 (by omega)).1
  have HFin := Lib.hid hfin
  clear h2 h3 h4 hl hin hcs e1 HEq HVq hg HIf HPi hE2 hV2 hc hL hfin
  go_enter Try.func10, Try.ntmps10
  go_wp2_with fail
  refine (HLs.out _ X0.out).mono ?_
  rintro e w1 ⟨rfl, u1⟩
  have X1 := Lib.hid (X0.out.later u1)
  clear X0
  have UU1 := Lib.hid ((Upd.refl NoB w).then u1)
  clear u1
  go_wp2_with fail
  refine (HMo.out _ X1.out).mono ?_
  rintro e w2 ⟨rfl, u2⟩
  have X2 := Lib.hid (X1.out.later u2)
  clear X1
  have UU2 := Lib.hid (UU1.out.then u2)
  clear UU1
  clear u2
  go_wp2_with fail
  go_loopw [9, 49] (fun m i wr => ∃ k : Nat, k ≤ L ∧ i = .int .i64 k ∧ m = .int .i64 (mxL (cs.take k)) ∧ wr = w2) (fun _ i _ => L - (intOf i).toNat)
  case atStart => exact ⟨0, Nat.zero_le _, rfl, by rw [HM0.out], rfl⟩
  case round =>
    obtain ⟨k, hk, rfl, rfl, hwr⟩ := hrel
    rw [hwr]
    by_cases hlt : k < L
    · obtain ⟨x, hx⟩ : ∃ x, xs[k]? = some x := ⟨_, List.getElem?_eq_getElem (by rw [HL.out]; exact hlt)⟩
      obtain ⟨b1, o1, rfl, e1⟩ := (X2.out).cellAt hx
      obtain ⟨hm, hx0⟩ := HMx.out k x hx
      have HM := Lib.hid hm
      generalize mxL (cs.take k) = M at *
      have z1 : wrap64 (-x) = -x := IntWalk.wrap64_in _ (by omega)
      have z2 : IntKind.i64.wrap (-x) = -x := IntWalk.i64_in _ (by clear z1; omega)
      have hk6 : k ≤ 1000000 := by have := HLb.out; clear z1 z2; omega
      clear hx hm hx0 hwr
      go_wp2_with fail
      go_roundw
      case rel => exact ⟨k + 1, by omega, by go_num, by rw [HM.out], trivial⟩
      case measure => clear z1 z2; simp [intOf]; omega
    · obtain rfl : k = L := by omega
      rw [HML.out]
      clear hlt hwr wr
      go_wp2_with fail
      go_loopw [59] (fun i wr => ∃ k : Nat, k ≤ 96 ∧ i = .int .i64 k ∧ Upd NoB w2 wr) (fun i _ => 96 - (intOf i).toNat)
      case atStart => exact ⟨0, Nat.zero_le _, rfl, Upd.refl _ _⟩
      case round =>
        obtain ⟨s, hk, rfl, hu⟩ := hrel
        by_cases hlt : s < 96
        · have HTs := Lib.hid (fun W => HTo.out s (by omega) W)
          have HNs := Lib.hid (HNo.out s (by omega) wr ((X2.out).later hu))
          obtain ⟨q0, q1, q2, q3, q4⟩ := HCs.out s (by omega)
          have HX9 := Lib.hid (fun W (u : Upd NoB wr W) => HNo.out s (by omega) W (((X2.out).later hu).later u))
          have HU9 := Lib.hid hu
          generalize vlN s 1023 = T at *
          generalize nsL s cs = n at *
          clear hu HNs
          by_cases hA : g ≤ T
          · have hls : ls ≤ s := q1.1 hA
            have p1 : decide (g ≤ T) = true := decide_eq_true hA
            have p2 : decide ((ls : Int) ≤ (s : Int)) = true := decide_eq_true (by omega)
            have p3 : decide (ls ≤ s) = true := decide_eq_true hls
            by_cases hB : n ≤ lim
            · have p4 : decide (n ≤ lim) = true := decide_eq_true hB
              rcases q0 with ⟨rfl, rfl⟩ | rfl
              · have hsm := q3 rfl ⟨hA, hB⟩
                have p5 : decide ((m : Int) < (s : Int)) = false := decide_eq_false (by omega)
                have p6 : decide (m < s) = false := decide_eq_false (by omega)
                have p7 : decide (lim < n) = false := decide_eq_false (by omega)
                have p8 : decide ((s : Int) < (ls : Int)) = false := decide_eq_false (by omega)
                have p9 : decide (s < ls) = false := decide_eq_false (by omega)
                by_cases hs : s = m
                · subst hs
                  clear hA hB hls hsm
                  clear q1 q2 q3 q4
                  go_wp2_with fail
                  refine (HTs.out _).mono ?_
                  rintro e w7 ⟨rfl, u7⟩
                  have HN7 := Lib.hid (HX9.out _ u7)
                  have U7 := Lib.hid (HU9.out.then u7)
                  clear u7
                  go_wp2_with fail
                  refine HN7.out.mono ?_
                  rintro e w8 ⟨rfl, u8⟩
                  have U8 := Lib.hid (U7.out.then u8)
                  clear u8
                  go_wp2_with fail
                  go_roundw
                  case rel => exact ⟨s + 1, by omega, by go_num, U8.out⟩
                  case measure => simp [intOf]; omega
                · have r1 : ((s : Int) == (m : Int)) = false := beq_eq_false_iff_ne.2 (by omega)
                  have r2 : (s == m) = false := beq_eq_false_iff_ne.2 hs
                  clear hA hB hls hsm hs
                  clear q1 q2 q3 q4
                  go_wp2_with fail
                  refine (HTs.out _).mono ?_
                  rintro e w7 ⟨rfl, u7⟩
                  have HN7 := Lib.hid (HX9.out _ u7)
                  have U7 := Lib.hid (HU9.out.then u7)
                  clear u7
                  go_wp2_with fail
                  refine HN7.out.mono ?_
                  rintro e w8 ⟨rfl, u8⟩
                  have U8 := Lib.hid (U7.out.then u8)
                  clear u8
                  go_wp2_with fail
                  go_roundw
                  case rel => exact ⟨s + 1, by omega, by go_num, U8.out⟩
                  case measure => simp [intOf]; omega
              · exact absurd ⟨hA, hB⟩ (q2 rfl)
            · have p4 : decide (n ≤ lim) = false := decide_eq_false hB
              rcases q0 with ⟨rfl, rfl⟩ | rfl
              · have hs : s ≠ m := fun e => hB (q4 rfl e).2
                have r1 : ((s : Int) == (m : Int)) = false := beq_eq_false_iff_ne.2 (by omega)
                have r2 : (s == m) = false := beq_eq_false_iff_ne.2 hs
                clear hA hB hls hs
                clear q1 q2 q3 q4
                go_wp2_with fail
                refine (HTs.out _).mono ?_
                rintro e w7 ⟨rfl, u7⟩
                have HN7 := Lib.hid (HX9.out _ u7)
                have U7 := Lib.hid (HU9.out.then u7)
                clear u7
                go_wp2_with fail
                refine HN7.out.mono ?_
                rintro e w8 ⟨rfl, u8⟩
                have U8 := Lib.hid (U7.out.then u8)
                clear u8
                go_wp2_with fail
                go_roundw
                case rel => exact ⟨s + 1, by omega, by go_num, U8.out⟩
                case measure => simp [intOf]; omega
              · clear hA hB hls
                clear q1 q2 q3 q4
                go_wp2_with fail
                refine (HTs.out _).mono ?_
                rintro e w7 ⟨rfl, u7⟩
                have HN7 := Lib.hid (HX9.out _ u7)
                have U7 := Lib.hid (HU9.out.then u7)
                clear u7
                go_wp2_with fail
                refine HN7.out.mono ?_
                rintro e w8 ⟨rfl, u8⟩
                have U8 := Lib.hid (U7.out.then u8)
                clear u8
                go_wp2_with fail
                go_roundw
                case rel => exact ⟨s + 1, by omega, by go_num, U8.out⟩
                case measure => simp [intOf]; omega
          · have hls : ¬ ls ≤ s := fun e => hA (q1.2 e)
            have p1 : decide (g ≤ T) = false := decide_eq_false hA
            have p2 : decide ((ls : Int) ≤ (s : Int)) = false := decide_eq_false (by omega)
            have p3 : decide (ls ≤ s) = false := decide_eq_false hls
            rcases q0 with ⟨rfl, rfl⟩ | rfl
            · have hs : s ≠ m := fun e => hA (q4 rfl e).1
              have r1 : ((s : Int) == (m : Int)) = false := beq_eq_false_iff_ne.2 (by omega)
              have r2 : (s == m) = false := beq_eq_false_iff_ne.2 hs
              clear hA hls hs
              clear q1 q2 q3 q4
              go_wp2_with fail
              refine (HTs.out _).mono ?_
              rintro e w7 ⟨rfl, u7⟩
              have HN7 := Lib.hid (HX9.out _ u7)
              have U7 := Lib.hid (HU9.out.then u7)
              clear u7
              go_wp2_with fail
              refine HN7.out.mono ?_
              rintro e w8 ⟨rfl, u8⟩
              have U8 := Lib.hid (U7.out.then u8)
              clear u8
              go_wp2_with fail
              go_roundw
              case rel => exact ⟨s + 1, by omega, by go_num, U8.out⟩
              case measure => simp [intOf]; omega
            · clear hA hls
              clear q1 q2 q3 q4
              go_wp2_with fail
              refine (HTs.out _).mono ?_
              rintro e w7 ⟨rfl, u7⟩
              have HN7 := Lib.hid (HX9.out _ u7)
              have U7 := Lib.hid (HU9.out.then u7)
              clear u7
              go_wp2_with fail
              refine HN7.out.mono ?_
              rintro e w8 ⟨rfl, u8⟩
              have U8 := Lib.hid (U7.out.then u8)
              clear u8
              go_wp2_with fail
              go_roundw
              case rel => exact ⟨s + 1, by omega, by go_num, U8.out⟩
              case measure => simp [intOf]; omega
        · obtain rfl : s = 96 := by omega
          have HU9 := Lib.hid (Upd.then UU2.out hu)
          clear hu hlt
          rcases HFin.out with ⟨rfl, rfl⟩ | rfl
          · have h9 := HU9.out
            clear h9
            go_wp2_with fail
            refine (awake_qu _).mono ?_
            rintro e w1 ⟨rfl, u1⟩
            have UU1 := Lib.hid (HU9.out.then u1)
            clear HU9
            clear u1
            go_wp2_with fail
            go_ret
            exact ⟨rfl, UU1.out⟩
          · have h9 := HU9.out
            clear h9
            go_wp2_with fail
            refine (awake_qu _).mono ?_
            rintro e w1 ⟨rfl, u1⟩
            have UU1 := Lib.hid (HU9.out.then u1)
            clear HU9
            clear u1
            go_wp2_with fail
            go_ret
            exact ⟨rfl, UU1.out⟩
end Go.Proofs.Yteioaeceobgbdaa
