/- rice: the law of the costs of two lists -/
import Derived.Test.YtmdladcfckoglaaKX
namespace Go.Proofs.Ytmdladcfckoglaa
open Go.RowKit Go.Shelf

theorem wpList_moreI {w : World} {ops : Array Oper} {rest : List Oper} {o : Oper} {a : Act} {Q : Exit → Act → World → Prop} (hgd : o.guard = none) (s x : Operand)
    (ho : o.op = .call { callee := .builtin .append, args := #[s, x], argTypes := #[27, 27] })
    (B : Nat) (v sv : Value) (xs ys : List Int) (n : Nat) (hn : n = xs.length) (hs : a.eval s = v) (hx : a.eval x = sv) (hown : w.ownsRow B 3 1 v n (i64s xs)) (hb : Ints w sv ys) (hlen : xs.length + ys.length ≤ 1000000) (hB : B ≤ w.heap.size)
    (hK : ∀ v' w', w'.ownsRow B 3 1 v' (xs ++ ys).length (i64s (xs ++ ys)) → Upd (fun k => B ≤ k) w w' → wpList Try.prog ops Q rest (a.put o.dst v') w') : wpList Try.prog ops Q (o :: rest) a w := by
  subst hn
  obtain ⟨i0, hi, hz0, hz1, hz2⟩ := info_parts Try.infoInt
  have hb0 := hb
  obtain ⟨_, ad, cap, rfl, ⟨hcap, hnone⟩, hc⟩ := hb
  cases ad with
  | none =>
    have hz : ys = [] := by
      rcases hc with h | ⟨b, off, h, _⟩
      · exact h
      · cases h
    subst hz
    have hc0 := hnone rfl
    subst hc0
    refine wpList_append_own_none (w := w) hgd s x 27 ho B 3 i0 1 Try.underlying27 hi _ xs.length (i64s xs) hs hown hx ?_
    refine hK _ _ ?_ (Upd.refl _ _)
    rw [List.append_nil]
    exact hown
  | some ad =>
    refine wpList_append_own (w := w) hgd s x 27 ho B 3 i0 (.int .i64 0) 1 8 Try.underlying27 hi hz0 hz1 hz2 rfl (by decide) _ xs.length (i64s xs) hs hown ad ys.length cap (i64s ys) hx (by simp [i64s_length]) hb0.cellsOf (i64s_one ys) (by unfold maxLen; omega) (by omega) hB ?_
    intro v' w' hown' hgr hnil
    rw [← i64s_append, ← List.length_append] at hown'
    exact hK v' w' hown' ((Upd.refl _ _).grown hgr (fun k hk hlt => (hown.lt k hk).1))
set_option maxRecDepth 100000 in
set_option maxHeartbeats 1000000 in
theorem right_any (xv : Value) (xs : List Int) (w : World) (h : Ints w xv xs) : Calls Try.prog 46 #[xv] w fun e w' => e = .returned (.bool (xs.all isNum)) ∧ w = w' := by
  obtain ⟨xa, xc, rfl⟩ := h.form
  have hb := h.1
  have H := Lib.hid h; clear h
  obtain ⟨L, hL⟩ : ∃ L, xs.length = L := ⟨_, rfl⟩
  have HL := Lib.hid hL
  rw [hL] at H hb ⊢
  clear hL
  go_enter Try.func46, Try.ntmps46
  go_wp2_with fail
  go_loop [7] (fun i => ∃ k : Nat, k ≤ L ∧ i = .int .i64 k ∧ Hid (∀ x ∈ xs.take k, isNum x = true)) (fun i => L - (intOf i).toNat)
  case atStart => exact ⟨0, Nat.zero_le _, rfl, Lib.hid (by simp)⟩
  case round =>
    obtain ⟨k, hk, rfl, HN⟩ := hrel
    by_cases hlt : k < L
    · obtain ⟨x, hx⟩ : ∃ x, xs[k]? = some x := ⟨_, List.getElem?_eq_getElem (by rw [HL.out]; exact hlt)⟩
      obtain ⟨b, off, rfl, hc⟩ := H.out.cellAt hx
      cases hn : isNum x with
      | true =>
        have HM := Lib.hid (allNum_more HN.out hx hn)
        obtain ⟨g1, g2⟩ := isNum_yes hn
        have s1 : decide (x < -2147483648) = false := decide_eq_false (by omega)
        have s2 : decide (2147483648 ≤ x) = false := decide_eq_false (by omega)
        clear hx hn
        go_wp2
        go_round
        case rel => exact ⟨k + 1, by omega, by go_num, HM⟩
        case measure => simp [intOf]; omega
      | false =>
        have HE := Lib.hid (show xs.all isNum = false by
          rw [List.all_eq_false]
          exact ⟨x, List.mem_of_getElem? hx, by rw [hn]; simp⟩)
        have hno := isNum_no hn
        clear hx hn
        by_cases g1 : x < -2147483648
        · clear hno
          go_wp2
          go_ret
          rw [HE.out]
          exact ⟨rfl, rfl⟩
        · have s1 : decide (x < -2147483648) = false := decide_eq_false g1
          have s2 : decide (2147483648 ≤ x) = true := decide_eq_true (by omega)
          clear hno g1
          go_wp2
          go_ret
          rw [HE.out]
          exact ⟨rfl, rfl⟩
    · obtain rfl : k = L := by omega
      have HE := Lib.hid (show xs.all isNum = true by
        rw [List.all_eq_true]
        have := HN.out
        rw [List.take_of_length_le (by rw [HL.out]; exact Nat.le_refl _)] at this
        exact this)
      go_wp2
      go_ret
      rw [HE.out]
      exact ⟨rfl, rfl⟩
theorem wSz_small {v : Int} (h1 : -196608 ≤ v) (h2 : v < 196608) : 15 ≤ wSz (fo v) 14 ∧ wSz (fo v) 14 ≤ 38 := by
  have hlt : fo v < 393216 := by unfold fo; split <;> omega
  have hq : fo v / 2 ^ 14 < 24 := Nat.div_lt_of_lt_mul (by simpa using hlt)
  unfold wSz wUn wWi
  rw [if_pos hq, if_pos hq]
  omega
theorem lc_small : ∀ l : List Int, (∀ v ∈ l, -196608 ≤ v ∧ v < 196608) → 15 * l.length ≤ lc l 14 ∧ lc l 14 ≤ 38 * l.length
  | [], _ => by simp [lc]
  | v :: l, h => by
    have ih := lc_small l (fun x hx => h x (List.mem_cons_of_mem _ hx))
    have hv := h v List.mem_cons_self
    have hs := wSz_small hv.1 hv.2
    have e : lc (v :: l) 14 = wSz (fo v) 14 + lc l 14 := by simp [lc]
    rw [e, List.length_cons]
    omega
theorem cost_yes {xs : List Int} {i : Nat} (hi : i ≤ 14) (h : listE xs = 0) : costE xs i = 0 ∧ costS xs i = (lc xs i : Nat) := by
  have hp : isPar (i : Int) = true := decide_eq_true ⟨by omega, by omega⟩
  have hE : costE xs i = 0 := by unfold costE; rw [if_neg (by simp [hp]), h]
  exact ⟨hE, by unfold costS; rw [if_pos hE, Int.toNat_natCast]⟩

def BInts (w : World) (T : Nat) (zs : List Int) : Prop := ∀ (w' : World) v, w'.ownsRow w.heap.size 3 1 v T (i64s zs) → Ints w' v zs
set_option maxRecDepth 100000 in
set_option maxHeartbeats 8000000 in
theorem parts_law (av bv : Value) (xs ys : List Int) (n : Int) (w : World) (hx : Ints w av xs) (hy : Ints w bv ys) (hn : 0 ≤ n ∧ n ≤ 255) :
    Calls Try.prog 11 #[av, bv, .int .u8 n] w fun e w' => e = .returned (.bool true) ∧ Upd NoB w w' := by
  obtain ⟨aa, ac, rfl⟩ := hx.form
  obtain ⟨ba, bc, rfl⟩ := hy.form
  have hxl := hx.1
  have hyl := hy.1
  have HX := Lib.hid hx; have HY := Lib.hid hy
  have HRx := Lib.hid (fun w' (u : Upd NoB w w') => right_any _ xs w' (hx.later u))
  have HRy := Lib.hid (fun w' (u : Upd NoB w w') => right_any _ ys w' (hy.later u))
  obtain ⟨L, hL⟩ : ∃ L, xs.length = L := ⟨_, rfl⟩
  obtain ⟨M, hM⟩ : ∃ M, ys.length = M := ⟨_, rfl⟩
  have HL := Lib.hid hL; have HM := Lib.hid hM
  rw [hL] at HX HRx hxl ⊢
  rw [hM] at HY HRy hyl ⊢
  clear hx hy hL hM
  by_cases h1 : 600 < L + M
  · have t1 : decide ((600 : Int) < (L : Int) + (M : Int)) = true := decide_eq_true (by omega)
    clear h1
    go_enter Try.func11, Try.ntmps11
    go_wp2_with (go_at_call 16; refine (kawake_any _).mono ?_; rintro e w' ⟨rfl, u9⟩; have U9 := Lib.hid u9; clear u9)
    go_ret
    exact ⟨rfl, U9.out⟩
  have t1 : decide ((600 : Int) < (L : Int) + (M : Int)) = false := decide_eq_false (by omega)
  have hl6 : L + M ≤ 600 := by omega
  clear h1
  cases ha : xs.all isNum with
  | false =>
    have Ha := Lib.hid ha; clear ha
    go_enter Try.func11, Try.ntmps11
    go_wp2_with (first | (go_at_call 46; (with_reducible refine (HRx.out w (Upd.refl _ _)).mono ?_); rw [Ha.out]; rintro e w' ⟨rfl, rfl⟩) | (go_at_call 16; refine (kawake_any _).mono ?_; rintro e w' ⟨rfl, u9⟩; have U9 := Lib.hid u9; clear u9))
    go_ret
    exact ⟨rfl, U9.out⟩
  | true =>
  cases hb : ys.all isNum with
  | false =>
    have Ha := Lib.hid ha; have Hb := Lib.hid hb; clear ha hb
    go_enter Try.func11, Try.ntmps11
    go_wp2_with fail
    (with_reducible refine (HRx.out w (Upd.refl _ _)).mono ?_)
    rw [Ha.out]
    rintro e w' ⟨rfl, rfl⟩
    go_wp2_with fail
    (with_reducible refine (HRy.out w (Upd.refl _ _)).mono ?_)
    rw [Hb.out]
    rintro e w' ⟨rfl, rfl⟩
    go_wp2_with (go_at_call 16; refine (kawake_any _).mono ?_; rintro e w' ⟨rfl, u9⟩; have U9 := Lib.hid u9; clear u9)
    go_ret
    exact ⟨rfl, U9.out⟩
  | true =>
  obtain ⟨i, hi⟩ : ∃ i : Nat, n % 15 = (i : Int) := ⟨(n % 15).toNat, by omega⟩
  have hi14 : i ≤ 14 := by omega
  have hmem : ∀ v ∈ xs ++ ys, isNum v = true := fun v hv => by
    rcases List.mem_append.1 hv with h | h
    · exact List.all_eq_true.1 ha v h
    · exact List.all_eq_true.1 hb v h
  have hlen : (xs ++ ys).length = L + M := by rw [List.length_append, HL.out, HM.out]
  have e1 := listE_of (l := xs) (by rw [HL.out]; omega) (fun v hv => hmem v (List.mem_append_left _ hv))
  have e2 := listE_of (l := ys) (by rw [HM.out]; omega) (fun v hv => hmem v (List.mem_append_right _ hv))
  have e3 := listE_of (l := xs ++ ys) (by rw [hlen]; omega) hmem
  obtain ⟨c1, c1'⟩ := cost_yes hi14 e1
  obtain ⟨c2, c2'⟩ := cost_yes hi14 e2
  obtain ⟨c3, c3'⟩ := cost_yes hi14 e3
  obtain ⟨c4, c4'⟩ := cost_yes (xs := xs ++ ys) (i := 14) (Nat.le_refl _) e3
  have hsum : lc (xs ++ ys) i = lc xs i + lc ys i := lc_append _ _ _
  have hb1 := lc_le xs hi14
  have hb2 := lc_le ys hi14
  rw [HL.out] at hb1
  rw [HM.out] at hb2
  have HSm := Lib.hid (lc_small (xs ++ ys))
  rw [hlen] at HSm
  have Ha := Lib.hid ha; have Hb := Lib.hid hb
  have HC1 := Lib.hid (fun w' (u : Upd NoB w w') => Cost_any _ xs (i : Int) w' (HX.out.later u))
  have HC2 := Lib.hid (fun w' (u : Upd NoB w w') => Cost_any _ ys (i : Int) w' (HY.out.later u))
  have HC3 := Lib.hid (fun w' v (hv : Ints w' v (xs ++ ys)) => Cost_any v (xs ++ ys) (i : Int) w' hv)
  have HC4 := Lib.hid (fun w' v (hv : Ints w' v (xs ++ ys)) => Cost_any v (xs ++ ys) (14 : Int) w' hv)
  rw [show ((14 : Nat) : Int) = 14 from rfl] at c4 c4'
  simp only [c1, c1'] at HC1
  simp only [c2, c2'] at HC2
  simp only [c3, c3', hsum] at HC3
  simp only [c4, c4'] at HC4
  obtain ⟨T, hT⟩ : ∃ T, (xs ++ ys).length = T := ⟨_, rfl⟩
  have hT6 : T ≤ 600 := by omega
  have HLen := Lib.hid hT
  rw [← hlen, hT] at HSm
  have HBa := Lib.hid (show BInts w T (xs ++ ys) from fun w' v h => Ints.ofRow (xs := xs ++ ys) (by rw [hT]; exact h) (by rw [hT]; omega))
  generalize lc xs i = p1 at *
  generalize lc ys i = p2 at *
  generalize hz4 : lc (xs ++ ys) 14 = p4 at *
  clear ha hb hmem e1 e2 e3 c1 c1' c2 c2' c3 c3' c4 c4' hlen hz4 hsum hT
  go_enter Try.func11, Try.ntmps11
  go_wp2_with fail
  (with_reducible refine (HRx.out w (Upd.refl _ _)).mono ?_)
  rw [Ha.out]
  rintro e w' ⟨rfl, rfl⟩
  go_wp2_with fail
  (with_reducible refine (HRy.out w (Upd.refl _ _)).mono ?_)
  rw [Hb.out]
  rintro e w' ⟨rfl, rfl⟩
  go_wp2_with (first | (at_builtin; refine wpList_copyI rfl (.tmp 39) (.tmp 40) rfl (.slice aa L ac) xs rfl rfl HX.out ?_; intro v1 w1 r1 u1; rw [HL.out] at r1; have R1 := Lib.hid r1; have U1 := Lib.hid u1; clear r1 u1) | (at_builtin; refine wpList_moreI rfl (.tmp 41) (.tmp 42) rfl w.heap.size v1 (.slice ba M bc) xs ys L HL.out.symm rfl rfl R1.out (HY.out.later U1.out) ?hlen2 U1.out.size ?_; (case hlen2 => rw [HL.out, HM.out]; omega); intro v2 w2 r2 u2; rw [HLen.out] at r2; obtain ⟨a2, k2, rfl⟩ := row_form r2; have HA2 := Lib.hid (HBa.out w2 _ r2); have U2 := Lib.hid (show Upd NoB w w2 from Upd.mono (S := fun k => w.heap.size ≤ k) ((U1.out.mono (T := fun k => w.heap.size ≤ k) (fun _ _ h => h.elim)).trans u2 (fun k _ h => h)) (fun k hk h => by omega)); clear r2 u2))
  (with_reducible refine (HC1.out w2 U2.out).mono ?_)
  rintro e w3 ⟨rfl, u3⟩
  have U3 := Lib.hid (U2.out.then u3); have HA3 := Lib.hid (HA2.out.later u3); clear u3
  go_wp2_with fail
  (with_reducible refine (HC2.out w3 U3.out).mono ?_)
  rintro e w4 ⟨rfl, u4⟩
  have U4 := Lib.hid (U3.out.then u4); have HA4 := Lib.hid (HA3.out.later u4); clear u4
  go_wp2_with fail
  (with_reducible refine (HC3.out w4 _ HA4.out).mono ?_)
  rintro e w5 ⟨rfl, u5⟩
  have U5 := Lib.hid (U4.out.then u5); have HA5 := Lib.hid (HA4.out.later u5); clear u5
  go_wp2_with fail
  go_loop [81] (fun i => ∃ k : Nat, k ≤ T ∧ i = .int .i64 k ∧ Hid (∀ v ∈ (xs ++ ys).take k, -196608 ≤ v ∧ v < 196608)) (fun i => T - (intOf i).toNat)
  case atStart => exact ⟨0, Nat.zero_le _, rfl, Lib.hid (by simp)⟩
  case round =>
    obtain ⟨k, hk, rfl, HN⟩ := hrel
    by_cases hlt : k < T
    · obtain ⟨x, hx⟩ : ∃ x, (xs ++ ys)[k]? = some x := ⟨_, List.getElem?_eq_getElem (by rw [HLen.out]; exact hlt)⟩
      obtain ⟨b, off, rfl, hc⟩ := HA5.out.cellAt hx
      by_cases g1 : 196608 ≤ x
      · have s1 : decide ((196608 : Int) ≤ x) = true := decide_eq_true g1
        clear hx g1
        go_wp2_with (go_at_call 16; refine (kawake_any _).mono ?_; rintro e w' ⟨rfl, u9⟩; have U9 := Lib.hid u9; clear u9)
        go_ret
        exact ⟨rfl, U5.out.then U9.out⟩
      have s1 : decide ((196608 : Int) ≤ x) = false := decide_eq_false g1
      by_cases g2 : x < -196608
      · have s2 : decide (x < -196608) = true := decide_eq_true g2
        clear hx g1 g2
        go_wp2_with (go_at_call 16; refine (kawake_any _).mono ?_; rintro e w' ⟨rfl, u9⟩; have U9 := Lib.hid u9; clear u9)
        go_ret
        exact ⟨rfl, U5.out.then U9.out⟩
      have s2 : decide (x < -196608) = false := decide_eq_false g2
      have HN2 := Lib.hid (show ∀ v ∈ (xs ++ ys).take (k + 1), -196608 ≤ v ∧ v < 196608 by
        rw [List.take_add_one, hx]
        intro v hv
        rcases List.mem_append.1 hv with hv | hv
        · exact HN.out v hv
        · simp at hv; subst hv; omega)
      clear hx g1 g2
      go_wp2
      go_round
      case rel => exact ⟨k + 1, by omega, by go_num, HN2⟩
      case measure => simp [intOf]; omega
    · obtain rfl : k = T := by omega
      have hall := HSm.out (by have := HN.out; rwa [List.take_of_length_le (by rw [HLen.out]; exact Nat.le_refl _)] at this)
      have s1 : decide ((p4 : Int) ≤ 38 * (k : Int)) = true := decide_eq_true (by omega)
      have s2 : decide (15 * (k : Int) ≤ (p4 : Int)) = true := decide_eq_true (by omega)
      clear hall
      go_wp2_with fail
      (with_reducible refine (HC4.out w5 _ HA5.out).mono ?_)
      rintro e w6 ⟨rfl, u6⟩
      have U6 := Lib.hid (U5.out.then u6); clear u6
      go_wp2_with (go_at_call 16; refine (kawake_any _).mono ?_; rintro e w' ⟨rfl, u9⟩; have U9 := Lib.hid u9; clear u9)
      go_ret
      exact ⟨rfl, U6.out.then U9.out⟩
end Go.Proofs.Ytmdladcfckoglaa
