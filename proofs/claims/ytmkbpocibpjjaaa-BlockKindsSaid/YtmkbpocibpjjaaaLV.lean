/- block: Of of the reference -/
import Derived.Test.YtmkbpocibpjjaaaLT
import Derived.Test.YtmkbpocibpjjaaaLU
namespace Go.Proofs.Ytmkbpocibpjjaaa
open Go.RowKit Go.Shelf

theorem wpList_pushb {w : World} {ops : Array Oper} {rest : List Oper} {o : Oper} {a : Act} {Q : Exit → Act → World → Prop} (hgd : o.guard = none) (s x : Operand)
    (ho : o.op = .call { callee := .builtin .append, args := #[s, x], argTypes := #[27, 27] }) (B : Nat) (v : Value) (n : Nat) (xs : List Bool) (y : Bool) (hs : a.eval s = v) (hx : a.eval x = .slice (some ⟨w.heap.size, 0, none⟩) 1 1)
    (hown : w.ownsRow B 4 1 v n (bls xs)) (hn : n ≤ 1000000) (hB : B ≤ w.heap.size)
    (hK : ∀ v' w', w'.ownsRow B 4 1 v' (n + 1) (bls (xs ++ [y])) → Upd (fun k => B ≤ k) w w' → wpList Try.prog ops Q rest (a.put o.dst v') w') : wpList Try.prog ops Q (o :: rest) a (w.alloc (.cells #[.bool y] 4)) := by
  obtain ⟨i0, hi, hz0, hz1, hz2⟩ := info_parts Try.infoBool
  have u : Upd NoB w (w.alloc (.cells #[.bool y] 4)) := (Upd.refl _ _).alloc _
  refine wpList_append_own (w := w.alloc (.cells #[.bool y] 4)) hgd s x 27 ho B 4 i0 (.bool false) 1 1 Try.underlying27 hi hz0 hz1 hz2 rfl (by decide) v n (bls xs) hs (u.row hown (fun k _ => noB k)) ⟨w.heap.size, 0, none⟩ 1 1 [.bool y] hx rfl (World.news_of_block (heap_alloc_new w _)) (by intro u hu; rw [List.mem_singleton] at hu; subst hu; rfl) (by unfold maxLen; omega) (by omega) (Nat.le_trans hB u.size) ?_
  intro v' w' hown' hgr _
  refine hK v' w' (by rw [bls_append]; exact hown') ?_
  exact ((u.mono (T := fun k => B ≤ k) (fun _ _ h => h.elim))).grown hgr (fun k hk _ => (hown.lt k hk).1)
theorem ofB_take {ks : List Int} {k : Nat} {x : Int} (h : ks[k]? = some x) : (ofB ks).take (k + 1) = (ofB ks).take k ++ [decide (x = 2)] := by
  rw [List.take_add_one]
  unfold ofB
  rw [List.getElem?_map, h]
  rfl
set_option maxRecDepth 100000 in
set_option maxHeartbeats 4000000 in
theorem rOf_any (v : Value) (ks : List Int) (w : World) (h : Ints w v ks) : Calls Try.prog 29 #[v] w (EBls w (ofS ks) (ofE ks)) := by
  obtain ⟨a, cap, rfl⟩ := h.form
  have H := Lib.hid h
  have hlb := h.1
  obtain ⟨L, hL⟩ : ∃ L, ks.length = L := ⟨_, rfl⟩
  have HL := Lib.hid hL
  rw [hL] at H hlb ⊢
  clear h hL
  by_cases h1 : 64 < L
  · have hE : ofE ks = 2 := if_pos (by rw [HL.out]; exact h1)
    have HS := Lib.hid (ofS_bad hE (by decide)); have HE := Lib.hid hE
    rw [HS.out, HE.out]
    have t1 : decide ((64 : Int) < (L : Int)) = true := decide_eq_true (by omega)
    clear h1 hlb hE
    go_enter Try.func29, Try.ntmps29
    go_wp2_with fail
    go_ret2
    exact ⟨none, 0, 0, rfl, World.ownsRow_nil _ _ _ _, Upd.refl _ _⟩
  have t1 : decide ((64 : Int) < (L : Int)) = false := decide_eq_false (by omega)
  have HE1 := Lib.hid (show ofE ks = if allIn 0 4 ks then (if kds (ofB ks) = ks then 0 else 4) else 1 from if_neg (by rw [HL.out]; exact h1))
  have HOb := Lib.hid (show (ofB ks).length = L by unfold ofB; rw [List.length_map, HL.out])
  have HKl := Lib.hid (show (kds (ofB ks)).length = L by rw [kds_length, HOb.out])
  have hl : L ≤ 64 := by omega
  clear h1 hlb
  go_enter Try.func29, Try.ntmps29
  go_wp2_with fail
  go_loopw [4, 14] (fun v i wr => ∃ k : Nat, k ≤ L ∧ i = .int .i64 k ∧ (∀ (j : Nat) (y : Int), j < k → ks[j]? = some y → 0 ≤ y ∧ y ≤ 4) ∧ wr.ownsRow w.heap.size 4 1 v k (bls ((ofB ks).take k)) ∧ Upd NoB w wr) (fun _ i _ => L - (intOf i).toNat)
  case atStart => exact ⟨0, Nat.zero_le _, rfl, fun j y hj => by omega, World.ownsRow_nil _ _ _ _, Upd.refl _ _⟩
  case round =>
    obtain ⟨k, hk, rfl, hin, hown, hu⟩ := hrel
    obtain ⟨va, vc, rfl⟩ := row_form hown
    have HIn := Lib.hid hin; have HOw := Lib.hid hown; have HU := Lib.hid hu
    clear hin hown hu
    by_cases hlt : k < L
    · obtain ⟨x, hx⟩ : ∃ x, ks[k]? = some x := ⟨_, List.getElem?_eq_getElem (by rw [HL.out]; exact hlt)⟩
      have HT := Lib.hid (ofB_take hx)
      have hX := H.out.later HU.out
      obtain ⟨b, off, rfl, c0⟩ := hX.cellAt hx
      have hb := HU.out.size
      have bad : ¬ (0 ≤ x ∧ x ≤ 4) → ofE ks = 1 ∧ ofS ks = [] := fun hx' => by
        have h1 : ofE ks = 1 := by rw [HE1.out, allIn_not hx hx']; rfl
        exact ⟨h1, ofS_bad h1 (by decide)⟩
      by_cases g1 : x < 0
      · obtain ⟨e1, e2⟩ := bad (by omega)
        have E1 := Lib.hid e1; have E2 := Lib.hid e2
        have s1 : decide (x < 0) = true := decide_eq_true g1
        clear hx g1 bad e1 e2 hX
        go_wp2_with fail
        go_ret2
        exact ⟨none, 0, 0, by rw [E1.out]; rfl, by rw [E2.out]; exact World.ownsRow_nil _ _ _ _, HU.out⟩
      have s1 : decide (x < 0) = false := decide_eq_false g1
      by_cases g2 : 4 < x
      · obtain ⟨e1, e2⟩ := bad (by omega)
        have E1 := Lib.hid e1; have E2 := Lib.hid e2
        have s2 : decide ((4 : Int) < x) = true := decide_eq_true g2
        clear hx g1 g2 bad e1 e2 hX
        go_wp2_with fail
        go_ret2
        exact ⟨none, 0, 0, by rw [E1.out]; rfl, by rw [E2.out]; exact World.ownsRow_nil _ _ _ _, HU.out⟩
      have s2 : decide ((4 : Int) < x) = false := decide_eq_false g2
      have HM := Lib.hid (show ∀ (j : Nat) (y : Int), j < k + 1 → ks[j]? = some y → 0 ≤ y ∧ y ≤ 4 from fun j y hj hy => by
        by_cases e : j = k
        · subst e; rw [hx] at hy; cases hy; omega
        · exact HIn.out j y (by omega) hy)
      generalize (ofB ks).take k = ys at *
      clear hx g1 g2 bad hX
      go_wp2_with (at_builtin; refine wpList_pushb rfl (.tmp 24) (.tmp 27) rfl w.heap.size (.slice va k vc) k ys (decide (x = 2)) rfl rfl HOw.out (by omega) hb ?_; intro v' w' hown' u'; have R' := Lib.hid hown'; have U' := Lib.hid u'; clear hown' u')
      go_roundw
      case rel => exact ⟨k + 1, by omega, by go_num, HM.out, by rw [HT.out]; exact R'.out, upd_ge ((upd_ge' HU.out w.heap.size).trans U'.out (fun _ _ h => h))⟩
      case measure => simp [intOf]; omega
    · obtain rfl : k = L := by omega
      have hall : allIn 0 4 ks = true := allIn_of fun j y hy => HIn.out j y (by have := (List.getElem?_eq_some_iff.1 hy).1; rw [HL.out] at this; exact this) hy
      have HE := Lib.hid (show ofE ks = if kds (ofB ks) = ks then 0 else 4 by rw [HE1.out, hall]; rfl)
      have hT : (ofB ks).take k = ofB ks := List.take_of_length_le (by rw [HOb.out]; exact Nat.le_refl _)
      have r1 : wr.ownsRow w.heap.size 4 1 (.slice va k vc) k (bls (ofB ks)) := by have := HOw.out; rw [hT] at this; exact this
      have R1 := Lib.hid r1
      have B1 := Lib.hid (show Bls wr (.slice va k vc) (ofB ks) from Bls.ofRow (by rw [HOb.out]; exact r1) (by rw [HOb.out]; omega))
      have HK := Lib.hid (rkinds_any _ (ofB ks) wr B1.out (by rw [HOb.out]; exact hl))
      clear hall hT r1
      go_wp2_with fail
      refine HK.out.mono ?_
      rintro e w2 ⟨vk, rfl, r2, u2⟩
      obtain ⟨ak, ck, rfl⟩ := row_form r2
      have IK := Lib.hid (Ints.ofRow r2 (by rw [HKl.out]; omega)); have U2 := Lib.hid (HU.out.then u2); have R2 := Lib.hid (u2.row R1.out (fun j _ => noB j)); have H2 := Lib.hid (H.out.later (HU.out.then u2))
      rw [HKl.out] at IK ⊢
      clear r2 u2 HOw HIn
      go_wp2_with fail
      go_loop [33] (fun i => ∃ j : Nat, j ≤ k ∧ i = .int .i64 j ∧ (∀ q, q < j → (kds (ofB ks))[q]? = ks[q]?)) (fun i => k - (intOf i).toNat)
      case atStart => exact ⟨0, Nat.zero_le _, rfl, fun q hq => by omega⟩
      case round =>
        obtain ⟨j, hj, rfl, heq⟩ := hrel
        have HQ := Lib.hid heq; clear heq
        by_cases hlt2 : j < k
        · obtain ⟨x, hx⟩ : ∃ x, ks[j]? = some x := ⟨_, List.getElem?_eq_getElem (by rw [HL.out]; exact hlt2)⟩
          obtain ⟨y, hy⟩ : ∃ y, (kds (ofB ks))[j]? = some y := ⟨_, List.getElem?_eq_getElem (by rw [HKl.out]; exact hlt2)⟩
          obtain ⟨b, off, rfl, c0⟩ := H2.out.cellAt hx
          obtain ⟨b2, off2, rfl, c2⟩ := IK.out.cellAt hy
          by_cases hxy : x = y
          · subst hxy
            have HQ2 := Lib.hid (show ∀ q, q < j + 1 → (kds (ofB ks))[q]? = ks[q]? from fun q hq => by
              by_cases e : q = j
              · subst e; rw [hx, hy]
              · exact HQ.out q (by omega))
            clear hx hy
            go_wp2_with fail
            go_round
            case rel => exact ⟨j + 1, by omega, by go_num, HQ2.out⟩
            case measure => simp [intOf]; omega
          · have hE : ofE ks = 4 := by rw [HE.out, if_neg (fun e => hxy (by rw [e, hx] at hy; cases hy; rfl))]
            have E1 := Lib.hid hE; have E2 := Lib.hid (ofS_bad hE (by decide))
            have t5 : (x != y) = true := by rw [bne_iff_ne]; exact hxy
            clear hx hy hxy hE
            go_wp2_with fail
            go_ret2
            exact ⟨none, 0, 0, by rw [E1.out]; rfl, by rw [E2.out]; exact World.ownsRow_nil _ _ _ _, U2.out⟩
        · obtain rfl : j = k := by omega
          have hkk : kds (ofB ks) = ks := List.ext_getElem? fun q => by
            by_cases hq : q < j
            · exact HQ.out q hq
            · rw [List.getElem?_eq_none (by rw [HKl.out]; omega), List.getElem?_eq_none (by rw [HL.out]; omega)]
          have hE : ofE ks = 0 := by rw [HE.out, if_pos hkk]
          have E1 := Lib.hid hE; have E2 := Lib.hid (show ofS ks = ofB ks from if_pos hE)
          clear hkk hE
          go_wp2_with fail
          go_ret2
          exact ⟨_, _, _, by rw [E1.out]; rfl, by rw [E2.out, HOb.out]; exact R2.out, U2.out⟩
set_option maxRecDepth 100000 in
set_option maxHeartbeats 4000000 in
theorem of_law (v : Value) (ks : List Int) (w : World) (h : Ints w v ks) :
    Calls Try.prog 5 #[v] w fun e w' => e = .returned (.bool true) ∧ Upd NoB w w' := by
  obtain ⟨a, cap, rfl⟩ := h.form
  have H := Lib.hid h
  obtain ⟨L, hL⟩ : ∃ L, ks.length = L := ⟨_, rfl⟩
  rw [hL] at H ⊢
  clear h hL
  by_cases h1 : 100 < L
  · have t1 : decide ((100 : Int) < (L : Int)) = true := decide_eq_true (by omega)
    clear h1
    go_enter Try.func5, Try.ntmps5
    go_wp2_with (go_at_call 11; refine (awake_any _).mono ?_; rintro e w' ⟨rfl, u9⟩; have U9 := Lib.hid u9; clear u9)
    go_ret
    exact ⟨rfl, U9.out⟩
  have t1 : decide ((100 : Int) < (L : Int)) = false := decide_eq_false (by omega)
  have HO1 := Lib.hid (Of_any (.slice a L cap) ks w H.out)
  have HO2 := Lib.hid (fun w' (u : Upd NoB w w') => rOf_any (.slice a L cap) ks w' (H.out.later u))
  have HSl := Lib.hid (show (ofS ks).length ≤ 1000 ∨ 1000 < (ofS ks).length by omega)
  have HB := Lib.hid (show (ofS ks).length ≤ 64 by
    by_cases h0 : ofE ks = 0
    · unfold ofS; rw [if_pos h0]
      unfold ofE at h0
      split at h0
      · cases h0
      · unfold ofB; rw [List.length_map]; omega
    · rw [ofS_bad rfl h0]; exact Nat.zero_le _)
  generalize ofS ks = ys at *
  generalize ofE ks = E at *
  clear h1 HSl
  go_enter Try.func5, Try.ntmps5
  go_wp2_with fail
  (with_reducible refine HO1.out.mono ?_)
  rintro e w1 ⟨a1, n1, k1, rfl, r1, u1⟩
  obtain rfl := row_len r1
  have I1 := Lib.hid (Bls.ofRow r1 (by have := HB.out; omega)); have U1 := Lib.hid u1
  clear r1 u1
  go_wp2_with fail
  (with_reducible refine (HO2.out w1 U1.out).mono ?_)
  rintro e w2 ⟨a2, n2, k2, rfl, r2, u2⟩
  obtain rfl := row_len r2
  have I2 := Lib.hid (Bls.ofRow r2 (by have := HB.out; omega)); have I12 := Lib.hid (I1.out.later u2); have U2 := Lib.hid (U1.out.then u2)
  clear r2 u2
  go_wp2_with fail
  refine (rBools_any _ _ ys ys w2 I12.out I2.out).mono ?_
  rw [blsB_self]
  rintro e w3 ⟨rfl, n3, rfl⟩
  have U3 := Lib.hid (upd_drewN U2.out n3)
  generalize w2.drewN n3 = w3 at *
  go_wp2_with (go_at_call 11; refine (awake_any _).mono ?_; rintro e w' ⟨rfl, u9⟩; have U9 := Lib.hid u9; clear u9)
  go_ret
  exact ⟨rfl, U3.out.then U9.out⟩
end Go.Proofs.Ytmkbpocibpjjaaa
