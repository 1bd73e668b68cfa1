/- rice: the reference's Order -/
import Derived.Test.YtmdladcfckoglaaKP
namespace Go.Proofs.Ytmdladcfckoglaa
open Go.RowKit Go.Shelf

theorem Try.infoSl : (Try.prog.info? 27).map (fun i => (i.zero, i.size, i.bytes)) = some (some (.slice none 0 0), 1, 24) := by kernel_rfl
def subRows (a : Option Addr) (cap N k : Nat) : List Value := (List.range k).map (subV a cap N)
theorem subRows_len (a : Option Addr) (cap N k : Nat) : (subRows a cap N k).length = k := by simp [subRows]
theorem subRows_snoc (a : Option Addr) (cap N k : Nat) : subRows a cap N (k + 1) = subRows a cap N k ++ [subV a cap N k] := by simp [subRows, List.range_succ]
theorem subRows_get (a : Option Addr) (cap N M k : Nat) (h : k < M) : (subRows a cap N M)[k]? = some (subV a cap N k) := by simp [subRows, h]
theorem subV_one (a : Option Addr) (cap N k : Nat) : (subV a cap N k).oneCell' = true := rfl
set_option maxRecDepth 100000 in
set_option maxHeartbeats 2000000 in
theorem rparts_any (xa : Option Addr) (cap L N M p : Nat) (w : World) (hp : p ≤ 3) (hl : L ≤ 8192) (hcap : L ≤ cap) (h1 : (L : Int) / 2 ^ p = (N : Int)) (h2 : (2 : Int) ^ p = (M : Int)) (hM : M ≤ 8) (hN : N ≤ 8192) (hML : M * N ≤ L) :
    Calls Try.prog 83 #[.slice xa L cap, .int .i64 (p : Int)] w fun e w' => ∃ v, e = .returned v ∧ w'.ownsRow w.heap.size 27 1 v M (subRows xa cap N M) ∧ Upd NoB w w' := by
  have h1' : (L : Int) / (M : Int) = (N : Int) := by rw [← h2]; exact h1
  clear h1
  have w1 : wrap64 (M : Int) = (M : Int) := by clear h1' h2 hML; exact IntWalk.wrap64_in _ (by omega)
  obtain ⟨i0, hi, hz0, hz1, hz2⟩ := info_parts Try.infoSl
  have HML := Lib.hid hML; clear hML
  go_enter Try.func83, Try.ntmps83
  go_wp2_with fail
  go_loopw [6, 14] (fun v i wr => ∃ k : Nat, k ≤ M ∧ i = .int .i64 k ∧ wr.ownsRow w.heap.size 27 1 v k (subRows xa cap N k) ∧ Upd NoB w wr) (fun _ i _ => M - (intOf i).toNat)
  case atStart => exact ⟨0, Nat.zero_le _, rfl, World.ownsRow_nil _ _ _ _, Upd.refl _ _⟩
  case round =>
    obtain ⟨k, hk, rfl, hown, hu⟩ := hrel
    have HO := Lib.hid hown; have HU := Lib.hid hu
    obtain ⟨va, vc, rfl⟩ := row_form hown
    clear hown hu
    by_cases hlt : k < M
    · have hin := part_in hlt HML.out
      obtain ⟨P1, hP1⟩ : ∃ P1, P1 = k * N := ⟨_, rfl⟩
      obtain ⟨P2, hP2⟩ : ∃ P2, P2 = k * N + N := ⟨_, rfl⟩
      have m1 : (k : Int) * (N : Int) = (P1 : Int) := by rw [hP1]; simp
      have m2 : (P1 : Int) + (N : Int) = (P2 : Int) := by rw [hP2, hP1]; simp
      rw [← hP2] at hin
      have hle : P1 ≤ P2 := by rw [hP1, hP2]; omega
      have hrun := fun w => run_sub w xa L cap P1 P2 N k hP1 hP2 (by clear m1 m2 hP1 hP2 h1' h2; omega)
      have Hsn := Lib.hid (subRows_snoc xa cap N k)
      have Hone := Lib.hid (subV_one xa cap N k)
      obtain ⟨sa, sc, hsv⟩ : ∃ a c, subV xa cap N k = .slice a N c := ⟨_, _, rfl⟩
      rw [hsv] at hrun Hsn Hone
      clear hsv
      have wk1 : wrap64 (P1 : Int) = (P1 : Int) := by clear m1 m2 hP1 hP2 h1' h2 hrun w1; exact IntWalk.wrap64_in _ (by omega)
      have wk2 : wrap64 (P2 : Int) = (P2 : Int) := by clear m1 m2 hP1 hP2 h1' h2 hrun w1 wk1; exact IntWalk.wrap64_in _ (by omega)
      have HP1 := Lib.hid hP1; have HP2 := Lib.hid hP2
      have hb1 : k + 1 ≤ maxLen := by unfold maxLen; omega
      have hb2 : (k + 1) * 24 ≤ 140737488355328 := by omega
      clear hP1 hP2
      have uA : Upd NoB wr (wr.alloc (.cells #[.slice sa N sc] 27)) := (Upd.refl _ _).alloc _
      have HR := Lib.hid (uA.row HO.out (fun j _ => noB j))
      have HN := Lib.hid (World.news_of_block (heap_alloc_new wr (.cells #[.slice sa N sc] 27)))
      have HB := Lib.hid (show w.heap.size ≤ (wr.alloc (.cells #[.slice sa N sc] 27)).heap.size by have := HU.out.size; rw [size_alloc]; omega)
      clear uA
      clear hin hle
      go_wp2_with (first | (refine wpList_append_own (w := wr.alloc (.cells #[.slice sa N sc] 27)) rfl (.tmp 17) (.tmp 28) 103 rfl w.heap.size 27 i0 (.slice none 0 0) 1 24 Try.underlying103 hi hz0 hz1 hz2 rfl (by decide) (.slice va k vc) k (subRows xa cap N k) rfl HR.out ⟨wr.heap.size, 0, none⟩ 1 1 [.slice sa N sc] rfl rfl HN.out (by intro u hu; rw [List.mem_singleton] at hu; subst hu; exact Hone.out) hb1 hb2 HB.out ?_; intro v' w' hown' hgr _; have R' := Lib.hid hown'; have U' := Lib.hid (show Upd NoB w w' from (HU.out.alloc _).grown hgr (fun j hj hlt => by have := (HO.out.lt j hj).1; omega)); clear hown' hgr))
      go_roundw
      case rel => exact ⟨k + 1, by omega, by go_num, by rw [Hsn.out]; exact R'.out, U'.out⟩
      case measure => simp [intOf]; omega
    · obtain rfl : k = M := by omega
      go_wp2
      go_ret
      exact ⟨_, rfl, HO.out, HU.out⟩
set_option maxRecDepth 100000 in
set_option maxHeartbeats 2000000 in
theorem whole_any (xv : Value) (xs : List Int) (p : Nat) (w : World) (h : Ints w xv xs) (hn : NumL xs) (hp : p ≤ 3) :
    Calls Try.prog 92 #[xv, .int .i64 (p : Int)] w fun e w' => e = .returned (.int .i64 (whole xs p : Nat)) ∧ Upd NoB w w' := by
  obtain ⟨xa, cap, rfl⟩ := h.form
  have hcap : xs.length ≤ cap := by obtain ⟨_, _, _, e, ⟨hc, _⟩, _⟩ := h; cases e; exact hc
  have hl := hn.1
  obtain ⟨M, hM⟩ : ∃ M, 2 ^ p = M := ⟨_, rfl⟩
  obtain ⟨N, hN⟩ : ∃ N, xs.length / 2 ^ p = N := ⟨_, rfl⟩
  have hM8 : M ≤ 8 := by rw [← hM]; exact Nat.pow_le_pow_right (n := 2) (by decide) hp
  have h2 : (2 : Int) ^ p = (M : Int) := by rw [← hM]; simp
  have h1 : (xs.length : Int) / 2 ^ p = (N : Int) := by rw [← hN]; simp
  have hML : M * N ≤ xs.length := by rw [← hN, ← hM]; exact Nat.mul_div_le _ _
  have hN8 : N ≤ 8192 := by rw [← hN]; exact Nat.le_trans (Nat.div_le_self _ _) hl
  have HW0 := Lib.hid (show whole xs p = wholeTo xs N M by unfold whole; rw [hN, hM])
  have HP := Lib.hid (rparts_any xa cap xs.length N M p w hp hl hcap h1 h2 hM8 hN8 hML)
  have Hsub := Lib.hid (fun (w' : World) (i : Nat) (hi : i < M) (hx : Ints w' (.slice xa xs.length cap) xs) => subV_ints (N := N) hx hi hML)
  have HX := Lib.hid h; have HN := Lib.hid hn
  obtain ⟨L, hL⟩ : ∃ L, xs.length = L := ⟨_, rfl⟩
  rw [hL] at HP Hsub HX ⊢
  clear h hn hM hN h1 h2 hML hL hcap hl
  go_enter Try.func92, Try.ntmps92
  go_wp2_with fail
  refine HP.out.mono ?_
  rintro e w1 ⟨v, rfl, hr, u1⟩
  obtain ⟨va, vc, rfl⟩ := row_form hr
  have HR := Lib.hid hr; have U1 := Lib.hid u1
  clear hr u1
  go_wp2_with fail
  go_loop [5, 14] (fun n i => ∃ k : Nat, k ≤ M ∧ i = .int .i64 k ∧ n = .int .i64 (wholeTo xs N k : Nat)) (fun _ i => M - (intOf i).toNat)
  case atStart => exact ⟨0, Nat.zero_le _, rfl, rfl⟩
  case round =>
    obtain ⟨k, hk, rfl, rfl⟩ := hrel
    by_cases hlt : k < M
    · obtain ⟨g, gc, e⟩ := row_slice HR.out (show 0 < M by omega)
      injection e with e1 e2 e3
      subst e1
      have hcell : w1.cell? ⟨g, k, none⟩ = some (subV xa cap N k) := by
        have := HR.out.cells (g := g) rfl k _ (subRows_get xa cap N M k hlt)
        rwa [addr_add, Nat.zero_add] at this
      have hsub := Hsub.out w1 k hlt (HX.out.later U1.out)
      have HB := Lib.hid (rbest_any _ _ w1 hsub (HN.out.part N k))
      have hwl := wholeTo_le xs N k
      have h466 := lc_all_le (HN.out.part N k) (bst_le (partOf xs N k))
      have hk8 : k * (4 + 57 * N) ≤ 8 * 466948 := Nat.mul_le_mul (by omega) (by omega)
      have HS := Lib.hid (show wholeTo xs N (k + 1) = wholeTo xs N k + (4 + lc (partOf xs N k) (bst (partOf xs N k))) from rfl)
      generalize lc (partOf xs N k) (bst (partOf xs N k)) = z at *
      generalize bst (partOf xs N k) = m at *
      generalize wholeTo xs N k = c at *
      generalize subV xa cap N k = sv at *
      have hc9 : c ≤ 4000000 := by omega
      clear hwl hk8 hsub e3
      go_wp2_with (go_at_call 59; refine HB.out.mono ?_; rintro e w' ⟨rfl, rfl⟩)
      go_round
      case rel => exact ⟨k + 1, by omega, by go_num, by rw [HS.out]; go_num⟩
      case measure => simp [intOf]; omega
    · obtain rfl : k = M := by omega
      rw [← HW0.out]
      go_wp2
      go_ret
      exact ⟨rfl, U1.out⟩
set_option maxRecDepth 100000 in
set_option maxHeartbeats 1000000 in
theorem divided_any (n p : Nat) (w : World) (hn : n ≤ 8192) (hp : p ≤ 3) : Calls Try.prog 93 #[.int .i64 (n : Int), .int .i64 (p : Int)] w fun e w' => e = .returned (.bool (canB n p)) ∧ w = w' := by
  have HB := Lib.hid (canB_num n p)
  rw [HB.out]
  obtain ⟨m, hm⟩ : ∃ m, 2 ^ p = m := ⟨_, rfl⟩
  have hm2 : (2 : Int) ^ p = (m : Int) := by rw [← hm]; simp
  have hmpos : 0 < m := by rw [← hm]; exact Nat.two_pow_pos p
  have hm8 : m ≤ 8 := by rw [← hm]; exact Nat.pow_le_pow_right (n := 2) (by decide) hp
  rw [hm]
  have er : (n : Int) % (m : Int) = ((n % m : Nat) : Int) := by simp
  have hmw : wrap64 (m : Int) = (m : Int) := IntWalk.wrap64_in _ (by omega)
  have hmz : ((m : Int) == 0) = false := by rw [Bool.eq_false_iff]; intro hh; have := beq_iff_eq.1 hh; omega
  have h1 : p = 0 → n % m = 0 := fun h => by subst h; rw [← hm]; exact Nat.mod_one n
  have h2' : 0 < n ∨ n % m = 0 := by
    rcases Nat.eq_zero_or_pos n with h | h
    · right; subst h; exact Nat.zero_mod m
    · exact .inl h
  generalize n % m = r at *
  clear HB hm
  by_cases hr : r = 0
  · subst hr
    by_cases h0 : 0 < n
    · have t1 : decide ((0 : Int) < (n : Int)) = true := decide_eq_true (by omega)
      have t1' : decide (0 < n) = true := decide_eq_true h0
      rw [show (decide (p = 0) || (decide (0 < n) && decide (0 = 0))) = true by rw [t1']; simp]
      clear h1 h2' h0
      go_enter Try.func93, Try.ntmps93
      go_wp2
      go_ret
      exact ⟨rfl, rfl⟩
    · obtain rfl : n = 0 := by omega
      rw [show (decide (p = 0) || (decide (0 < 0) && decide (0 = 0))) = decide (p = 0) by simp]
      have t0 : ((p : Int) == 0) = decide (p = 0) := by
        by_cases hp0 : p = 0
        · subst hp0; rfl
        · rw [decide_eq_false hp0, Bool.eq_false_iff]; intro hh; have := beq_iff_eq.1 hh; omega
      clear h1 h2' h0 er
      go_enter Try.func93, Try.ntmps93
      go_wp2
      go_ret
      exact ⟨by first | rfl | (rw [t0]) | simp, rfl⟩
  · have t2 : ((r : Int) == 0) = false := by rw [Bool.eq_false_iff]; intro hh; have := beq_iff_eq.1 hh; omega
    rw [show (decide (p = 0) || (decide (0 < n) && decide (r = 0))) = false by
      rw [decide_eq_false hr, decide_eq_false (fun h => hr (h1 h))]; simp]
    clear h1 h2' hr
    go_enter Try.func93, Try.ntmps93
    go_wp2
    go_ret
    exact ⟨rfl, rfl⟩
theorem whole_le {xs : List Int} (h : NumL xs) {p : Nat} (hp : p ≤ 3) : whole xs p ≤ 4000000 := by
  unfold whole
  have h1 := wholeTo_le xs (xs.length / 2 ^ p) (2 ^ p)
  have h2 : 2 ^ p ≤ 8 := Nat.pow_le_pow_right (n := 2) (by decide) hp
  have h3 : xs.length / 2 ^ p ≤ 8192 := Nat.le_trans (Nat.div_le_self _ _) h.1
  have h4 : 2 ^ p * (4 + 57 * (xs.length / 2 ^ p)) ≤ 8 * 466948 := Nat.mul_le_mul h2 (by omega)
  omega
set_option maxRecDepth 100000 in
set_option maxHeartbeats 2000000 in
theorem rorder_any (xv : Value) (xs : List Int) (w : World) (h : Ints w xv xs) (hn : NumL xs) :
    Calls Try.prog 61 #[xv] w fun e w' => e = .returned (.tuple #[.int .i64 (ord xs : Nat), .int .i64 (whole xs (ord xs) : Nat)]) ∧ Upd NoB w w' := by
  obtain ⟨xa, cap, rfl⟩ := h.form
  have HWh := Lib.hid (fun (p : Nat) (hp : p ≤ 3) (w' : World) (u : Upd NoB w w') => whole_any _ xs p w' (h.later u) hn hp)
  have HW0 := Lib.hid (whole_any _ xs 0 w h hn (by omega))
  have HBd := Lib.hid (fun (p : Nat) (hp : p ≤ 3) => whole_le hn hp)
  have HO := Lib.hid (show ord xs = omin xs 3 from rfl)
  have hl := hn.1
  have HDv := Lib.hid (fun (p : Nat) (hp : p ≤ 3) (w' : World) => divided_any xs.length p w' hl hp)
  have HS := Lib.hid (fun p => show omin xs (p + 1) = if canB xs.length (p + 1) = true ∧ whole xs (p + 1) < whole xs (omin xs p) then p + 1 else omin xs p from rfl)
  have HLe := Lib.hid (omin_le xs)
  have H00 := Lib.hid (show omin xs 0 = 0 from rfl)
  rw [HO.out]
  clear h hn
  generalize whole xs = f at *
  generalize omin xs = g at *
  generalize xs.length = L at *
  go_enter Try.func61, Try.ntmps61
  go_wp2_with fail
  refine HW0.out.mono ?_
  rintro e w1 ⟨rfl, u1⟩
  have U1 := Lib.hid u1; clear u1
  go_wp2_with fail
  go_loopw [4, 5, 6, 7] (fun a l i _ wr => ∃ k : Nat, k ≤ 3 ∧ i = .int .i64 (k + 1 : Nat) ∧ a = .int .i64 (g k : Nat) ∧ l = .int .i64 (f (g k) : Nat) ∧ Upd NoB w wr) (fun _ _ i _ _ => 16 - (intOf i).toNat)
  case atStart => exact ⟨0, Nat.zero_le _, rfl, by rw [H00.out]; rfl, by rw [H00.out], U1.out⟩
  case round =>
    obtain ⟨k, hk, rfl, rfl, rfl, hu⟩ := hrel
    have HU := Lib.hid hu; clear hu
    have hg := HLe.out k
    have hb1 := HBd.out (g k) (by omega)
    by_cases hlt : k < 3
    · have hb2 := HBd.out (k + 1) (by omega)
      have HD := Lib.hid (HDv.out (k + 1) (by omega) wr)
      have HWk := Lib.hid (HWh.out (k + 1) (by omega) wr HU.out)
      have HSk := Lib.hid (HS.out k)
      cases hc : canB L (k + 1) with
      | false =>
        have HG := Lib.hid (show g (k + 1) = g k by rw [HSk.out, hc, if_neg (by simp)])
        have HF := Lib.hid (show f (g (k + 1)) = f (g k) by rw [HG.out])
        have Hc := Lib.hid hc
        generalize f (g k) = p at *
        clear hc HSk
        go_wp2_with (go_at_call 93; refine HD.out.mono ?_; rw [Hc.out]; rintro e w' ⟨rfl, rfl⟩)
        go_roundw
        case rel => exact ⟨k + 1, by omega, by go_num, by rw [HG.out], by rw [HF.out], HU.out⟩
        case measure => simp [intOf]; omega
      | true =>
        have Hc := Lib.hid hc
        by_cases hw : f (k + 1) < f (g k)
        · have HG := Lib.hid (show g (k + 1) = k + 1 by rw [HSk.out, hc, if_pos ⟨rfl, hw⟩])
          have HF := Lib.hid (show f (g (k + 1)) = f (k + 1) by rw [HG.out])
          generalize f (g k) = p at *
          generalize f (k + 1) = q at *
          have t : decide ((q : Int) < (p : Int)) = true := decide_eq_true (by omega)
          have t2 : decide (q < p) = true := decide_eq_true hw
          clear hc hw HSk
          go_wp2_with (first | (go_at_call 93; refine HD.out.mono ?_; rw [Hc.out]; rintro e w' ⟨rfl, rfl⟩) | (go_at_call 92; refine HWk.out.mono ?_; rintro e w3 ⟨rfl, u3⟩; have U3 := Lib.hid (HU.out.then u3); clear u3))
          go_roundw
          case rel => exact ⟨k + 1, by omega, by go_num, by rw [HG.out]; go_num, by rw [HF.out], U3.out⟩
          case measure => simp [intOf]; omega
        · have HG := Lib.hid (show g (k + 1) = g k by rw [HSk.out, if_neg (fun h => hw h.2)])
          have HF := Lib.hid (show f (g (k + 1)) = f (g k) by rw [HG.out])
          have t2 : decide (f (k + 1) < f (g k)) = false := decide_eq_false hw
          generalize f (g k) = p at *
          generalize f (k + 1) = q at *
          have t : decide ((q : Int) < (p : Int)) = false := decide_eq_false (by omega)
          clear hc hw HSk
          go_wp2_with (first | (go_at_call 93; refine HD.out.mono ?_; rw [Hc.out]; rintro e w' ⟨rfl, rfl⟩) | (go_at_call 92; refine HWk.out.mono ?_; rintro e w3 ⟨rfl, u3⟩; have U3 := Lib.hid (HU.out.then u3); clear u3))
          go_roundw
          case rel => exact ⟨k + 1, by omega, by go_num, by rw [HG.out], by rw [HF.out], U3.out⟩
          case measure => simp [intOf]; omega
    · obtain rfl : k = 3 := by omega
      go_wp2
      go_ret2
      exact ⟨rfl, HU.out⟩
set_option maxRecDepth 100000 in
set_option maxHeartbeats 1000000 in
theorem rOrder_any (xv : Value) (xs : List Int) (w : World) (h : Ints w xv xs) : Calls Try.prog 22 #[xv] w fun e w' => e = .returned (.tuple #[.int .i64 (ordK xs), .int .i64 (ordC xs), .int .i64 (listE xs)]) ∧ Upd NoB w w' := by
  have HL := Lib.hid (listed_any xv xs w h)
  by_cases h0 : listE xs = 0
  · have HK := Lib.hid (show ordK xs = (ord xs : Nat) from if_pos h0)
    have HS := Lib.hid (show ordC xs = (whole xs (ord xs) : Nat) from if_pos h0)
    have HC := Lib.hid (rorder_any xv xs w h (NumL.ofE h0))
    have H0 := Lib.hid h0
    clear h0 h
    rw [HS.out, HK.out, H0.out]
    rw [H0.out] at HL
    go_enter Try.func22, Try.ntmps22
    go_wp2_with (first | (go_at_call 56; refine HL.out.mono ?_; rintro e w' ⟨rfl, rfl⟩) | (go_at_call 61; refine HC.out.mono ?_; rintro e w3 ⟨rfl, u3⟩; have U3 := Lib.hid u3; clear u3))
    go_ret3
    exact ⟨rfl, U3.out⟩
  · have HK := Lib.hid (show ordK xs = 0 from if_neg h0)
    have HS := Lib.hid (show ordC xs = 0 from if_neg h0)
    have t : (listE xs != 0) = true := by simpa using h0
    clear h0 h
    rw [HS.out, HK.out]
    generalize listE xs = E at *
    go_enter Try.func22, Try.ntmps22
    go_wp2_with (go_at_call 56; refine HL.out.mono ?_; rintro e w' ⟨rfl, rfl⟩)
    go_ret3
    exact ⟨rfl, Upd.refl _ _⟩
end Go.Proofs.Ytmdladcfckoglaa
