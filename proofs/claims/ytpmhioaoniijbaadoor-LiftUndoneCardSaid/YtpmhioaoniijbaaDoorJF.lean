/- turnBy, Turn, Back -/
import Derived.Test.YtpmhioaoniijbaaDoorJD
namespace Go.Proofs.YtpmhioaoniijbaaDoor
open Go.RowKit Go.Shelf

theorem i64_mask_pow (n : Int) (k : Nat) (hk : k < 63) : Go.bits .and .i64 n (((2 ^ k : Nat) : Int) - 1) = n % ((2 ^ k : Nat) : Int) := by
  have hp := Nat.two_pow_pos k
  have hlt : 2 ^ k < 2 ^ 63 := Nat.pow_lt_pow_right (by omega) hk
  have h1 : (BitVec.ofInt 64 (((2 ^ k : Nat) : Int) - 1)).toNat = 2 ^ k - 1 := by
    rw [BitVec.toNat_ofInt]
    have e : ((2 ^ k : Nat) : Int) - 1 = ((2 ^ k - 1 : Nat) : Int) := by omega
    rw [e]
    generalize 2 ^ k = p at *
    omega
  have key : (BitVec.ofInt 64 n &&& BitVec.ofInt 64 (((2 ^ k : Nat) : Int) - 1)).toNat = (n % ((2 ^ 64 : Nat) : Int)).toNat % 2 ^ k := by
    rw [BitVec.toNat_and, BitVec.toNat_ofInt, h1, Nat.and_two_pow_sub_one_eq_mod]
  show IntKind.i64.wrap ((BitVec.ofInt 64 n &&& BitVec.ofInt 64 (((2 ^ k : Nat) : Int) - 1)).toNat : Nat) = _
  rw [key]
  have hm := Nat.mod_lt (n % ((2 ^ 64 : Nat) : Int)).toNat hp
  rw [IntWalk.i64_in _ (by omega), Int.natCast_emod, Int.toNat_of_nonneg (Int.emod_nonneg _ (by decide))]
  refine Int.emod_emod_of_dvd n ?_
  exact Int.ofNat_dvd.2 (Nat.pow_dvd_pow 2 (by omega))
theorem turn_size : (Tryd.prog.info? 52).map (·.size) = some 3 := by kernel_rfl
theorem ret_turn {fn : Func} {p u : Tmp} (h : fn.results = #[.cell p 52, .tmp u]) (tmps : Array Value) (w : World) (g : Nat) (x y z : Value)
    (hp : tmps.getD p undef = .pointer (some ⟨g, 0, none⟩)) (hg : w.heap[g]? = some (.cells #[x, y, z] 52)) :
    (results fn tmps).run Tryd.prog w = .ok (.tuple #[.agg #[x, y, z], tmps.getD u undef]) w := by
  rw [results_cell_tmp h, hp]
  simp [asAddr, run_loadVar_row w g 52 52 #[x, y, z] (0, 0) _ hg Tryd.underlying52 rfl (by rw [turn_size]; rfl), Result.andThen]
theorem set3_heap {w : World} {b : Nat} {a0 a1 a2 x y z : Value} {t : TypeId} (h : w.heap[b]? = some (.cells #[a0, a1, a2] t)) :
    (((w.setCell ⟨b, 0, none⟩ x).setCell ⟨b, 1, none⟩ y).setCell ⟨b, 2, none⟩ z).heap[b]? = some (.cells #[x, y, z] t) := block_set (block_set (block_set h x) y) z
theorem upd_set3 {w w' : World} (h : Upd NoB w w') {g : Nat} (hg : w.heap.size ≤ g) (x y z : Value) : Upd NoB w (((w'.setCell ⟨g, 0, none⟩ x).setCell ⟨g, 1, none⟩ y).setCell ⟨g, 2, none⟩ z) :=
  ((h.setCell x (fun h => by exfalso; have h : g < w.heap.size := h; omega)).setCell y (fun h => by exfalso; have h : g < w.heap.size := h; omega)).setCell z (fun h => by exfalso; have h : g < w.heap.size := h; omega)
/-- what turnBy answers -/
def tbQ (n d : Int) : Int := if turE n d = 0 then (turQ n d : Int) else 0
def tbA (n d : Int) : Int := if turE n d = 0 then turA n d else 0
def tbB (n d : Int) : Int := if turE n d = 0 then turB n d else 0
theorem tb_no {n d : Int} (h : ¬ turE n d = 0) : tbQ n d = 0 ∧ tbA n d = 0 ∧ tbB n d = 0 := by unfold tbQ tbA tbB; rw [if_neg h, if_neg h, if_neg h]; exact ⟨rfl, rfl, rfl⟩
theorem tb_ok {n d : Int} (h : turE n d = 0) : tbQ n d = turQ n d ∧ tbA n d = turA n d ∧ tbB n d = turB n d := by unfold tbQ tbA tbB; rw [if_pos h, if_pos h, if_pos h]; exact ⟨rfl, rfl, rfl⟩
theorem turP_and {d : Nat} (h1 : 1 ≤ d) (h2 : d ≤ 2048) : decide (d &&& (d - 1) = 0) = turP (d : Int) := by
  rw [pow2_and h1 (by omega)]
  unfold turP
  rw [show decide ((d : Int) ≤ 2048) = true from decide_eq_true (by omega), Bool.and_true]
theorem turP_no {d : Int} (h : d < 1 ∨ 2048 < d) : turP d = false := by
  cases e : turP d with
  | false => rfl
  | true => have := turP_in e; omega
/-- the test of d, once it is within bounds -/
theorem turP_hand {d : Int} (h1 : 1 ≤ d) (h2 : d ≤ 2048) : ∃ z : Int, Go.bits .and .i64 d (d - 1) = z ∧ (z != 0) = !turP d := by
  obtain ⟨m, rfl⟩ : ∃ m : Nat, d = m := ⟨d.toNat, by omega⟩
  have pa := turP_and (d := m) (by omega) (by omega)
  have hand := i64_and_nat m (m - 1) (by omega) (by omega)
  rw [show ((m - 1 : Nat) : Int) = (m : Int) - 1 by omega] at hand
  refine ⟨_, hand, ?_⟩
  rw [← pa]
  cases h : decide (m &&& (m - 1) = 0) with
  | true => have := of_decide_eq_true h; rw [this]; rfl
  | false => have := of_decide_eq_false h; simp; omega
set_option maxRecDepth 100000 in
set_option maxHeartbeats 2000000 in
theorem turnBy_any (n d : Int) (w : World) (hp : Parts w) : Calls Tryd.prog 50 #[.int .i64 n, .int .i64 d] w fun e w' =>
    e = .returned (.tuple #[.agg #[.int .i64 (tbQ n d), .int .i64 (tbA n d), .int .i64 (tbB n d)], .int .i64 (turE n d)]) ∧ Upd NoB w w' := by
  have hc0 := heap_alloc_new w (.cells #[.int .i64 0, .int .i64 0, .int .i64 0] 52)
  have hu0 := (Upd.refl NoB w).alloc (.cells #[.int .i64 0, .int .i64 0, .int .i64 0] 52)
  obtain ⟨W, hW⟩ : ∃ W, W = w.alloc (.cells #[.int .i64 0, .int .i64 0, .int .i64 0] 52) := ⟨_, rfl⟩
  rw [← hW] at hc0 hu0
  have hsz : W.heap.size = w.heap.size + 1 := by rw [hW]; exact size_alloc _ _
  have frs := fun i => free_of_block hc0 i
  obtain ⟨k0, k1, k2⟩ := cells3 hc0
  have f0 := frs 0; have f1 := frs 1; have f2 := frs 2
  have HW := Lib.hid hW; have C0 := Lib.hid hc0; have U0 := Lib.hid hu0; have P0 := Lib.hid (hp.upd hu0 (noB 0))
  clear hW hc0 hu0 hp frs
  by_cases d1 : d < 1
  · have hE := Lib.hid (show turE n d = 1 by unfold turE; rw [if_pos (turP_no (.inl d1))])
    have T := Lib.hid (tb_no (n := n) (d := d) (by rw [hE.out]; decide))
    rw [hE.out, T.out.1, T.out.2.1, T.out.2.2]
    go_enter Tryd.func50, Tryd.ntmps50
    go_wp2_with fail
    rw [← HW.out]
    go_wp2
    refine bodyPost_ret (ret_turn rfl _ _ w.heap.size _ _ _ rfl C0.out) rfl ⟨rfl, U0.out⟩
  by_cases d2 : 2048 < d
  · have hE := Lib.hid (show turE n d = 1 by unfold turE; rw [if_pos (turP_no (.inr d2))])
    have T := Lib.hid (tb_no (n := n) (d := d) (by rw [hE.out]; decide))
    rw [hE.out, T.out.1, T.out.2.1, T.out.2.2]
    go_enter Tryd.func50, Tryd.ntmps50
    go_wp2_with fail
    rw [← HW.out]
    go_wp2
    refine bodyPost_ret (ret_turn rfl _ _ w.heap.size _ _ _ rfl C0.out) rfl ⟨rfl, U0.out⟩
  obtain ⟨z, hand, hz⟩ := turP_hand (d := d) (by omega) (by omega)
  have w1 : IntKind.i64.wrap (d - 1) = d - 1 := IntWalk.i64_in _ (by omega)
  have ha0 := within1 1099511627776 n W (by omega) (by omega)
  rw [hsz] at ha0
  have HA := Lib.hid ha0
  clear ha0 hsz
  rcases turE_cases n d with ⟨h, e⟩ | ⟨h, h2, e⟩ | ⟨h, h2, h3, e⟩
  · rw [h] at hz
    have hz : (z != 0) = true := hz
    have hE := Lib.hid e
    have T := Lib.hid (tb_no (n := n) (d := d) (by rw [hE.out]; decide))
    rw [hE.out, T.out.1, T.out.2.1, T.out.2.2]
    clear e h
    go_enter Tryd.func50, Tryd.ntmps50
    go_wp2_with fail
    rw [← HW.out]
    go_wp2
    refine bodyPost_ret (ret_turn rfl _ _ w.heap.size _ _ _ rfl C0.out) rfl ⟨rfl, U0.out⟩
  · rw [h] at hz
    have hz : (z != 0) = false := hz
    have hE := Lib.hid e
    have T := Lib.hid (tb_no (n := n) (d := d) (by rw [hE.out]; decide))
    rw [hE.out, T.out.1, T.out.2.1, T.out.2.2]
    have nb : inB 1099511627776 n = false := decide_eq_false (by omega)
    rw [nb] at HA
    have u1 := (Upd.refl NoB W).alloc (.cells #[.int .i64 n] 3)
    obtain ⟨W1, hW1⟩ : ∃ W1, W1 = W.alloc (.cells #[.int .i64 n] 3) := ⟨_, rfl⟩
    rw [← hW1] at u1 HA
    have C1 := Lib.hid (u1.heap C0.out (noB _))
    obtain ⟨k0, k1, k2⟩ := cells3 C1.out
    have f0 := free_of_block C1.out 0; have f1 := free_of_block C1.out 1; have f2 := free_of_block C1.out 2
    have U1 := Lib.hid (U0.out.then u1); have HW1 := Lib.hid hW1
    clear e h h2 nb u1 hW1
    go_enter Tryd.func50, Tryd.ntmps50
    go_wp2_with fail
    rw [← HW.out]
    go_wp2_with fail
    rw [← HW1.out]
    (with_reducible refine HA.out.mono ?_)
    rintro e w' ⟨rfl, rfl⟩
    go_wp2
    first | refine bodyPost_ret (ret_turn rfl _ _ w.heap.size _ _ _ rfl C1.out) rfl ⟨rfl, U1.out⟩ | refine bodyPost_ret (ret_turn rfl _ _ w.heap.size _ _ _ rfl (set3_heap C1.out)) rfl ⟨rfl, upd_set3 U1.out (Nat.le_refl _) _ _ _⟩
  · rw [h] at hz
    have hz : (z != 0) = false := hz
    have hE := Lib.hid e
    have T := Lib.hid (tb_ok (n := n) (d := d) hE.out)
    rw [hE.out, T.out.1, T.out.2.1, T.out.2.2]
    have nb : inB 1099511627776 n = true := decide_eq_true (by omega)
    rw [nb] at HA
    have u1 := (Upd.refl NoB W).alloc (.cells #[.int .i64 n] 3)
    obtain ⟨W1, hW1⟩ : ∃ W1, W1 = W.alloc (.cells #[.int .i64 n] 3) := ⟨_, rfl⟩
    rw [← hW1] at u1 HA
    have C1 := Lib.hid (u1.heap C0.out (noB _))
    have U1 := Lib.hid (U0.out.then u1); have HW1 := Lib.hid hW1; have P1 := Lib.hid (P0.out.upd u1 (noB 0))
    obtain ⟨t0, t1, q4, dq, r1, r2⟩ := tur_facts (n := n) (d := d) (by omega)
    obtain ⟨hh, ha⟩ := tur_half (n := n) (d := d) h
    have mk : Go.bits .and .i64 n (d - 1) = n % d := by
      obtain ⟨k, hk, rfl⟩ := turP_cases h
      exact i64_mask_pow n k (by omega)
    have eR : turR n d = 8 * (n % d) - 2 * (turQ n d : Int) * d := rfl
    have Hhalf := Half_any (turR n d) (8 * d)
    have Hsin := Sin_any (turR n d) (8 * d)
    rw [show onOk (hlfE (turR n d) (8 * d)) (hlfV (turR n d) (8 * d)) = turA n d by rw [hh]; rfl, hh] at Hhalf
    rw [show onOk (angE (turR n d) (8 * d)) (cir (turR n d * (16384 / (8 * d)))).2 = turB n d by rw [ha]; rfl, ha] at Hsin
    obtain ⟨T', eT⟩ : ∃ T', n % d = T' := ⟨_, rfl⟩
    obtain ⟨Q, eQ⟩ : ∃ Q, turQ n d = Q := ⟨_, rfl⟩
    obtain ⟨R, eR'⟩ : ∃ R, turR n d = R := ⟨_, rfl⟩
    obtain ⟨A, eA⟩ : ∃ A, turA n d = A := ⟨_, rfl⟩
    obtain ⟨B, eB⟩ : ∃ B, turB n d = B := ⟨_, rfl⟩
    obtain ⟨Z, eZ⟩ : ∃ Z, 2 * (Q : Int) * d = Z := ⟨_, rfl⟩
    rw [eT] at t0 t1 dq mk eR
    rw [eQ] at q4 dq eR
    rw [eR'] at r1 r2 eR Hhalf Hsin
    rw [eA] at Hhalf
    rw [eB] at Hsin
    rw [eZ] at eR
    rw [eQ, eA, eB]
    have wz : IntKind.i64.wrap (2 * (Q : Int) * d) = Z := by rw [eZ]; exact IntWalk.i64_in _ (by clear dq eZ; omega)
    have wq : IntKind.i64.wrap (2 * (Q : Int)) = 2 * (Q : Int) := IntWalk.i64_in _ (by clear dq eZ wz; omega)
    have wr : IntKind.i64.wrap (8 * T' - Z) = R := by rw [← eR]; exact IntWalk.i64_in _ (by clear dq eZ wz; omega)
    have w8 : IntKind.i64.wrap (8 * T') = 8 * T' := IntWalk.i64_in _ (by clear dq eZ wz; omega)
    have w8d : IntKind.i64.wrap (8 * d) = 8 * d := IntWalk.i64_in _ (by clear dq eZ wz; omega)
    have w2d : IntKind.i64.wrap (2 * d) = 2 * d := IntWalk.i64_in _ (by clear dq eZ wz; omega)
    have wa : IntKind.i64.wrap (8 * T' + d) = 8 * T' + d := IntWalk.i64_in _ (by clear dq eZ wz; omega)
    have wb : IntKind.i64.wrap (8 * T' + d - 1) = 8 * T' + d - 1 := IntWalk.i64_in _ (by clear dq eZ wz; omega)
    have dt : (8 * T' + d - 1).tdiv (2 * d) = (Q : Int) := by rw [Int.tdiv_eq_ediv_of_nonneg (by clear dq eZ wz; omega)]; exact dq
    have nz : ¬ 2 * d = 0 := by clear dq eZ wz; omega
    have HH := Lib.hid Hhalf; have HS := Lib.hid Hsin
    clear Hhalf Hsin e h h2 h3 nb u1 hW1 eT eQ eR' eA eB eZ eR hh ha
    go_enter Tryd.func50, Tryd.ntmps50
    go_wp2_with fail
    rw [← HW.out]
    go_wp2_with fail
    rw [← HW1.out]
    (with_reducible refine HA.out.mono ?_)
    rintro e w' ⟨rfl, rfl⟩
    go_wp2_with fail
    (with_reducible refine (HH.out _ P1.out).mono ?_)
    rintro e w2 ⟨rfl, u2⟩
    have P2 := Lib.hid (P1.out.upd u2 (noB 0)); have U2 := Lib.hid (U1.out.then u2); have C2 := Lib.hid (u2.heap C1.out (noB _)); clear u2
    go_wp2_with fail
    (with_reducible refine (HS.out _ P2.out).mono ?_)
    rintro e w3 ⟨rfl, u3⟩
    have U3 := Lib.hid (U2.out.then u3); have C3 := Lib.hid (u3.heap C2.out (noB _)); clear u3
    obtain ⟨k0, k1, k2⟩ := cells3 C3.out
    have f0 := free_of_block C3.out 0; have f1 := free_of_block C3.out 1; have f2 := free_of_block C3.out 2
    go_wp2
    refine bodyPost_ret (ret_turn rfl _ _ w.heap.size _ _ _ rfl (set3_heap C3.out)) rfl ⟨rfl, upd_set3 U3.out (Nat.le_refl _) _ _ _⟩
/-- what Turn and Back answer, when the turn is right -/
theorem bd_mono30 {p : Int × Int} (h : Bd 1073741824 p) : Bd 137438953472 p := h.mono (by omega)
theorem bd_mono32 {p : Int × Int} (h : Bd 4294967296 p) : Bd 137438953472 p := h.mono (by omega)
theorem turE_ok {n d : Int} (h : turE n d = 0) : turP d = true ∧ 1 ≤ d ∧ d ≤ 2048 ∧ -1099511627776 ≤ n ∧ n ≤ 1099511627776 := by
  rcases turE_cases n d with h' | h' | h'
  · omega
  · omega
  · have := turP_in h'.1
    exact ⟨h'.1, this.1, this.2, by omega, by omega⟩
set_option maxRecDepth 100000 in
set_option maxHeartbeats 2000000 in
theorem turn_any (x y n d : Int) (w : World) (hp : Parts w) : Calls Tryd.prog 18 #[.int .i64 x, .int .i64 y, .int .i64 n, .int .i64 d] w fun e w' =>
    e = .returned (.tuple #[.int .i64 (turnV x y n d).1, .int .i64 (turnV x y n d).2, .int .i64 (ttE 1073741824 x y n d)]) ∧ Upd NoB w w' := by
  have HP := Lib.hid hp; clear hp
  have hTB := turnBy_any n d w HP.out
  rcases ttE_cases 1073741824 x y n d with ⟨h, e⟩ | ⟨h, hb, e⟩ | ⟨h, hb, e⟩
  · have V := Lib.hid (show turnV x y n d = (0, 0) by unfold turnV; rw [if_neg (by rw [e]; exact h)])
    have E := Lib.hid e
    have t : (turE n d != 0) = true := by simpa using h
    obtain ⟨q0, a0, b0⟩ := tb_no h
    rw [q0, a0, b0] at hTB
    have HT := Lib.hid hTB
    rw [V.out, E.out]
    clear h e hTB q0 a0 b0
    go_enter Tryd.func18, Tryd.ntmps18
    go_wp2_with fail
    (with_reducible refine HT.out.mono ?_)
    rintro e w1 ⟨rfl, u1⟩
    have U1 := Lib.hid u1; clear u1
    go_wp2
    go_ret3
    exact ⟨rfl, U1.out.alloc _⟩
  · have V := Lib.hid (show turnV x y n d = (0, 0) by unfold turnV; rw [if_neg (by rw [e]; decide)])
    have E := Lib.hid e
    obtain ⟨q0, a0, b0⟩ := tb_ok h
    rw [q0, a0, b0, h] at hTB
    have HT := Lib.hid hTB
    rw [V.out, E.out]
    clear h e hTB q0 a0 b0
    obtain ⟨Q, eQ⟩ : ∃ Q, turQ n d = Q := ⟨_, rfl⟩
    obtain ⟨A, eA⟩ : ∃ A, turA n d = A := ⟨_, rfl⟩
    obtain ⟨B, eB⟩ : ∃ B, turB n d = B := ⟨_, rfl⟩
    rw [eQ, eA, eB] at HT
    clear eQ eA eB
    go_enter Tryd.func18, Tryd.ntmps18
    go_wp2_with fail
    (with_reducible refine HT.out.mono ?_)
    rintro e w1 ⟨rfl, u1⟩
    obtain ⟨W, hW⟩ : ∃ W, W = w1.alloc (.cells #[.int .i64 Q, .int .i64 A, .int .i64 B] 52) := ⟨_, rfl⟩
    have hsz : W.heap.size = w1.heap.size + 1 := by rw [hW]; exact size_alloc _ _
    have hw := within2 1073741824 x y W (by omega) (by omega)
    rw [hsz, hb] at hw
    have U1 := Lib.hid (show Upd NoB w W by rw [hW]; exact u1.alloc _)
    have HW := Lib.hid hW; have HA := Lib.hid hw
    clear u1 hW hw hsz hb
    go_wp2_with fail
    rw [← HW.out]
    (with_reducible refine HA.out.mono ?_)
    rintro e w2 ⟨rfl, rfl⟩
    go_wp2
    go_ret3
    exact ⟨rfl, U1.out.alloc _⟩
  · have V := Lib.hid (show turnV x y n d = forthF (turQ n d) (turA n d) (turB n d) (x, y) by unfold turnV; rw [if_pos e]; rfl)
    have E := Lib.hid e
    obtain ⟨q0, a0, b0⟩ := tb_ok h
    rw [q0, a0, b0, h] at hTB
    have hbd := inB_bd hb
    have ok := turE_ok h
    have ai := turA_in (n := n) ok.1
    have bi := turB_in n d
    have qi := (tur_facts (n := n) ok.2.1).2.2.1
    rw [V.out, E.out]
    clear h e q0 a0 b0 ok
    obtain ⟨Q, eQ⟩ : ∃ Q, turQ n d = Q := ⟨_, rfl⟩
    obtain ⟨A, eA⟩ : ∃ A, turA n d = A := ⟨_, rfl⟩
    obtain ⟨B, eB⟩ : ∃ B, turB n d = B := ⟨_, rfl⟩
    rw [eA] at ai
    rw [eB] at bi
    rw [eQ] at qi
    rw [eQ, eA, eB] at hTB ⊢
    have HT := Lib.hid hTB
    have HF := Lib.hid (fun w => forth_any Q A B x y w qi ai.1 ai.2 bi.1 bi.2 (bd_mono30 hbd))
    clear eQ eA eB ai bi qi hbd hTB
    go_enter Tryd.func18, Tryd.ntmps18
    go_wp2_with fail
    (with_reducible refine HT.out.mono ?_)
    rintro e w1 ⟨rfl, u1⟩
    obtain ⟨W, hW⟩ : ∃ W, W = w1.alloc (.cells #[.int .i64 Q, .int .i64 A, .int .i64 B] 52) := ⟨_, rfl⟩
    have hsz : W.heap.size = w1.heap.size + 1 := by rw [hW]; exact size_alloc _ _
    have hw := within2 1073741824 x y W (by omega) (by omega)
    rw [hsz, hb] at hw
    have U1 := Lib.hid (show Upd NoB w W by rw [hW]; exact u1.alloc _)
    have b0 : W.heap[w1.heap.size]? = some (.cells #[.int .i64 Q, .int .i64 A, .int .i64 B] 52 (0, 0)) := by rw [hW]; exact heap_alloc_new w1 _
    obtain ⟨W2, hW2⟩ : ∃ W2, W2 = W.alloc (.cells #[.int .i64 x, .int .i64 y] 3) := ⟨_, rfl⟩
    have u2 : Upd NoB W W2 := by rw [hW2]; exact (Upd.refl _ _).alloc _
    rw [← hW2] at hw
    obtain ⟨k0, k1, k2⟩ := cells3 (u2.heap b0 (noB _))
    have U2 := Lib.hid (U1.out.then u2)
    have HW := Lib.hid hW; have HW2 := Lib.hid hW2; have HA := Lib.hid hw
    clear u1 hW hw hsz hb b0 hW2 u2
    go_wp2_with fail
    rw [← HW.out, ← HW2.out]
    (with_reducible refine HA.out.mono ?_)
    rintro e w2 ⟨rfl, rfl⟩
    go_wp2_with fail
    (with_reducible refine (HF.out _).mono ?_)
    rintro e w3 ⟨rfl, u3⟩
    have U3 := Lib.hid (U2.out.then u3); clear u3
    obtain ⟨X, eX⟩ : ∃ X, (forthF Q A B (x, y)).1 = X := ⟨_, rfl⟩
    obtain ⟨Y, eY⟩ : ∃ Y, (forthF Q A B (x, y)).2 = Y := ⟨_, rfl⟩
    rw [eX, eY]
    have EX := Lib.hid eX; have EY := Lib.hid eY; clear eX eY
    obtain ⟨W4, hW4⟩ : ∃ W4, W4 = w3.alloc (.cells #[.int .i64 X, .int .i64 Y] 56) := ⟨_, rfl⟩
    have c4 : W4.heap[w3.heap.size]? = some (.cells #[.int .i64 X, .int .i64 Y] 56 (0, 0)) := by rw [hW4]; exact heap_alloc_new w3 _
    have U4 := Lib.hid (show Upd NoB w W4 by rw [hW4]; exact U3.out.alloc _)
    have g0 := cell_of_block0 c4
    have g1 := cell_of_block1 c4
    have HW4 := Lib.hid hW4; clear hW4 c4
    go_wp2_with fail
    rw [← HW4.out]
    clear HW4
    go_quiet (fail)
    go_wp2
    go_ret3
    exact ⟨by rw [EX.out, EY.out]; rfl, upd_drewN U4.out _⟩
set_option maxRecDepth 100000 in
set_option maxHeartbeats 2000000 in
theorem backT_any (x y n d : Int) (w : World) (hp : Parts w) : Calls Tryd.prog 20 #[.int .i64 x, .int .i64 y, .int .i64 n, .int .i64 d] w fun e w' =>
    e = .returned (.tuple #[.int .i64 (backV x y n d).1, .int .i64 (backV x y n d).2, .int .i64 (ttE 4294967296 x y n d)]) ∧ Upd NoB w w' := by
  have HP := Lib.hid hp; clear hp
  have hTB := turnBy_any n d w HP.out
  rcases ttE_cases 4294967296 x y n d with ⟨h, e⟩ | ⟨h, hb, e⟩ | ⟨h, hb, e⟩
  · have V := Lib.hid (show backV x y n d = (0, 0) by unfold backV; rw [if_neg (by rw [e]; exact h)])
    have E := Lib.hid e
    have t : (turE n d != 0) = true := by simpa using h
    obtain ⟨q0, a0, b0⟩ := tb_no h
    rw [q0, a0, b0] at hTB
    have HT := Lib.hid hTB
    rw [V.out, E.out]
    clear h e hTB q0 a0 b0
    go_enter Tryd.func20, Tryd.ntmps20
    go_wp2_with fail
    (with_reducible refine HT.out.mono ?_)
    rintro e w1 ⟨rfl, u1⟩
    have U1 := Lib.hid u1; clear u1
    go_wp2
    go_ret3
    exact ⟨rfl, U1.out.alloc _⟩
  · have V := Lib.hid (show backV x y n d = (0, 0) by unfold backV; rw [if_neg (by rw [e]; decide)])
    have E := Lib.hid e
    obtain ⟨q0, a0, b0⟩ := tb_ok h
    rw [q0, a0, b0, h] at hTB
    have HT := Lib.hid hTB
    rw [V.out, E.out]
    clear h e hTB q0 a0 b0
    obtain ⟨Q, eQ⟩ : ∃ Q, turQ n d = Q := ⟨_, rfl⟩
    obtain ⟨A, eA⟩ : ∃ A, turA n d = A := ⟨_, rfl⟩
    obtain ⟨B, eB⟩ : ∃ B, turB n d = B := ⟨_, rfl⟩
    rw [eQ, eA, eB] at HT
    clear eQ eA eB
    go_enter Tryd.func20, Tryd.ntmps20
    go_wp2_with fail
    (with_reducible refine HT.out.mono ?_)
    rintro e w1 ⟨rfl, u1⟩
    obtain ⟨W, hW⟩ : ∃ W, W = w1.alloc (.cells #[.int .i64 Q, .int .i64 A, .int .i64 B] 52) := ⟨_, rfl⟩
    have hsz : W.heap.size = w1.heap.size + 1 := by rw [hW]; exact size_alloc _ _
    have hw := within2 4294967296 x y W (by omega) (by omega)
    rw [hsz, hb] at hw
    have U1 := Lib.hid (show Upd NoB w W by rw [hW]; exact u1.alloc _)
    have HW := Lib.hid hW; have HA := Lib.hid hw
    clear u1 hW hw hsz hb
    go_wp2_with fail
    rw [← HW.out]
    (with_reducible refine HA.out.mono ?_)
    rintro e w2 ⟨rfl, rfl⟩
    go_wp2
    go_ret3
    exact ⟨rfl, U1.out.alloc _⟩
  · have V := Lib.hid (show backV x y n d = backF (turQ n d) (turA n d) (turB n d) (x, y) by unfold backV; rw [if_pos e]; rfl)
    have E := Lib.hid e
    obtain ⟨q0, a0, b0⟩ := tb_ok h
    rw [q0, a0, b0, h] at hTB
    have hbd := inB_bd hb
    have ok := turE_ok h
    have ai := turA_in (n := n) ok.1
    have bi := turB_in n d
    have qi := (tur_facts (n := n) ok.2.1).2.2.1
    rw [V.out, E.out]
    clear h e q0 a0 b0 ok
    obtain ⟨Q, eQ⟩ : ∃ Q, turQ n d = Q := ⟨_, rfl⟩
    obtain ⟨A, eA⟩ : ∃ A, turA n d = A := ⟨_, rfl⟩
    obtain ⟨B, eB⟩ : ∃ B, turB n d = B := ⟨_, rfl⟩
    rw [eA] at ai
    rw [eB] at bi
    rw [eQ] at qi
    rw [eQ, eA, eB] at hTB ⊢
    have HT := Lib.hid hTB
    have HF := Lib.hid (fun w => back_any Q A B x y w qi ai.1 ai.2 bi.1 bi.2 (bd_mono32 hbd))
    clear eQ eA eB ai bi qi hbd hTB
    go_enter Tryd.func20, Tryd.ntmps20
    go_wp2_with fail
    (with_reducible refine HT.out.mono ?_)
    rintro e w1 ⟨rfl, u1⟩
    obtain ⟨W, hW⟩ : ∃ W, W = w1.alloc (.cells #[.int .i64 Q, .int .i64 A, .int .i64 B] 52) := ⟨_, rfl⟩
    have hsz : W.heap.size = w1.heap.size + 1 := by rw [hW]; exact size_alloc _ _
    have hw := within2 4294967296 x y W (by omega) (by omega)
    rw [hsz, hb] at hw
    have U1 := Lib.hid (show Upd NoB w W by rw [hW]; exact u1.alloc _)
    have b0 : W.heap[w1.heap.size]? = some (.cells #[.int .i64 Q, .int .i64 A, .int .i64 B] 52 (0, 0)) := by rw [hW]; exact heap_alloc_new w1 _
    obtain ⟨W2, hW2⟩ : ∃ W2, W2 = W.alloc (.cells #[.int .i64 x, .int .i64 y] 3) := ⟨_, rfl⟩
    have u2 : Upd NoB W W2 := by rw [hW2]; exact (Upd.refl _ _).alloc _
    rw [← hW2] at hw
    obtain ⟨k0, k1, k2⟩ := cells3 (u2.heap b0 (noB _))
    have U2 := Lib.hid (U1.out.then u2)
    have HW := Lib.hid hW; have HW2 := Lib.hid hW2; have HA := Lib.hid hw
    clear u1 hW hw hsz hb b0 hW2 u2
    go_wp2_with fail
    rw [← HW.out, ← HW2.out]
    (with_reducible refine HA.out.mono ?_)
    rintro e w2 ⟨rfl, rfl⟩
    go_wp2_with fail
    (with_reducible refine (HF.out _).mono ?_)
    rintro e w3 ⟨rfl, u3⟩
    have U3 := Lib.hid (U2.out.then u3); clear u3
    obtain ⟨X, eX⟩ : ∃ X, (backF Q A B (x, y)).1 = X := ⟨_, rfl⟩
    obtain ⟨Y, eY⟩ : ∃ Y, (backF Q A B (x, y)).2 = Y := ⟨_, rfl⟩
    rw [eX, eY]
    have EX := Lib.hid eX; have EY := Lib.hid eY; clear eX eY
    obtain ⟨W4, hW4⟩ : ∃ W4, W4 = w3.alloc (.cells #[.int .i64 X, .int .i64 Y] 56) := ⟨_, rfl⟩
    have c4 : W4.heap[w3.heap.size]? = some (.cells #[.int .i64 X, .int .i64 Y] 56 (0, 0)) := by rw [hW4]; exact heap_alloc_new w3 _
    have U4 := Lib.hid (show Upd NoB w W4 by rw [hW4]; exact U3.out.alloc _)
    have g0 := cell_of_block0 c4
    have g1 := cell_of_block1 c4
    have HW4 := Lib.hid hW4; clear hW4 c4
    go_wp2_with fail
    rw [← HW4.out]
    clear HW4
    go_quiet (fail)
    go_wp2
    go_ret3
    exact ⟨by rw [EX.out, EY.out]; rfl, upd_drewN U4.out _⟩
end Go.Proofs.YtpmhioaoniijbaaDoor
