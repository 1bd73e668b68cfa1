/- within: the digits with their bounds, nearFine -/
import Derived.Test.YtpmhioaoniijbaaDoorFS
import Derived.Test.YtpmhioaoniijbaaDoorFT
namespace Go.Proofs.YtpmhioaoniijbaaDoor
open Go.RowKit Go.Shelf
attribute [local go_sem] Oper.semAt_some

theorem tdiv_half {a b : Int} (ha : a < 0) (hb : 2 ≤ b) : a ≤ 2 * a.tdiv b := by
  obtain ⟨q, r, e1, e2, h1, h2, h3, h4, h5⟩ := neg_parts ha (show 1 ≤ b by omega)
  have := Int.mul_le_mul_of_nonneg_right hb h3
  omega
set_option maxHeartbeats 1000000 in
theorem floor_wide (a b : Int) (w : World) (hb' : 2 ≤ b) (hb2 : b ≤ 4611686018427387904) (h1 : -9223372036854775808 ≤ a) (h2 : a ≤ 9223372036854775807) :
    Calls Tryd.prog 70 #[.int .i64 a, .int .i64 b] w fun e w' => e = .returned (.int .i64 (a / b)) ∧ w' = w := by
  have hb : 1 ≤ b := by omega
  rcases Int.lt_or_le a 0 with h | h
  · have t := tdiv_in h hb
    have t2 := tdiv_half h hb'
    have q1 := IntWalk.i64_quo' a b (by omega)
    have w1 : IntKind.i64.wrap (a.tdiv b - 1) = a.tdiv b - 1 := IntWalk.i64_in _ (by omega)
    have w2 : IntKind.i64.wrap (a.tmod b) = a.tmod b := IntWalk.i64_in _ (by omega)
    have nz : b ≠ 0 := by omega
    by_cases hm : a.tmod b < 0
    · have e := Lib.hid (down_lo h hb hm)
      have tm : decide (a.tmod b < 0) = true := decide_eq_true hm
      go_enter Tryd.func70, Tryd.ntmps70
      go_wp2
      go_ret
      exact ⟨ret_int e.out, rfl⟩
    · have e := Lib.hid (down_eq h hb hm)
      have tm : decide (a.tmod b < 0) = false := decide_eq_false hm
      go_enter Tryd.func70, Tryd.ntmps70
      go_wp2
      go_ret
      exact ⟨ret_int e.out, rfl⟩
  · have hm : 0 ≤ a % b := Int.emod_nonneg a (by omega)
    have tm : decide (a % b < 0) = false := decide_eq_false (by omega)
    have nz : b ≠ 0 := by omega
    go_enter Tryd.func70, Tryd.ntmps70
    go_wp2
    go_ret
    exact ⟨rfl, rfl⟩


/-- nearFine of any number: its sum may wrap -/
def nfI (v : Int) : Int := wrap64 (v + 1073741824) / 2147483648
theorem wrap64_lo (n : Int) : -9223372036854775808 ≤ wrap64 n ∧ wrap64 n ≤ 9223372036854775807 := by unfold wrap64; omega
theorem nfI_of {v : Int} (h0 : 0 ≤ v) (h1 : v ≤ 9223372035000000000) : nfI v = (v + 1073741824) / 2147483648 := by unfold nfI; rw [IntWalk.wrap64_in _ (by omega)]
theorem nearFine_any (v : Int) (w : World) : Calls Tryd.prog 69 #[.int .i64 v] w fun e w' => e = .returned (.int .i64 (nfI v)) ∧ w' = w := by
  have h := wrap64_lo (v + 1073741824)
  have hn : nfI v = wrap64 (v + 1073741824) / 2147483648 := rfl
  obtain ⟨a, ha⟩ : ∃ a, wrap64 (v + 1073741824) = a := ⟨_, rfl⟩
  have ha2 : IntKind.i64.wrap (v + 1073741824) = a := by rw [IntWalk.i64_left]; exact ha
  rw [ha] at h hn
  have Hn := Lib.hid hn; clear hn
  go_enter Tryd.func69, Tryd.ntmps69
  go_wp2_with fail
  refine (floor_wide a 2147483648 _ (by omega) (by omega) (by omega) (by omega)).mono ?_
  rintro e w' ⟨rfl, rfl⟩
  go_wp2
  go_ret
  exact ⟨ret_int Hn.out.symm, rfl⟩
abbrev Ix (n : Nat) := { i : Nat // i < n }
abbrev encIx (v n : Nat) (i : Ix n) : Array Value := encDig v n i.1
set_option maxRecDepth 100000 in
set_option maxHeartbeats 1000000 in
theorem digits1x_in (l Bn Bv v n : Nat) (hn : n ≤ 12) (hv : v ≤ 1048576)
    (J Jx : List (Ix n) → World → Prop) (D : Nat → Prop) (hDn : D Bn) (hDv : D Bv)
    (hY : ∀ pre x W, J pre W → pre.length < n → YieldAt Fence.wide 0 Tryd.prog l (encIx v n x) W fun e W' =>
      (e = .returned (.bool true) ∧ J (pre ++ [x]) W' ∧ KeepD D W W') ∨ (e = .returned (.bool false) ∧ Jx (pre ++ [x]) W'))
    (W : World) (hbn : W.cell? ⟨Bn, 0, none⟩ = some (.int .i64 n)) (hbv : W.cell? ⟨Bv, 0, none⟩ = some (.int .i64 v)) (h0 : J [] W) :
    CallsIn Fence.wide 1 Tryd.prog 88 #[.func (.yield l) #[] #[], .pointer (some ⟨Bn, 0, none⟩), .pointer (some ⟨Bv, 0, none⟩)] W fun e W' => (∃ v, e = .returned v) ∧
      ((∃ ys : List (Ix n), ys.map Subtype.val = List.range n ∧ J ys W') ∨ (∃ pre : List (Ix n), pre.map Subtype.val <+: List.range n ∧ Jx pre W')) := by
  refine callsIn_of_wp Tryd.func88 rfl trivial ?_ rfl
  simp only [Tryd.ntmps88, List.size_toArray, List.length_cons, List.length_nil, Nat.reduceAdd, Nat.reduceSub, Array.replicate_succ, Array.replicate_zero, List.push_toArray, List.append_toArray, List.nil_append, List.cons_append]
  have HY := Lib.hid @hY; clear hY
  gi_wp2
  gi_loopw [6] (fun i wr => ∃ (k : Nat) (ys : List (Ix n)), k ≤ n ∧ i = .int .i64 k ∧ ys.map Subtype.val = List.range k ∧ J ys wr ∧ KeepD D W wr) (fun i _ => n - (intOf i).toNat)
  case atStart => exact ⟨0, [], Nat.zero_le _, rfl, rfl, h0, KeepD.refl _ _⟩
  case round =>
    obtain ⟨k, ys, hk, rfl, hys, hJs, hkd⟩ := hrel
    have en : wr.cell? ⟨Bn, 0, none⟩ = some (.int .i64 n) := (hkd.cell (p := ⟨Bn, 0, none⟩) hDn).trans hbn
    have ev : wr.cell? ⟨Bv, 0, none⟩ = some (.int .i64 v) := (hkd.cell (p := ⟨Bv, 0, none⟩) hDv).trans hbv
    by_cases hlt : k < n
    · obtain ⟨m, hm⟩ : ∃ m, n - 1 - k = m := ⟨_, rfl⟩
      have hm1 : (n : Int) - 1 - k = (m : Int) := by omega
      have hm2 : m ≤ 11 := by omega
      obtain ⟨y, hy⟩ : ∃ y, bitAt v n k = y := ⟨_, rfl⟩
      have hy1 : y ≤ 1 := by rw [← hy]; unfold bitAt; omega
      have hbit : Go.bits .and .i64 ((v : Int) / 2 ^ m) 1 = (y : Int) := by
        have := and_bit (v / 2 ^ m) (by have := Nat.div_le_self v (2 ^ m); omega)
        unfold bitAt at hy
        rw [hm] at hy
        rw [hy] at this
        rw [← this, pw_nat]; rfl
      have hl : ys.length < n := by
        have := congrArg List.length hys
        simp at this
        omega
      obtain ⟨fn, tmps, assign, body, hy0, hR⟩ := HY.out ys ⟨k, hlt⟩ wr hJs hl
      have hnext : (ys ++ [(⟨k, hlt⟩ : Ix n)]).map Subtype.val = List.range (k + 1) := by rw [List.map_append, hys, List.range_succ]; rfl
      have Hnext := Lib.hid hnext; clear hnext
      have Hys := Lib.hid hys; clear hys
      simp only [encIx, encDig] at hy0
      rw [hy] at hy0
      have nn : ¬ (m : Int) < 0 := by omega
      have w1 : IntKind.i64.wrap ((n : Int) - 1) = (n : Int) - 1 := IntWalk.i64_in _ (by omega)
      have w2 : IntKind.i64.wrap ((n : Int) - 1 - k) = (m : Int) := by rw [hm1]; exact IntWalk.i64_in _ (by omega)
      have w3 : wrap64 (m : Int) = (m : Int) := IntWalk.wrap64_in _ (by omega)
      clear hm hy hl
      gi_wp2
      refine hR.mono ?_
      rintro e W3 (⟨rfl, hJ3, hk3⟩ | ⟨rfl, hJx3⟩)
      · gi_wp2
        go_roundw
        case rel => exact ⟨k + 1, _, by omega, by go_num, Hnext.out, hJ3, hkd.trans hk3⟩
        case measure => simp [intOf]; omega
      · gi_wp2
        refine bodyPost_ret (results_none rfl _ _ _) rfl ?_
        refine ⟨⟨_, rfl⟩, .inr ⟨_, ?_, hJx3⟩⟩
        rw [Hnext.out]
        obtain ⟨d, rfl⟩ := Nat.exists_eq_add_of_le (show k + 1 ≤ n by omega)
        exact ⟨(List.range d).map (fun x => k + 1 + x), List.range_add.symm⟩
    · obtain rfl : k = n := by omega
      have Hys := Lib.hid hys; clear hys
      gi_wp2
      go_end0
      exact ⟨⟨_, rfl⟩, .inl ⟨_, Hys.out, hJs⟩⟩
theorem digitsx_seq (B v n : Nat) (w : World) (hn : n ≤ 12) (hv : v ≤ 1048576)
    (hbn : w.cell? ⟨B + 1, 0, none⟩ = some (.int .i64 n)) (hbv : w.cell? ⟨B, 0, none⟩ = some (.int .i64 v)) (hD : B + 1 < w.heap.size) :
    SeqStopsK Fence.wide 1 Tryd.prog 88 #[.pointer (some ⟨B + 1, 0, none⟩), .pointer (some ⟨B, 0, none⟩)] (encIx v n) (KeepD (digD B)) (fun ys => ys.map Subtype.val = List.range n) (fun pre => pre.map Subtype.val <+: List.range n) n w := fun l J Jx W hW _ _ hY h0 => by
  have hk : KeepD (digD B) w W := fun k hk => hW.block k (by rcases hk with rfl | rfl <;> omega)
  exact digits1x_in l (B + 1) B v n hn hv J Jx (digD B) (.inr rfl) (.inl rfl) hY W
    ((hk.cell (p := ⟨B + 1, 0, none⟩) (.inr rfl)).trans hbn) ((hk.cell (p := ⟨B, 0, none⟩) (.inl rfl)).trans hbv) h0

/-! the state after bits, the last one first -/
def wR : List Nat → Nat × Nat
  | [] => (2147483648, 0)
  | b :: t => if b = 1 then wnx (wR t).1 (wR t).2 (pc t.length) (ps t.length) else wR t
def nR : List Nat → Nat
  | [] => 0
  | b :: t => 2 * nR t + b
theorem wst_cut (q : Nat) : ∀ k, k ≤ 12 → wst q k = wst (q / 2 ^ (12 - k) * 2 ^ (12 - k)) k
  | 0, _ => rfl
  | k + 1, h => by
    have e1 : 12 - (k + 1) = 11 - k := by omega
    have e2 : 2 ^ (12 - k) = 2 * 2 ^ (11 - k) := by rw [show 12 - k = (11 - k) + 1 by omega, Nat.pow_succ, Nat.mul_comm]
    have hp := Nat.two_pow_pos (11 - k)
    have c1 : q / 2 ^ (11 - k) * 2 ^ (11 - k) / 2 ^ (11 - k) = q / 2 ^ (11 - k) := Nat.mul_div_cancel _ hp
    have c2 : q / 2 ^ (11 - k) * 2 ^ (11 - k) / 2 ^ (12 - k) * 2 ^ (12 - k) = q / 2 ^ (12 - k) * 2 ^ (12 - k) := by
      rw [e2, Nat.mul_comm 2, ← Nat.div_div_eq_div_mul, ← Nat.div_div_eq_div_mul, c1]
    have i1 := wst_cut q k (by omega)
    have i2 := wst_cut (q / 2 ^ (11 - k) * 2 ^ (11 - k)) k (by omega)
    rw [c2] at i2
    rw [e1]
    unfold wst
    rw [c1, i1, i2]
theorem nR_lt : ∀ t : List Nat, (∀ b ∈ t, b ≤ 1) → nR t < 2 ^ t.length
  | [], _ => by simp [nR]
  | b :: t, h => by
    have h1 := nR_lt t (fun x hx => h x (List.mem_cons_of_mem _ hx))
    have h2 := h b (List.mem_cons_self ..)
    rw [List.length_cons, Nat.pow_succ, nR]; omega
theorem wR_eq : ∀ t : List Nat, (∀ b ∈ t, b ≤ 1) → t.length ≤ 12 → wR t = wst (nR t * 2 ^ (12 - t.length)) t.length
  | [], _, _ => rfl
  | b :: t, h, hl => by
    simp only [List.length_cons] at hl
    have h1 := wR_eq t (fun x hx => h x (List.mem_cons_of_mem _ hx)) (by omega)
    have h2 := h b (List.mem_cons_self ..)
    have hp := Nat.two_pow_pos (11 - t.length)
    have e1 : 12 - (t.length + 1) = 11 - t.length := by omega
    have e2 : 2 ^ (12 - t.length) = 2 ^ (11 - t.length) * 2 := by rw [show 12 - t.length = (11 - t.length) + 1 by omega, Nat.pow_succ]
    have c1 : (2 * nR t + b) * 2 ^ (11 - t.length) / 2 ^ (11 - t.length) = 2 * nR t + b := Nat.mul_div_cancel _ hp
    have c2 : (2 * nR t + b) * 2 ^ (11 - t.length) / 2 ^ (12 - t.length) = nR t := by
      rw [e2, ← Nat.div_div_eq_div_mul, c1]; omega
    have i2 := wst_cut ((2 * nR t + b) * 2 ^ (11 - t.length)) t.length (by omega)
    rw [c2, ← h1] at i2
    rw [List.length_cons, e1, nR]
    unfold wR wst
    rw [c1, i2]
    by_cases hb : b = 1
    · rw [if_pos hb, if_pos (by omega)]
    · rw [if_neg hb, if_neg (by omega)]
theorem bits01 (v n : Nat) (pre : List Nat) : ∀ b ∈ bitsR v n pre, b ≤ 1 := by
  intro b hb
  simp only [bitsR, List.mem_reverse, List.mem_map] at hb
  obtain ⟨i, _, rfl⟩ := hb
  unfold bitAt; omega
theorem nR_range (v : Nat) : ∀ k, k ≤ 12 → v < 4096 → nR (bitsR v 12 (List.range k)) = v / 2 ^ (12 - k)
  | 0, _, hv => by simp [bitsR, nR]; omega
  | k + 1, hk, hv => by
    rw [List.range_succ, bitsR_snoc, nR, nR_range v k (by omega) hv]
    have e2 : 2 ^ (12 - k) = 2 ^ (11 - k) * 2 := by rw [show 12 - k = (11 - k) + 1 by omega, Nat.pow_succ]
    unfold bitAt
    rw [show 12 - 1 - k = 11 - k by omega, show 12 - (k + 1) = 11 - k by omega, e2, ← Nat.div_div_eq_div_mul]
    omega
theorem wR_end (v : Nat) (hv : v < 4096) : wR (bitsR v 12 (List.range 12)) = wst v 12 := by
  rw [wR_eq _ (bits01 _ _ _) (by rw [bitsR_length]; simp), bitsR_length, nR_range v 12 (by omega) hv]
  simp
/-- what holds after some bits, fewer than twelve -/
theorem wR_ok (v : Nat) (pre : List Nat) (h : pre.length < 12) :
    let p := wR (bitsR v 12 pre)
    p.2 * ps pre.length ≤ p.1 * pc pre.length ∧ p.1 * ps pre.length + p.2 * pc pre.length ≤ 9223372035000000000 ∧ p.1 * pc pre.length ≤ 9223372035000000000 ∧ p.1 ≤ 2147483648 ∧ p.2 ≤ 2147483648 := by
  have hl := bitsR_length v 12 pre
  have e := wR_eq (bitsR v 12 pre) (bits01 _ _ _) (by omega)
  have hn := nR_lt (bitsR v 12 pre) (bits01 _ _ _)
  rw [hl] at e hn
  simp only
  rw [e]
  refine wst_ok ?_ h
  have : 2 ^ pre.length * 2 ^ (12 - pre.length) = 4096 := by rw [← Nat.pow_add, Nat.add_sub_cancel' (by omega)]
  have := Nat.mul_lt_mul_of_pos_right hn (Nat.two_pow_pos (12 - pre.length))
  omega
theorem wR_le (v : Nat) (pre : List Nat) (h : pre.length ≤ 12) : (wR (bitsR v 12 pre)).1 ≤ 4294967296 ∧ (wR (bitsR v 12 pre)).2 ≤ 4294967296 := by
  have hl := bitsR_length v 12 pre
  have e := wR_eq (bitsR v 12 pre) (bits01 _ _ _) (by omega)
  have hn := nR_lt (bitsR v 12 pre) (bits01 _ _ _)
  rw [hl] at e hn
  rw [e]
  refine wst_le ?_ _ h
  have : 2 ^ pre.length * 2 ^ (12 - pre.length) = 4096 := by rw [← Nat.pow_add, Nat.add_sub_cancel' (by omega)]
  have := Nat.mul_lt_mul_of_pos_right hn (Nat.two_pow_pos (12 - pre.length))
  omega
end Go.Proofs.YtpmhioaoniijbaaDoor
