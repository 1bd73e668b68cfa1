/- the reference's reader: Gamma, Take, Align -/
import Derived.Test.YtdjaileeklhkmaaRU
import Derived.Test.YtdjaileeklhkmaaRS
namespace Go.Proofs.Ytdjaileeklhkmaa
open Go.RowKit Go.Shelf

def gamQ (bs : List Nat) (at_ : Nat) : Int × Int × Nat :=
  if (unaQ bs at_ 20).2.1 ≠ 0 then (0, (unaQ bs at_ 20).2.1, at_) else
    if (nextR bs (unaQ bs at_ 20).2.2 (unaQ bs at_ 20).1.toNat).2.1 ≠ 0 then (0, (nextR bs (unaQ bs at_ 20).2.2 (unaQ bs at_ 20).1.toNat).2.1, at_) else
      (2 ^ (unaQ bs at_ 20).1.toNat + (valBits (nextR bs (unaQ bs at_ 20).2.2 (unaQ bs at_ 20).1.toNat).1 : Int), 0, (nextR bs (unaQ bs at_ 20).2.2 (unaQ bs at_ 20).1.toNat).2.2)
theorem unaQ_form (bs : List Nat) (at_ : Nat) : ((unaQ bs at_ 20).2.1 ≠ 0 ∧ (unaQ bs at_ 20).1 = 0 ∧ (unaQ bs at_ 20).2.2 = at_) ∨ ((unaQ bs at_ 20).2.1 = 0 ∧ ∃ k : Nat, k ≤ 20 ∧ (unaQ bs at_ 20).1 = k ∧ (unaQ bs at_ 20).2.2 = at_ + (k + 1)) := by
  unfold unaQ
  rw [if_neg (by omega)]
  have hle := zscan_le (20 : Int).toNat (bs.drop at_) 0
  split
  · next h => exact .inr ⟨rfl, _, (hle h).2.2 (by omega), rfl, rfl⟩
  · next h => exact .inl ⟨by simp; exact h, rfl, rfl⟩
theorem qgamma_nil (w : World) : Calls Try.prog 61 #[.pointer none] w fun e w' => e = .returned (.tuple #[.int .i64 0, .int .i64 1]) ∧ w = w' := by
  go_enter Try.func61, Try.ntmps61
  go_wp2
  go_ret2
  exact ⟨rfl, rfl⟩
set_option maxRecDepth 100000 in
set_option maxHeartbeats 2000000 in
theorem qgamma_any (b : Nat) (sv : Value) (bs : List Nat) (at_ : Nat) (w : World) (h : QAt w b sv bs at_) :
    Calls Try.prog 61 #[.pointer (some ⟨b, 0, none⟩)] w fun e w' => QRes b sv bs w (gamQ bs at_) e w' := by
  have hun := qunary_any b sv bs at_ 20 w h
  have hf := unaQ_form bs at_
  have c1 := h.c1
  have H := Lib.hid h; clear h
  obtain ⟨r, hr⟩ : ∃ r, r = gamQ bs at_ := ⟨_, rfl⟩
  rw [← hr]
  unfold gamQ at hr
  have hat := H.out.2.2.2.1
  generalize unaQ bs at_ 20 = U at *
  obtain ⟨U1, U2, U3⟩ := U
  simp only at hf hr
  have Hun := Lib.hid hun; clear hun
  rcases hf with ⟨h2, rfl, rfl⟩ | ⟨rfl, k, hk, rfl, rfl⟩
  · rw [if_pos h2] at hr
    have t1 : ((U2 : Int) != 0) = true := by simpa using h2
    have Hr := Lib.hid hr; clear hr
    go_enter Try.func61, Try.ntmps61
    go_wp2_with fail
    refine (Hun.out).mono ?_
    rintro e w2 ⟨rfl, hq, hu⟩
    have HQ := Lib.hid hq; have HU := Lib.hid hu
    clear hq hu
    go_wp2_with fail
    go_ret2
    rw [Hr.out]
    exact ⟨rfl, HQ.out, HU.out⟩
  · rw [if_neg (by simp), Int.toNat_natCast] at hr
    have hnx := fun w2 hq => next_any b sv bs (at_ + (k + 1)) k w2 hq
    have hlen := nextR_len bs (at_ + (k + 1)) k
    have h01 := nextR_01 H.out.2.2.1 (at_ + (k + 1)) k
    have hoz : (nextR bs (at_ + (k + 1)) k).2.1 = 3 ∨ (nextR bs (at_ + (k + 1)) k).2.1 = 0 := by unfold nextR; split <;> simp
    generalize nextR bs (at_ + (k + 1)) k = R at *
    obtain ⟨R1, R2, R3⟩ := R
    simp only at hr hlen h01 hnx hoz
    have Hnx := Lib.hid hnx; have H01 := Lib.hid h01
    clear hnx
    rcases hoz with rfl | rfl
    · rw [if_pos (by simp)] at hr
      have Hr := Lib.hid hr; clear hr h01
      go_enter Try.func61, Try.ntmps61
      go_wp2_with fail
      refine (Hun.out).mono ?_
      rintro e w2 ⟨rfl, hq, hu⟩
      have HQ := Lib.hid hq; have HU := Lib.hid hu
      clear hq hu
      go_wp2_with fail
      refine (Hnx.out w2 HQ.out).mono ?_
      rintro e w3 ⟨v, rfl, hb, hq, hu⟩
      obtain ⟨va, vc, rfl⟩ : ∃ va vc, v = .slice va R1.length vc := by obtain ⟨_, a, c, he, _⟩ := hb; exact ⟨a, c, he⟩
      have f1 := blk_free hq.1 1
      have c1' := hq.c1
      have hm := hq.move at_ hat
      have Hm := Lib.hid hm; have HU3 := Lib.hid hu
      clear hb hq hu hm
      go_wp2_with fail
      go_ret2
      rw [Hr.out]
      exact ⟨rfl, Hm.out.1, (HU.out.trans HU3.out (fun _ _ h => h)).trans Hm.out.2 (fun _ _ h => h)⟩
    · rw [if_neg (by simp)] at hr
      have hv := valBits_lt h01
      have hp := Nat.pow_le_pow_right (n := 2) (by decide) hlen
      have hp20 := Nat.pow_le_pow_right (n := 2) (by decide) hk
      have hp' : 2 ^ 20 = 1048576 := by decide
      rw [hp'] at hp20
      have hval := fun w2 v (hb : Bytes w2 v R1) => qvalue_any v R1 w2 hb H01.out (by omega)
      generalize valBits R1 = q at *
      have hpi : (2 : Int) ^ k = ((2 ^ k : Nat) : Int) := by simp
      have hb1 : (2 : Int) ^ k ≤ 1048576 := by rw [hpi]; omega
      have hb2 : (0 : Int) ≤ 2 ^ k := by rw [hpi]; omega
      have hq1 : q < 1048576 := by omega
      have Hval := Lib.hid hval; have Hr := Lib.hid hr
      have k1 : IntKind.i64.wrap (2 ^ k + (q : Int)) = 2 ^ k + (q : Int) := IntWalk.i64_in _ (by omega)
      have K1 := Lib.hid k1
      clear hval hr h01 hv hp hp' hpi hp20 k1
      go_enter Try.func61, Try.ntmps61
      go_wp2_with fail
      refine (Hun.out).mono ?_
      rintro e w2 ⟨rfl, hq, hu⟩
      have HQ := Lib.hid hq; have HU := Lib.hid hu
      clear hq hu
      go_wp2_with fail
      refine (Hnx.out w2 HQ.out).mono ?_
      rintro e w3 ⟨v, rfl, hb, hq, hu⟩
      obtain ⟨va, vc, rfl⟩ : ∃ va vc, v = .slice va R1.length vc := by obtain ⟨_, a, c, he, _⟩ := hb; exact ⟨a, c, he⟩
      have HB := Lib.hid hb; have HQ3 := Lib.hid hq; have HU3 := Lib.hid hu
      clear hb hq hu
      go_wp2_with fail
      have k1 := K1.out
      have hqv := fun n => Calls.quiet_of (n := n) (w := w3) ((Hval.out (w3.drewN n) _ (bytes_later HB.out (upd_drewN (Upd.refl NoB w3) n))).mono (fun _ _ h => ⟨h.1, 0, h.2.symm⟩))
      have Hqv := Lib.hid hqv; clear hqv
      go_quiet ((exact Hqv.out _))
      go_wp2_with fail
      go_ret2
      rw [Hr.out]
      exact ⟨rfl, HQ3.out.drewN _, upd_drewN (HU.out.trans HU3.out (fun _ _ h => h)) _⟩

def takeQ (bs : List Nat) (at_ : Nat) (n : Int) : List Nat × Int × Nat := if n < 0 then ([], 1, at_) else (pack (nextR bs at_ n.toNat).1, (nextR bs at_ n.toNat).2)
theorem qtake_nil (n : Int) (w : World) : Calls Try.prog 63 #[.pointer none, .int .i64 n] w fun e w' => e = .returned (.tuple #[.slice none 0 0, .int .i64 1]) ∧ w = w' := by
  go_enter Try.func63, Try.ntmps63
  go_wp2
  go_ret2
  exact ⟨rfl, rfl⟩
def QTRes (b : Nat) (sv : Value) (bs : List Nat) (w : World) (r : List Nat × Int × Nat) (e : Ending) (w' : World) : Prop :=
  ∃ v, e = .returned (.tuple #[v, .int .i64 r.2.1]) ∧ Row8 w' v r.1 ∧ newB w v ∧ QAt w' b sv bs r.2.2 ∧ Upd (fun k => k = b) w w'
set_option maxRecDepth 100000 in
set_option maxHeartbeats 2000000 in
theorem qtake_any (b : Nat) (sv : Value) (bs : List Nat) (at_ : Nat) (n : Int) (w : World) (h : QAt w b sv bs at_) :
    Calls Try.prog 63 #[.pointer (some ⟨b, 0, none⟩), .int .i64 n] w fun e w' => QTRes b sv bs w (takeQ bs at_ n) e w' := by
  have H := Lib.hid h; clear h
  by_cases h1 : n < 0
  · have hr : takeQ bs at_ n = ([], 1, at_) := if_pos h1
    have Hr := Lib.hid hr; clear hr
    go_enter Try.func63, Try.ntmps63
    go_wp2
    go_ret2
    rw [Hr.out]
    exact ⟨_, rfl, row8_nil _, newB_nil _, H.out, Upd.refl _ _⟩
  obtain ⟨m, rfl⟩ := Int.eq_ofNat_of_zero_le (show 0 ≤ n by omega)
  have hr : takeQ bs at_ m = (pack (nextR bs at_ m).1, (nextR bs at_ m).2) := by rw [takeQ, if_neg (by omega), Int.toNat_natCast]
  have hlen : (nextR bs at_ m).1.length ≤ 1048576 := by
    have := H.out.2.2.2.2.1
    unfold nextR; split
    · simp
    · simp; omega
  have h01 := nextR_01 H.out.2.2.1 at_ m
  have hnx := next_any b sv bs at_ m w H.out
  have hsz := lt_of_block H.out.1
  generalize nextR bs at_ m = R at *
  obtain ⟨R1, R2, R3⟩ := R
  simp only at hr hlen h01 hnx
  have Hr := Lib.hid hr; have H01 := Lib.hid h01; have Hnx := Lib.hid hnx; have Hlen := Lib.hid hlen
  clear hr h01 hnx hlen hsz
  go_enter Try.func63, Try.ntmps63
  go_wp2_with fail
  refine (Hnx.out).mono ?_
  rintro e w2 ⟨v, rfl, hb, hq, hu⟩
  obtain ⟨va, vc, rfl⟩ : ∃ va vc, v = .slice va R1.length vc := by obtain ⟨_, a, c, he, _⟩ := hb; exact ⟨a, c, he⟩
  have HB := Lib.hid hb; have HQ := Lib.hid hq; have HU := Lib.hid hu
  clear hb hq hu
  go_wp2_with fail
  refine (pack_any _ R1 w2 HB.out H01.out (by have := Hlen.out; omega)).mono ?_
  rintro e w3 ⟨v3, rfl, r3, u3, n3⟩
  have R3' := Lib.hid r3; have U3 := Lib.hid u3; have N3 := Lib.hid n3
  clear r3 u3 n3
  go_wp2_with fail
  go_ret2
  rw [Hr.out]
  refine ⟨_, rfl, R3'.out, fun k hk => ?_, HQ.out.upd U3.out (fun k _ => noB k), HU.out.then U3.out⟩
  have := N3.out k hk
  have := HU.out.size
  omega

theorem qalign_nil (w : World) : Calls Try.prog 62 #[.pointer none] w fun e w' => e = .returned (.int .i64 0) ∧ ∃ m, w' = w.drewN m := by
  go_enter Try.func62, Try.ntmps62
  go_wp2
  go_loopw [3] (fun i wr => i = .int .i64 0 ∧ wr = w) (fun _ _ => 0)
  case atStart => exact ⟨rfl, rfl⟩
  case round =>
    obtain ⟨rfl, rfl⟩ := hrel
    go_wp2
    go_quiet (fail)
    go_wp2
    go_ret
    exact ⟨rfl, _, rfl⟩
set_option maxRecDepth 100000 in
set_option maxHeartbeats 2000000 in
theorem qalign_any (b : Nat) (sv : Value) (bs : List Nat) (at_ : Nat) (w : World) (h : QAt w b sv bs at_) :
    Calls Try.prog 62 #[.pointer (some ⟨b, 0, none⟩)] w fun e w' => e = .returned (.int .i64 (alnN bs.length at_ : Nat)) ∧ QAt w' b sv bs (at_ + alnN bs.length at_) ∧ Upd (fun k => k = b) w w' := by
  obtain ⟨a, cap, rfl, hcap⟩ := h.form
  have hl := h.2.2.2.2.1
  have ha := h.2.2.2.1
  have H := Lib.hid h; clear h
  obtain ⟨L, hL⟩ : ∃ L, L = bs.length := ⟨_, rfl⟩
  have HL := Lib.hid hL
  rw [← hL] at hl ha hcap
  rw [← hL]
  clear hL
  have hA : alnN L at_ ≤ 7 ∧ at_ + alnN L at_ ≤ L := by unfold alnN; omega
  obtain ⟨A, hAe⟩ : ∃ A, A = alnN L at_ := ⟨_, rfl⟩
  rw [← hAe] at hA ⊢
  have HA := Lib.hid hAe; clear hAe
  obtain ⟨hA1, hA2⟩ := hA
  go_enter Try.func62, Try.ntmps62
  go_wp2
  go_loopw [3] (fun i wr => ∃ k : Nat, k ≤ A ∧ i = .int .i64 k ∧ QAt wr b (.slice a L cap) bs (at_ + k) ∧ Upd (fun k => k = b) w wr) (fun i _ => A - (intOf i).toNat)
  case atStart => exact ⟨0, Nat.zero_le _, rfl, by have := H.out; rw [← HL.out] at this; exact this, Upd.refl _ _⟩
  case round =>
    obtain ⟨k, hk, rfl, hq, hu⟩ := hrel
    have c0 := hq.c0
    have c1 := hq.c1
    have f1 := blk_free hq.1 1
    have HQ := Lib.hid hq; have HU := Lib.hid hu
    clear hq hu
    obtain ⟨p, hp⟩ : ∃ p, p = at_ + k := ⟨_, rfl⟩
    rw [← hp] at c1
    have Hp := Lib.hid hp
    have k0 : (p : Int).tmod 8 = (p : Int) % 8 := Int.tmod_eq_emod_of_nonneg (by omega)
    by_cases hlt : k < A
    · have t1 : decide (0 < (p : Int) % 8) = true := decide_eq_true (by have := HA.out; unfold alnN at this; omega)
      have t2 : decide (p < L) = true := decide_eq_true (by omega)
      have hmv := fun q2 => (HQ.out.drewN q2).move (p + 1) (by rw [← HL.out]; omega)
      have Hmv := Lib.hid hmv
      have hpb : p ≤ 1048576 := by omega
      clear hp hmv
      go_wp2
      go_quiet (fail)
      go_wp2
      go_roundw
      case rel =>
        have hm := Hmv.out nq
        refine ⟨k + 1, by omega, by go_num, ?_, (upd_drewN HU.out _).trans hm.2 (fun _ _ h => h)⟩
        have e2 : p + 1 = at_ + (k + 1) := by have := Hp.out; omega
        rw [← e2]
        exact hm.1
      case measure => simp [intOf]; omega
    · obtain rfl : k = A := by omega
      by_cases h8 : p % 8 = 0
      · have t1 : decide (0 < (p : Int) % 8) = false := decide_eq_false (by omega)
        clear hp h8
        go_wp2
        go_quiet (fail)
        go_wp2
        go_ret
        exact ⟨rfl, HQ.out.drewN _, upd_drewN HU.out _⟩
      · have t1 : decide (0 < (p : Int) % 8) = true := decide_eq_true (by omega)
        have t2 : decide (p < L) = false := decide_eq_false (by have := HA.out; unfold alnN at this; omega)
        clear hp h8
        go_wp2
        go_quiet (fail)
        go_wp2
        go_ret
        exact ⟨rfl, HQ.out.drewN _, upd_drewN HU.out _⟩
end Go.Proofs.Ytdjaileeklhkmaa
