/- the reference's reader: Signed, Unary -/
import Derived.Test.YtdjaileeklhkmaaRQ
namespace Go.Proofs.Ytdjaileeklhkmaa
open Go.RowKit Go.Shelf

def sgnQ (bs : List Nat) (at_ : Nat) (n : Int) : Int × Int × Nat :=
  if n < 1 ∨ 32 < n then (0, 1, at_) else
    ((if (nextR bs at_ n.toNat).2.1 = 0 ∧ (nextR bs at_ n.toNat).1.getD 0 0 = 1 then (valBits (nextR bs at_ n.toNat).1 : Int) - 2 ^ n.toNat else valBits (nextR bs at_ n.toNat).1), (nextR bs at_ n.toNat).2)
theorem qsigned_nil (n : Int) (w : World) : Calls Try.prog 59 #[.pointer none, .int .i64 n] w fun e w' => e = .returned (.tuple #[.int .i64 0, .int .i64 1]) ∧ w = w' := by
  go_enter Try.func59, Try.ntmps59
  go_wp2
  go_ret2
  exact ⟨rfl, rfl⟩
set_option maxRecDepth 100000 in
set_option maxHeartbeats 1000000 in
theorem qsigned_any (b : Nat) (sv : Value) (bs : List Nat) (at_ : Nat) (n : Int) (w : World) (h : QAt w b sv bs at_) :
    Calls Try.prog 59 #[.pointer (some ⟨b, 0, none⟩), .int .i64 n] w fun e w' => QRes b sv bs w (sgnQ bs at_ n) e w' := by
  have H := Lib.hid h; clear h
  by_cases h1 : n < 1
  · have hr : sgnQ bs at_ n = (0, 1, at_) := if_pos (.inl h1)
    have Hr := Lib.hid hr; clear hr
    go_enter Try.func59, Try.ntmps59
    go_wp2
    go_ret2
    rw [Hr.out]
    exact ⟨rfl, H.out, Upd.refl _ _⟩
  by_cases h2 : 32 < n
  · have hr : sgnQ bs at_ n = (0, 1, at_) := if_pos (.inr h2)
    have Hr := Lib.hid hr; clear hr
    go_enter Try.func59, Try.ntmps59
    go_wp2
    go_ret2
    rw [Hr.out]
    exact ⟨rfl, H.out, Upd.refl _ _⟩
  obtain ⟨m, rfl⟩ := Int.eq_ofNat_of_zero_le (show 0 ≤ n by omega)
  have hr : sgnQ bs at_ m = ((if (nextR bs at_ m).2.1 = 0 ∧ (nextR bs at_ m).1.getD 0 0 = 1 then (valBits (nextR bs at_ m).1 : Int) - 2 ^ m else valBits (nextR bs at_ m).1), (nextR bs at_ m).2) := by rw [sgnQ, if_neg (by omega), Int.toNat_natCast]
  have hlen := nextR_len bs at_ m
  have h01 := nextR_01 H.out.2.2.1 at_ m
  have hnx := next_any b sv bs at_ m w H.out
  have hoz : ((nextR bs at_ m).2.1 = 3 ∧ (nextR bs at_ m).1 = []) ∨ ((nextR bs at_ m).2.1 = 0 ∧ (nextR bs at_ m).1.length = m) := by
    unfold nextR; split
    · exact .inl ⟨rfl, rfl⟩
    · right; refine ⟨rfl, ?_⟩; simp; omega
  generalize nextR bs at_ m = R at *
  obtain ⟨R1, R2, R3⟩ := R
  simp only at hr hlen h01 hnx hoz
  have hv := valBits_lt h01
  have Hr := Lib.hid hr; have Hlen := Lib.hid hlen; have H01 := Lib.hid h01; have Hnx := Lib.hid hnx
  clear hr hlen h01 hnx
  rcases hoz with ⟨rfl, rfl⟩ | ⟨rfl, hl⟩
  · go_enter Try.func59, Try.ntmps59
    go_wp2_with fail
    refine (Hnx.out).mono ?_
    rintro e w2 ⟨v, rfl, hb, hq, hu⟩
    obtain ⟨va, vc, rfl⟩ : ∃ va vc, v = .slice va 0 vc := by obtain ⟨_, a, c, he, _⟩ := hb; exact ⟨a, c, he⟩
    have HB := Lib.hid hb; have HQ := Lib.hid hq; have HU := Lib.hid hu
    clear hb hq hu
    go_wp2_with fail
    refine (qvalue_any _ [] w2 HB.out H01.out (by simp)).mono ?_
    rintro e w3 ⟨rfl, rfl⟩
    go_wp2_with fail
    go_ret2
    rw [Hr.out]
    exact ⟨rfl, HQ.out, HU.out⟩
  · subst hl
    have hm : R1.length ≤ 32 := by omega
    obtain ⟨x, R1', rfl⟩ : ∃ x R1', R1 = x :: R1' := by
      cases R1 with
      | nil => simp at h1
      | cons x l => exact ⟨x, l, rfl⟩
    have hx1 := H01.out x List.mem_cons_self
    have hp := Nat.pow_le_pow_right (n := 2) (by decide) hm
    have hp' : 2 ^ 32 = 4294967296 := by decide
    rw [hp'] at hp
    obtain ⟨q, hq⟩ : ∃ q : Nat, q = valBits (x :: R1') := ⟨_, rfl⟩
    rw [← hq] at hv
    have hval := fun w2 v (hb : Bytes w2 v (x :: R1')) => qvalue_any v (x :: R1') w2 hb H01.out (by omega)
    rw [← hq] at hval
    have hr2 := Hr.out
    rw [← hq] at hr2
    have Hr2 := Lib.hid hr2; have Hval := Lib.hid hval
    obtain ⟨L, hL⟩ : ∃ L, L = (x :: R1').length := ⟨_, rfl⟩
    rw [← hL] at hv hm hp h1 h2 ⊢
    have hL0 : 0 < L := by rw [hL]; simp
    have HL := Lib.hid hL
    have hpi : (2 : Int) ^ L = ((2 ^ L : Nat) : Int) := by simp
    have hb1 : (2 : Int) ^ L ≤ 4294967296 := by rw [hpi]; omega
    have hb2 : (0 : Int) ≤ 2 ^ L := by rw [hpi]; omega
    have hy : (q : Int) < 4294967296 := by omega
    clear hq hr2 hval hL hp hp' hpi hv Hr
    by_cases hx : x = 1
    · subst hx
      go_enter Try.func59, Try.ntmps59
      go_wp2_with fail
      refine (by have := Hnx.out; rw [← HL.out] at this; exact this : Calls Try.prog 78 #[.pointer (some ⟨b, 0, none⟩), .int .i64 (L : Nat)] w _).mono ?_
      rintro e w2 ⟨v, rfl, hb, hq, hu⟩
      obtain ⟨va, vc, rfl⟩ : ∃ va vc, v = .slice va L vc := by obtain ⟨_, a, c, he, _⟩ := hb; rw [HL.out]; exact ⟨a, c, he⟩
      have hc : ∃ vb vo, va = some ⟨vb, vo, none⟩ ∧ w2.cell? ⟨vb, vo, none⟩ = some (.int .u8 1) := by
        obtain ⟨_, a, c, he, _, hz⟩ := hb
        cases he
        rcases hz with hz | ⟨vb, vo, rfl, hz⟩
        · cases hz
        · exact ⟨vb, vo, rfl, hz 0 (by simp)⟩
      obtain ⟨vb, vo, rfl, hc⟩ := hc
      have HB := Lib.hid hb; have HQ := Lib.hid hq; have HU := Lib.hid hu
      clear hb hq hu
      go_wp2_with fail
      refine (Hval.out w2 _ HB.out).mono ?_
      rintro e w3 ⟨rfl, rfl⟩
      go_wp2_with fail
      go_ret2
      rw [HL.out, Hr2.out]
      exact ⟨rfl, HQ.out, HU.out⟩
    · have hx0 : x = 0 := by omega
      subst hx0
      go_enter Try.func59, Try.ntmps59
      go_wp2_with fail
      refine (by have := Hnx.out; rw [← HL.out] at this; exact this : Calls Try.prog 78 #[.pointer (some ⟨b, 0, none⟩), .int .i64 (L : Nat)] w _).mono ?_
      rintro e w2 ⟨v, rfl, hb, hq, hu⟩
      obtain ⟨va, vc, rfl⟩ : ∃ va vc, v = .slice va L vc := by obtain ⟨_, a, c, he, _⟩ := hb; rw [HL.out]; exact ⟨a, c, he⟩
      have hc : ∃ vb vo, va = some ⟨vb, vo, none⟩ ∧ w2.cell? ⟨vb, vo, none⟩ = some (.int .u8 0) := by
        obtain ⟨_, a, c, he, _, hz⟩ := hb
        cases he
        rcases hz with hz | ⟨vb, vo, rfl, hz⟩
        · cases hz
        · exact ⟨vb, vo, rfl, hz 0 (by simp)⟩
      obtain ⟨vb, vo, rfl, hc⟩ := hc
      have HB := Lib.hid hb; have HQ := Lib.hid hq; have HU := Lib.hid hu
      clear hb hq hu
      go_wp2_with fail
      refine (Hval.out w2 _ HB.out).mono ?_
      rintro e w3 ⟨rfl, rfl⟩
      go_wp2_with fail
      go_ret2
      rw [HL.out, Hr2.out]
      exact ⟨rfl, HQ.out, HU.out⟩
end Go.Proofs.Ytdjaileeklhkmaa
