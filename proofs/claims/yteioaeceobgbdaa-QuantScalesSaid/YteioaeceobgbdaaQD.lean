/- quant: the least quantum whose value reaches a coefficient -/
import Derived.Test.YteioaeceobgbdaaQC
namespace Go.Proofs.Yteioaeceobgbdaa
open Go.RowKit Go.Shelf

/-- the first number from k on, of n, that fits; k + n where none does -/
def fsG (p : Nat → Bool) : Nat → Nat → Nat
  | 0, k => k
  | n + 1, k => if p k then k else fsG p n (k + 1)
theorem fsG_is {p : Nat → Bool} : ∀ {n k r : Nat}, k ≤ r → r ≤ k + n → (∀ j, k ≤ j → j < r → p j = false) → (r < k + n → p r = true) → fsG p n k = r
  | 0, k, r, h1, h2, _, _ => by show k = r; omega
  | n + 1, k, r, h1, h2, h3, h4 => by
    unfold fsG
    by_cases e : k = r
    · subst e
      rw [if_pos (h4 (by omega))]
    · rw [if_neg (by rw [h3 k (Nat.le_refl _) (by omega)]; decide)]
      exact fsG_is (by omega) (by omega) (fun j hj => h3 j (by omega)) (fun h => h4 (by omega))
theorem fsG_le {p : Nat → Bool} : ∀ {n k : Nat}, k ≤ fsG p n k ∧ fsG p n k ≤ k + n
  | 0, k => ⟨Nat.le_refl _, Nat.le_refl _⟩
  | n + 1, k => by
    unfold fsG
    split
    · omega
    · have := fsG_le (p := p) (n := n) (k := k + 1)
      omega
def fsN (s : Nat) (c : Int) : Nat := fsG (fun q => decide (c ≤ vlN s q)) 1023 0
theorem fsN_le (s : Nat) (c : Int) : fsN s c ≤ 1023 := by
  have := (fsG_le (p := fun q => decide (c ≤ vlN s q)) (n := 1023) (k := 0)).2
  unfold fsN
  omega
theorem fsN_is {s : Nat} {c : Int} {r : Nat} (h1 : r ≤ 1023) (h2 : ∀ j, j < r → vlN s j < c) (h3 : r < 1023 → c ≤ vlN s r) : fsN s c = r :=
  fsG_is (Nat.zero_le _) (by omega) (fun j _ hj => decide_eq_false (by have := h2 j hj; omega)) (fun h => decide_eq_true (h3 (by omega)))
set_option maxRecDepth 100000 in
set_option maxHeartbeats 2000000 in
theorem quantum1_any (sc : Int) (s b q B1 B2 : Nat) (c : Int) (w : World) (h : Memo w b) (hs : s ≤ 95) (hq : q ≤ 1023) (hc : w.heap[B1]? = some (.cells #[.int .i64 sc, .int .i64 (stepN s : Nat), .pointer (some ⟨b, 0, none⟩)] 57 (0, 0))) (hc2 : w.cell? ⟨B2, 0, none⟩ = some (.int .i64 c)) (_h1 : B1 ≠ b) (h2 : B2 ≠ b) :
    Calls Try.prog 96 #[.int .i64 (q : Int), .pointer (some ⟨B1, 0, none⟩), .pointer (some ⟨B2, 0, none⟩)] w fun e w' => e = .returned (.bool (decide (c ≤ vlN s q))) ∧ Memo w' b ∧ Upd (fun k => k = b) w w' := by
  have HV := Lib.hid (fun W (h : Memo W b) => value_any sc s b q W h hs hq)
  have HM := Lib.hid (h.later (Upd.refl NoB w).drew)
  obtain ⟨⟨d0, d1, d2⟩, _, _, _⟩ := cells3 hc
  have e0 : w.drew.cell? ⟨B1, 0, none⟩ = some (.int .i64 sc) := d0
  have e1 : w.drew.cell? ⟨B1, 1, none⟩ = some (.int .i64 (stepN s : Nat)) := d1
  have e2 : w.drew.cell? ⟨B1, 2, none⟩ = some (.pointer (some ⟨b, 0, none⟩)) := d2
  have e3 : w.drew.cell? ⟨B2, 0, none⟩ = some (.int .i64 c) := hc2
  generalize stepN s = t at *
  generalize vlN s q = v at *
  clear h hc hs hq d0 d1 d2
  go_enter Try.func96, Try.ntmps96
  go_wp2_with fail
  go_region_with (go_at_call 47; (with_reducible refine (HV.out _ HM.out).mono ?_); rintro e w2 ⟨rfl, M2, u2⟩; have U2 := Lib.hid (show Upd (fun k => k = b) w w2 from ((Upd.refl NoB w).drew.mono (T := fun k => k = b) (fun _ _ h => h.elim)).trans u2 (fun _ _ h => h)); have c1 := u2.cell e3 h2; have M2' := Lib.hid M2; clear u2 M2)
  all_goals
    go_wp2_with fail
    go_ret
    exact ⟨rfl, M2'.out, U2.out⟩
theorem mid_facts {a z : Nat} (h : a < z) (hz : z ≤ 1023) : ∃ D H m : Nat, (a ≤ m ∧ m < z) ∧ wrap64 ((z : Int) - (a : Int)) = (D : Int) ∧ IntKind.i64.wrap ((z : Int) - (a : Int)) = (D : Int) ∧ (D : Int).tdiv 2 = (H : Int) ∧ wrap64 ((a : Int) + (H : Int)) = (m : Int) ∧ IntKind.i64.wrap ((a : Int) + (H : Int)) = (m : Int) ∧ wrap64 (H : Int) = (H : Int) ∧ IntKind.i64.wrap (H : Int) = (H : Int) ∧ (D : Int) / 2 = (H : Int) := by
  refine ⟨z - a, (z - a) / 2, a + (z - a) / 2, by omega, ?_, ?_, ?_, ?_, ?_, IntWalk.wrap64_in _ (by omega), IntWalk.i64_in _ (by omega), by omega⟩
  · rw [show (z : Int) - (a : Int) = ((z - a : Nat) : Int) by omega]; exact IntWalk.wrap64_in _ (by omega)
  · rw [show (z : Int) - (a : Int) = ((z - a : Nat) : Int) by omega]; exact IntWalk.i64_in _ (by omega)
  · rw [Int.tdiv_eq_ediv_of_nonneg (by omega)]; omega
  · rw [show (a : Int) + (((z - a) / 2 : Nat) : Int) = ((a + (z - a) / 2 : Nat) : Int) by omega]; exact IntWalk.wrap64_in _ (by omega)
  · rw [show (a : Int) + (((z - a) / 2 : Nat) : Int) = ((a + (z - a) / 2 : Nat) : Int) by omega]; exact IntWalk.i64_in _ (by omega)
set_option maxRecDepth 100000 in
set_option maxHeartbeats 4000000 in
theorem least_any (sc : Int) (s b B1 B2 : Nat) (c : Int) (w : World) (h : Memo w b) (hs : s ≤ 95) (hc : w.heap[B1]? = some (.cells #[.int .i64 sc, .int .i64 (stepN s : Nat), .pointer (some ⟨b, 0, none⟩)] 57 (0, 0))) (hc2 : w.cell? ⟨B2, 0, none⟩ = some (.int .i64 c)) (h1 : B1 ≠ b) (h2 : B2 ≠ b) :
    Calls Try.prog 95 #[.int .i64 0, .int .i64 1023, .func (.func 96) #[] #[.pointer (some ⟨B1, 0, none⟩), .pointer (some ⟨B2, 0, none⟩)]] w fun e w' => e = .returned (.int .i64 (fsN s c : Nat)) ∧ Memo w' b ∧ Upd (fun k => k = b) w w' := by
  have HQ := Lib.hid (fun (q : Nat) (hq : q ≤ 1023) W (h : Memo W b) (u : Upd (fun k => k = b) w W) => quantum1_any sc s b q B1 B2 c W h hs hq (u.heap hc h1) (u.cell hc2 h2) h1 h2)
  have HF := Lib.hid (fun (r : Nat) a z x => fsN_is (s := s) (c := c) (r := r) a z x)
  have HMo := Lib.hid (fun (i j : Nat) (h : i ≤ j) (hj : j ≤ 1023) => vlN_mono hs h hj)
  have HM := Lib.hid h
  generalize fsN s c = R at *
  clear h hc hc2 hs
  go_enter Try.func95, Try.ntmps95
  go_wp2_with fail
  go_loopw [0, 1] (fun lo hi wr => ∃ a z : Nat, lo = .int .i64 (a : Int) ∧ hi = .int .i64 (z : Int) ∧ a ≤ z ∧ z ≤ 1023 ∧ (∀ j, j < a → vlN s j < c) ∧ (z < 1023 → c ≤ vlN s z) ∧ Memo wr b ∧ Upd (fun k => k = b) w wr) (fun lo hi _ => (intOf hi).toNat - (intOf lo).toNat)
  case atStart => exact ⟨0, 1023, rfl, rfl, by omega, by omega, fun j hj => by omega, fun h => by omega, HM.out, Upd.refl _ _⟩
  case round =>
    obtain ⟨a, z, rfl, rfl, haz, hz, hlo, hhi, hm, hu⟩ := hrel
    have HLo := Lib.hid hlo; have HHi := Lib.hid hhi; have HMm := Lib.hid hm; have HU := Lib.hid hu
    by_cases hlt : a < z
    · obtain ⟨D, H, m, hma, z1, z2, z3, z4, z5, z6, z7, z8⟩ := mid_facts hlt hz
      have HQm := Lib.hid (HQ.out m (by clear z1 z2 z3 z4 z5 z6 z7 z8; omega) _ hm hu)
      have HN := Lib.hid (And.intro hma hz)
      have HM2 := Lib.hid (fun (h : vlN s m < c) j (hj : j < m + 1) => Int.lt_of_le_of_lt (HMo.out j m (by clear z1 z2 z3 z4 z5 z6 z7 z8; omega) (by clear z1 z2 z3 z4 z5 z6 z7 z8; omega)) h)
      have hm3 : m ≤ 1000000 := by clear z1 z2 z3 z4 z5 z6 z7 z8; omega
      clear hlo hhi hm hu hma haz hz
      by_cases hf : c ≤ vlN s m
      · rw [decide_eq_true hf] at HQm
        have Hf := Lib.hid hf
        clear hf
        go_wp2_with fail
        refine HQm.out.mono ?_
        rintro e w2 ⟨rfl, m2, u2⟩
        have M2 := Lib.hid m2; have U2 := Lib.hid (HU.out.trans u2 (fun _ _ h => h))
        clear m2 u2
        go_wp2_with fail
        go_roundw
        case rel => exact ⟨a, m, rfl, rfl, HN.out.1.1, by have := HN.out; clear z1 z2 z3 z4 z5 z6 z7 z8; omega, HLo.out, fun _ => Hf.out, M2.out, U2.out⟩
        case measure => have := HN.out; clear z1 z2 z3 z4 z5 z6 z7 z8; simp [intOf]; omega
      · rw [decide_eq_false hf] at HQm
        have Hf := Lib.hid (show vlN s m < c from Int.not_le.1 hf)
        clear hf
        go_wp2_with fail
        refine HQm.out.mono ?_
        rintro e w2 ⟨rfl, m2, u2⟩
        have M2 := Lib.hid m2; have U2 := Lib.hid (HU.out.trans u2 (fun _ _ h => h))
        clear m2 u2
        go_wp2_with fail
        go_roundw
        case rel => exact ⟨m + 1, z, by go_num, rfl, HN.out.1.2, HN.out.2, HM2.out Hf.out, HHi.out, M2.out, U2.out⟩
        case measure => have := HN.out; clear z1 z2 z3 z4 z5 z6 z7 z8; simp [intOf]; omega
    · obtain rfl : a = z := by omega
      have HR := Lib.hid (HF.out a hz HLo.out HHi.out)
      clear hlo hhi hm hu hlt haz
      go_wp2_with fail
      go_ret
      exact ⟨by rw [HR.out]; rfl, HMm.out, HU.out⟩
end Go.Proofs.Yteioaeceobgbdaa
