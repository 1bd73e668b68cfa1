/- quant: the least scale that reaches a coefficient -/
import Derived.Test.YteioaeceobgbdaaQI
namespace Go.Proofs.Yteioaeceobgbdaa
open Go.RowKit Go.Shelf

def lsN (c : Int) : Nat := fsG (fun s => decide (c ≤ vlN s 1023)) 95 0
theorem lsN_is {c : Int} {r : Nat} (h1 : r ≤ 95) (h2 : ∀ j, j < r → vlN j 1023 < c) (h3 : r < 95 → c ≤ vlN r 1023) : lsN c = r :=
  fsG_is (Nat.zero_le _) (by omega) (fun j _ hj => decide_eq_false (by have := h2 j hj; omega)) (fun h => decide_eq_true (h3 (by omega)))
set_option maxRecDepth 100000 in
set_option maxHeartbeats 2000000 in
theorem least1_any (sc st : Int) (b q B1 B2 : Nat) (c : Int) (w : World) (h : Memo w b) (hq : q ≤ 95) (hc : w.heap[B1]? = some (.cells #[.int .i64 sc, .int .i64 st, .pointer (some ⟨b, 0, none⟩)] 57 (0, 0))) (hc2 : w.cell? ⟨B2, 0, none⟩ = some (.int .i64 c)) (_h2 : B2 ≠ b) :
    Calls Try.prog 65 #[.int .i64 (q : Int), .pointer (some ⟨B1, 0, none⟩), .pointer (some ⟨B2, 0, none⟩)] w fun e w' => e = .returned (.bool (decide (c ≤ vlN q 1023))) ∧ Memo w' b ∧ Upd (fun k => k = b) w w' := by
  have HWi := Lib.hid (fun sc st pa W => with_any sc st pa q W hq)
  have HR := Lib.hid (fun W (h : Memo W b) => reaches_any (q : Int) q b c W h hq)
  have HM := Lib.hid (h.later (Upd.refl NoB w).drew)
  obtain ⟨⟨d0, d1, d2⟩, _, _, _⟩ := cells3 hc
  have e0 : w.drew.cell? ⟨B1, 0, none⟩ = some (.int .i64 sc) := d0
  have e1 : w.drew.cell? ⟨B1, 1, none⟩ = some (.int .i64 st) := d1
  have e2 : w.drew.cell? ⟨B1, 2, none⟩ = some (.pointer (some ⟨b, 0, none⟩)) := d2
  have e3 : w.drew.cell? ⟨B2, 0, none⟩ = some (.int .i64 c) := hc2
  generalize stepN q = t at *
  generalize vlN q 1023 = v at *
  clear h hc hq d0 d1 d2
  go_enter Try.func65, Try.ntmps65
  go_wp2_with fail
  go_region_with (first
    | (go_at_call 66; (with_reducible refine (HWi.out _ _ _ _).mono ?_); rintro e w2 ⟨rfl, u2⟩; have M2 := Lib.hid (HM.out.later u2); have c2 := u2.cell e3 (noB _); have U2 := Lib.hid ((Upd.refl NoB w).drew.then u2); clear u2)
    | (go_at_call 67; (with_reducible refine (HR.out _ M2.out).mono ?_); rintro e w3 ⟨rfl, m3, u3⟩; have M3 := Lib.hid m3; have U3 := Lib.hid (show Upd (fun k => k = b) w w3 from (U2.out.mono (T := fun k => k = b) (fun _ _ h => h.elim)).trans u3 (fun _ _ h => h)); clear m3 u3))
  all_goals
    go_wp2_with fail
    go_ret
    exact ⟨rfl, M3.out, U3.out⟩
set_option maxRecDepth 100000 in
set_option maxHeartbeats 4000000 in
theorem leastS_any (sc st : Int) (b B1 B2 : Nat) (c : Int) (w : World) (h : Memo w b) (hc : w.heap[B1]? = some (.cells #[.int .i64 sc, .int .i64 st, .pointer (some ⟨b, 0, none⟩)] 57 (0, 0))) (hc2 : w.cell? ⟨B2, 0, none⟩ = some (.int .i64 c)) (h1 : B1 ≠ b) (h2 : B2 ≠ b) :
    Calls Try.prog 64 #[.int .i64 0, .int .i64 95, .func (.func 65) #[] #[.pointer (some ⟨B1, 0, none⟩), .pointer (some ⟨B2, 0, none⟩)]] w fun e w' => e = .returned (.int .i64 (lsN c : Nat)) ∧ Memo w' b ∧ Upd (fun k => k = b) w w' := by
  have HQ := Lib.hid (fun (q : Nat) (hq : q ≤ 95) W (h : Memo W b) (u : Upd (fun k => k = b) w W) => least1_any sc st b q B1 B2 c W h hq (u.heap hc h1) (u.cell hc2 h2) h2)
  have HF := Lib.hid (fun (r : Nat) a z x => lsN_is (c := c) (r := r) a z x)
  have HMo := Lib.hid (fun (i j : Nat) (h : i ≤ j) (hj : j ≤ 95) => vlN_up (q := 1023) h hj)
  have HM := Lib.hid h
  generalize lsN c = R at *
  clear h hc hc2
  go_enter Try.func64, Try.ntmps64
  go_wp2_with fail
  go_loopw [0, 1] (fun lo hi wr => ∃ a z : Nat, lo = .int .i64 (a : Int) ∧ hi = .int .i64 (z : Int) ∧ a ≤ z ∧ z ≤ 95 ∧ (∀ j, j < a → vlN j 1023 < c) ∧ (z < 95 → c ≤ vlN z 1023) ∧ Memo wr b ∧ Upd (fun k => k = b) w wr) (fun lo hi _ => (intOf hi).toNat - (intOf lo).toNat)
  case atStart => exact ⟨0, 95, rfl, rfl, by omega, by omega, fun j hj => by omega, fun h => by omega, HM.out, Upd.refl _ _⟩
  case round =>
    obtain ⟨a, z, rfl, rfl, haz, hz, hlo, hhi, hm, hu⟩ := hrel
    have HLo := Lib.hid hlo; have HHi := Lib.hid hhi; have HMm := Lib.hid hm; have HU := Lib.hid hu
    by_cases hlt : a < z
    · obtain ⟨D, H, m, hma, z1, z2, z3, z4, z5, z6, z7, z8⟩ := mid_facts hlt (by omega)
      have HQm := Lib.hid (HQ.out m (by clear z1 z2 z3 z4 z5 z6 z7 z8; omega) _ hm hu)
      have HN := Lib.hid (And.intro hma hz)
      have HM2 := Lib.hid (fun (h : vlN m 1023 < c) j (hj : j < m + 1) => Int.lt_of_le_of_lt (HMo.out j m (by clear z1 z2 z3 z4 z5 z6 z7 z8; omega) (by clear z1 z2 z3 z4 z5 z6 z7 z8; omega)) h)
      have hm3 : m ≤ 1000000 := by clear z1 z2 z3 z4 z5 z6 z7 z8; omega
      clear hlo hhi hm hu hma haz hz
      by_cases hf : c ≤ vlN m 1023
      · rw [decide_eq_true hf] at HQm
        have Hf := Lib.hid hf
        clear hf
        go_wp2_with fail
        refine HQm.out.mono ?_
        rintro e w2 ⟨rfl, m2, u2⟩
        have M2 := Lib.hid m2; have U2 := Lib.hid (HU.out.trans u2 (fun _ _ h => h))
        clear m2 u2
        go_wp2_with fail
        go_roundw
        case rel => exact ⟨a, m, rfl, rfl, HN.out.1.1, by have := HN.out; clear z1 z2 z3 z4 z5 z6 z7 z8; omega, HLo.out, fun _ => Hf.out, M2.out, U2.out⟩
        case measure => have := HN.out; clear z1 z2 z3 z4 z5 z6 z7 z8; simp [intOf]; omega
      · rw [decide_eq_false hf] at HQm
        have Hf := Lib.hid (show vlN m 1023 < c from Int.not_le.1 hf)
        clear hf
        go_wp2_with fail
        refine HQm.out.mono ?_
        rintro e w2 ⟨rfl, m2, u2⟩
        have M2 := Lib.hid m2; have U2 := Lib.hid (HU.out.trans u2 (fun _ _ h => h))
        clear m2 u2
        go_wp2_with fail
        go_roundw
        case rel => exact ⟨m + 1, z, by go_num, rfl, HN.out.1.2, HN.out.2, HM2.out Hf.out, HHi.out, M2.out, U2.out⟩
        case measure => have := HN.out; clear z1 z2 z3 z4 z5 z6 z7 z8; simp [intOf]; omega
    · obtain rfl : a = z := by omega
      have HR := Lib.hid (HF.out a hz HLo.out HHi.out)
      clear hlo hhi hm hu hlt haz
      go_wp2_with fail
      go_ret
      exact ⟨by rw [HR.out]; rfl, HMm.out, HU.out⟩
end Go.Proofs.Yteioaeceobgbdaa
