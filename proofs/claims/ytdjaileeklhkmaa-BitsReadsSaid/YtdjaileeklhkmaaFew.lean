/- lists of calls -/
import Derived.Test.YtdjaileeklhkmaaOpr
namespace Go.Proofs.Ytdjaileeklhkmaa
open Go.RowKit Go.Shelf

/-- A list of calls that came in. -/
def Ops (w : World) (sv : Value) (xs : List OpD) : Prop :=
  ∃ a cap, sv = .slice a xs.length cap ∧ xs.length ≤ cap ∧ cap ≤ maxLen ∧ (xs = [] ∨ ∃ b off, a = some ⟨b, off, none⟩ ∧ ∀ j x, xs[j]? = some x →
    w.cell? ⟨b, off + j * 4, none⟩ = some (.int .u8 x.k) ∧ w.cell? ⟨b, off + j * 4 + 1, none⟩ = some (.int .i64 x.v) ∧ w.cell? ⟨b, off + j * 4 + 2, none⟩ = some (.int .i64 x.n) ∧ w.cell? ⟨b, off + j * 4 + 3, none⟩ = some x.sv ∧ x.at w)
theorem OpD.at.upd {x : OpD} {w w' : World} (h : x.at w) (u : Upd NoB w w') : x.at w' := ⟨h.1, bytes_later h.2.1 u, h.2.2⟩
theorem Ops.upd {w w' : World} {sv : Value} {xs : List OpD} (h : Ops w sv xs) (u : Upd NoB w w') : Ops w' sv xs := by
  obtain ⟨a, cap, rfl, h1, h2, h3⟩ := h
  refine ⟨a, cap, rfl, h1, h2, ?_⟩
  rcases h3 with h3 | ⟨b, off, rfl, h3⟩
  · exact .inl h3
  · refine .inr ⟨b, off, rfl, fun j x hx => ?_⟩
    obtain ⟨c0, c1, c2, c3, hx⟩ := h3 j x hx
    exact ⟨u.cell c0 (noB _), u.cell c1 (noB _), u.cell c2 (noB _), u.cell c3 (noB _), hx.upd u⟩
def sumZ (xs : List OpD) : Nat := (xs.map fun x => x.zs.length).sum
def fewB (xs : List OpD) : Bool := decide (sumZ xs ≤ 140000 ∧ xs.length ≤ 60)
theorem sumZ_take (xs : List OpD) (k : Nat) (x : OpD) (h : xs[k]? = some x) : sumZ (xs.take (k + 1)) = sumZ (xs.take k) + x.zs.length := by
  have : xs.take (k + 1) = xs.take k ++ [x] := by rw [List.take_add_one, h]; rfl
  simp [sumZ, this]
theorem sumZ_le (xs : List OpD) (k : Nat) : sumZ (xs.take k) ≤ sumZ xs := by
  have e : sumZ xs = sumZ (xs.take k) + sumZ (xs.drop k) := by
    unfold sumZ
    rw [← List.sum_append, ← List.map_append, List.take_append_drop]
  omega

set_option maxRecDepth 100000 in
set_option maxHeartbeats 1000000 in
theorem few_any (sv : Value) (xs : List OpD) (w : World) (h : Ops w sv xs) :
    Calls Try.prog 11 #[sv] w fun e w' => e = .returned (.bool (fewB xs)) ∧ Upd NoB w w' := by
  obtain ⟨a, cap, rfl, h1, h2, _⟩ := id h
  unfold maxLen at h2
  have H := Lib.hid h; clear h
  obtain ⟨L, hL⟩ : ∃ L, L = xs.length := ⟨_, rfl⟩
  rw [← hL] at h1 ⊢
  have HL := Lib.hid hL; clear hL
  go_enter Try.func11, Try.ntmps11
  go_wp2_with fail
  go_loopw [3, 8] (fun s i wr => ∃ k : Nat, k ≤ L ∧ s = .int .i64 (sumZ (xs.take k) : Nat) ∧ i = .int .i64 k ∧ sumZ (xs.take k) ≤ 140000 ∧ Upd NoB w wr) (fun _ i _ => L - (intOf i).toNat)
  case atStart => exact ⟨0, Nat.zero_le _, rfl, rfl, Nat.zero_le _, Upd.refl _ _⟩
  case round =>
    obtain ⟨k, hk, rfl, rfl, hs, hu⟩ := hrel
    have HU := Lib.hid hu; clear hu
    by_cases hlt : k < L
    · obtain ⟨x, hx⟩ : ∃ x, xs[k]? = some x := ⟨_, List.getElem?_eq_getElem (by rw [← HL.out]; exact hlt)⟩
      have hops := H.out.upd HU.out
      obtain ⟨a', cap', e, _, _, h3⟩ := hops
      cases e
      rcases h3 with h3 | ⟨b, off, rfl, h3⟩
      · subst h3; simp at hx
      · obtain ⟨c0, c1, c2, c3, hx1, hx2, hx3⟩ := h3 k x hx
        have hz : (x.zs.length : Int) ≤ 140737488355328 := by omega
        obtain ⟨_, sa, sc, hsv, _⟩ := hx2
        rw [hsv] at c3
        have hsum := sumZ_take xs k x hx
        have hle := sumZ_le xs (k + 1)
        generalize x.zs.length = zl at *
        have Hsv := Lib.hid hsv; clear hsv
        have Hx := Lib.hid hx; clear hx
        have Hsum := Lib.hid hsum; clear hsum
        have Hle := Lib.hid hle; clear hle
        obtain ⟨s0, hs0⟩ : ∃ s0, s0 = sumZ (xs.take k) := ⟨_, rfl⟩
        have Hs0 := Lib.hid hs0
        rw [← hs0] at hs ⊢
        clear hs0
        by_cases hgt : s0 + zl ≤ 140000
        · have t1 : decide ((140000 : Int) < (s0 : Int) + (zl : Int)) = false := decide_eq_false (by omega)
          go_wp2_with fail
          go_roundw
          case rel =>
            refine ⟨k + 1, by omega, ?_, by go_num, ?_, HU.out.alloc _⟩
            · have := Hsum.out; have := Hs0.out; congr 1; omega
            · have := Hsum.out; have := Hs0.out; omega
          case measure => simp [intOf]; omega
        · have t1 : decide ((140000 : Int) < (s0 : Int) + (zl : Int)) = true := decide_eq_true (by omega)
          have hf : fewB xs = false := decide_eq_false (fun h => by have := Hsum.out; have := Hs0.out; have := Hle.out; omega)
          have Hf := Lib.hid hf; clear hf
          go_wp2_with fail
          go_ret
          exact ⟨by rw [Hf.out]; rfl, HU.out.alloc _⟩
    · obtain rfl : k = L := by omega
      have hall : sumZ xs ≤ 140000 := by have := HL.out; subst this; simpa using hs
      by_cases h60 : k ≤ 60
      · have t1 : decide ((k : Int) ≤ 60) = true := decide_eq_true (by omega)
        have hf : fewB xs = true := decide_eq_true ⟨hall, by rw [← HL.out]; exact h60⟩
        have Hf := Lib.hid hf; clear hf
        go_wp2_with fail
        go_ret
        exact ⟨by rw [Hf.out]; rfl, HU.out⟩
      · have t1 : decide ((k : Int) ≤ 60) = false := decide_eq_false (by omega)
        have hf : fewB xs = false := decide_eq_false (fun h => h60 (by rw [HL.out]; exact h.2))
        have Hf := Lib.hid hf; clear hf
        go_wp2_with fail
        go_ret
        exact ⟨by rw [Hf.out]; rfl, HU.out⟩
end Go.Proofs.Ytdjaileeklhkmaa
