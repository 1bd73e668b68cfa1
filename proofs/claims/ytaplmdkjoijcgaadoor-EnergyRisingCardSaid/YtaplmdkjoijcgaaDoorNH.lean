/- bands: has, Range -/
import Derived.Test.YtaplmdkjoijcgaaDoorNG
import Derived.Deep.QuietTactic
import Derived.BigQuiet
namespace Go.Proofs.YtaplmdkjoijcgaaDoor
open Go.RowKit Go.Shelf

theorem spC_length (ws : List Int) : ∀ k : Nat, (spC ws k).length = 2 * k
  | 0 => by simp [spC]
  | k + 1 => by rw [spC_succ, List.length_append, spC_length ws k]; simp; omega
theorem spC_get {ws : List Int} {j : Nat} : ∀ {k : Nat}, j < k → (spC ws k)[2 * j]? = some (Value.int .i64 (spT ws j)) ∧ (spC ws k)[2 * j + 1]? = some (Value.int .i64 (spT ws (j + 1)))
  | 0, h => by omega
  | k + 1, h => by
    rw [spC_succ]
    have hl := spC_length ws k
    by_cases e : j = k
    · subst e
      refine ⟨?_, ?_⟩
      · rw [List.getElem?_append_right (by omega), hl, Nat.sub_self]; rfl
      · rw [List.getElem?_append_right (by omega), hl, show 2 * j + 1 - 2 * j = 1 by omega]; rfl
    · have ih := spC_get (ws := ws) (show j < k by omega)
      exact ⟨by rw [List.getElem?_append_left (by omega)]; exact ih.1, by rw [List.getElem?_append_left (by omega)]; exact ih.2⟩
theorem dW_bd2 (s : Bool) : ∀ x ∈ dW s, 0 ≤ x ∧ x ≤ 25 := by
  cases s
  · decide
  · decide
theorem bands_bd {s : Bool} {gs : List Int} (h : isD s gs = true) : ∀ x ∈ bandsL s gs, 0 ≤ x ∧ x ≤ 200 := by
  intro x hx
  unfold bandsL bwL at hx
  rw [List.mem_flatMap] at hx
  obtain ⟨g, hg, hx⟩ := hx
  rw [List.mem_map] at hx
  obtain ⟨y, hy, rfl⟩ := hx
  obtain ⟨g0, g8⟩ := (dG_bd h).2 g hg
  obtain ⟨y0, y25⟩ := dW_bd2 s y hy
  exact ⟨Int.mul_nonneg g0 y0, Int.mul_le_mul g8 y25 y0 (by omega)⟩
theorem ctN_le {s : Bool} {gs : List Int} (h : isD s gs = true) : ctN s gs ≤ 120 := by
  have h1 := (dG_bd h).1
  have h2 := (dW_bd s).1
  exact Nat.mul_le_mul h1 h2
set_option maxRecDepth 100000 in
set_option maxHeartbeats 1000000 in
theorem has_any (v1 : Value) (aw ag : Option Addr) (n m cw cg : Nat) (b : Int) (w : World) (hn : n ≤ 1000) (hm : m ≤ 1000) :
    Calls Tryd.prog 62 #[.agg #[v1, .slice aw n cw, .slice ag m cg], .int .i64 b] w fun e w' => e = .returned (.bool (decide (0 ≤ b ∧ b < (m : Int) * (n : Int)))) ∧ Upd NoB w w' := by
  by_cases h0 : 0 ≤ b
  · have t1 : decide ((0 : Int) ≤ b) = true := decide_eq_true h0
    have HD := Lib.hid (show decide (0 ≤ b ∧ b < (m : Int) * (n : Int)) = decide (b < (m : Int) * (n : Int)) by simp [h0])
    rw [HD.out]
    have HC := Lib.hid (fun w' => count_any v1 aw ag n m cw cg w' hn hm)
    generalize (m : Int) * (n : Int) = q at *
    clear h0
    go_enter Tryd.func62, Tryd.ntmps62
    go_wp2_with fail
    refine (HC.out _).mono ?_
    rintro e w2 ⟨rfl, u2⟩
    have U2 := Lib.hid (((Upd.refl NoB w).alloc _).then u2)
    clear u2
    go_wp2_with fail
    go_ret
    exact ⟨rfl, U2.out⟩
  · have t1 : decide ((0 : Int) ≤ b) = false := decide_eq_false h0
    have HD := Lib.hid (show decide (0 ≤ b ∧ b < (m : Int) * (n : Int)) = false from decide_eq_false (fun h => h0 h.1))
    rw [HD.out]
    clear h0
    go_enter Tryd.func62, Tryd.ntmps62
    go_wp2_with fail
    go_ret
    exact ⟨rfl, (Upd.refl _ _).alloc _⟩
end Go.Proofs.YtaplmdkjoijcgaaDoor
