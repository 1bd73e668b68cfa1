/- bands: divisions in mathematics -/
import Derived.Test.YtaplmdkjoijcgaaDoorInt
namespace Go.Proofs.YtaplmdkjoijcgaaDoor
open Go.RowKit Go.Shelf

/-- the widths of the bands of a long frame, and of a short block -/
def lwL : List Int := [4, 4, 4, 4, 4, 4, 4, 8, 8, 8, 12, 12, 16, 16, 20]
def swL : List Int := [2, 2, 4, 8]
/-- are these groups, where so many blocks are left? -/
def isG (l : Int) : List Int → Bool
  | [] => decide (l = 0)
  | b :: t => if b < 1 ∨ l < b then false else isG (l - b) t
theorem sum_ge : ∀ {gs : List Int}, (∀ b ∈ gs, 1 ≤ b) → (gs.length : Int) ≤ gs.sum
  | [], _ => by simp
  | b :: t, h => by
    have ih := sum_ge (gs := t) (fun x hx => h x (List.mem_cons_of_mem _ hx))
    have := h b (List.mem_cons_self ..)
    rw [List.length_cons, List.sum_cons]; omega
theorem isG_iff : ∀ {gs : List Int} {l : Int}, isG l gs = true ↔ (∀ b ∈ gs, 1 ≤ b) ∧ gs.sum = l
  | [], l => by simp [isG]; omega
  | b :: t, l => by
    unfold isG
    by_cases h : b < 1 ∨ l < b
    · rw [if_pos h]
      constructor
      · intro e; cases e
      · rintro ⟨h1, h2⟩
        have hb := h1 b (List.mem_cons_self ..)
        have hs := sum_ge (gs := t) (fun x hx => h1 x (List.mem_cons_of_mem _ hx))
        rw [List.sum_cons] at h2
        omega
    · rw [if_neg h, isG_iff]
      constructor
      · rintro ⟨h1, h2⟩
        refine ⟨fun x hx => ?_, by rw [List.sum_cons]; omega⟩
        rcases List.mem_cons.1 hx with rfl | hx
        · omega
        · exact h1 x hx
      · rintro ⟨h1, h2⟩
        rw [List.sum_cons] at h2
        exact ⟨fun x hx => h1 x (List.mem_cons_of_mem _ hx), by omega⟩
theorem sum_mem_le : ∀ {gs : List Int}, (∀ b ∈ gs, 1 ≤ b) → ∀ x ∈ gs, x ≤ gs.sum
  | [], _, x, hx => by cases hx
  | b :: t, h, x, hx => by
    have ht : ∀ y ∈ t, 1 ≤ y := fun y hy => h y (List.mem_cons_of_mem _ hy)
    have hs := sum_ge ht
    have hb := h b (List.mem_cons_self ..)
    rw [List.sum_cons]
    rcases List.mem_cons.1 hx with rfl | hx
    · omega
    · have := sum_mem_le ht x hx; omega
theorem isG_bd {gs : List Int} (h : isG 8 gs = true) : gs.length ≤ 8 ∧ ∀ b ∈ gs, 1 ≤ b ∧ b ≤ 8 := by
  obtain ⟨h1, h2⟩ := isG_iff.1 h
  have h3 := sum_ge h1
  exact ⟨by omega, fun b hb => ⟨h1 b hb, by have := sum_mem_le h1 b hb; omega⟩⟩
/-- what is left after the first k groups -/
theorem isG_take {gs : List Int} {l : Int} {k : Nat} (h : isG l gs = true) : isG (l - (gs.take k).sum) (gs.drop k) = true := by
  obtain ⟨h1, h2⟩ := isG_iff.1 h
  refine isG_iff.2 ⟨fun b hb => h1 b (List.mem_of_mem_drop hb), ?_⟩
  have : gs.sum = (gs.take k).sum + (gs.drop k).sum := by rw [← List.sum_append, List.take_append_drop]
  omega
def isD (s : Bool) (gs : List Int) : Bool := if s then isG 8 gs else gs.isEmpty
/-- the widths of all bands -/
def bwL (ws gs : List Int) : List Int := gs.flatMap fun n => ws.map fun w => n * w
def dW (s : Bool) : List Int := if s then swL else lwL
def dG (s : Bool) (gs : List Int) : List Int := if s then gs else [1]
def bandsL (s : Bool) (gs : List Int) : List Int := bwL (dW s) (dG s gs)
theorem bandsL_long (gs : List Int) : bandsL false gs = lwL := by unfold bandsL bwL dW dG; rfl
/-- where parts with these widths are -/
def spT (ws : List Int) (k : Nat) : Int := (ws.take k).sum
theorem spT_succ {ws : List Int} {k : Nat} {x : Int} (h : ws[k]? = some x) : spT ws (k + 1) = spT ws k + x := by
  unfold spT; rw [List.take_add_one, List.sum_append, h]; simp
end Go.Proofs.YtaplmdkjoijcgaaDoor
