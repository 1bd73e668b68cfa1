/- energy: lists of flags and of small numbers in memory -/
import Derived.Test.YtgdndcbcdoogpaaDoorOX
namespace Go.Proofs.YtgdndcbcdoogpaaDoor
open Go.RowKit Go.Shelf

/-- The slice v holds the flags fs. -/
def Bls (w : World) (v : Value) (fs : List Bool) : Prop :=
  fs.length ≤ 140737488355328 ∧ ∃ a cap, v = .slice a fs.length cap ∧ (fs.length ≤ cap ∧ (a = none → cap = 0)) ∧ (fs = [] ∨ ∃ b off, a = some ⟨b, off, none⟩ ∧ ∀ j x, fs[j]? = some x → w.cell? ⟨b, off + j, none⟩ = some (.bool x))
theorem Bls.form {w : World} {v : Value} {fs : List Bool} (h : Bls w v fs) : ∃ a cap, v = .slice a fs.length cap := by obtain ⟨_, a, cap, e, _⟩ := h; exact ⟨a, cap, e⟩
theorem Bls.upd {w w' : World} {v : Value} {fs : List Bool} (h : Bls w v fs) {S : Nat → Prop} (u : Upd S w w') (hs : fs ≠ [] → ∀ k, v.ownBlock = some k → ¬ S k) : Bls w' v fs := by
  obtain ⟨hb, a, cap, rfl, hc, h3⟩ := h
  refine ⟨hb, a, cap, rfl, hc, ?_⟩
  rcases h3 with h3 | ⟨b, off, rfl, h3⟩
  · exact .inl h3
  · refine .inr ⟨b, off, rfl, fun j x hx => u.cell (h3 j x hx) (hs (by rintro rfl; simp at hx) b rfl)⟩
theorem Bls.later {w w' : World} {v : Value} {fs : List Bool} (h : Bls w v fs) (u : Upd NoB w w') : Bls w' v fs := h.upd u (fun _ k _ => noB k)
theorem Bls.cellAt {w : World} {a : Option Addr} {n cap : Nat} {fs : List Bool} (h : Bls w (.slice a n cap) fs) {k : Nat} {x : Bool} (hx : fs[k]? = some x) : ∃ b off, a = some ⟨b, off, none⟩ ∧ w.cell? ⟨b, off + k, none⟩ = some (.bool x) := by
  obtain ⟨_, a', cap', e, _, h3⟩ := h
  injection e with e1 e2 e3
  subst e1
  rcases h3 with h3 | ⟨b, off, rfl, h3⟩
  · subst h3; simp at hx
  · exact ⟨b, off, rfl, h3 k x hx⟩
theorem Bls.nil (w : World) : Bls w (.slice none 0 0) [] := ⟨Nat.zero_le _, none, 0, rfl, ⟨Nat.zero_le _, fun _ => rfl⟩, .inl rfl⟩
/-- The slice v holds the numbers xs of 16 bits. -/
def U16s (w : World) (v : Value) (xs : List Int) : Prop :=
  xs.length ≤ 70368744177664 ∧ ∃ a cap, v = .slice a xs.length cap ∧ (xs = [] ∨ ∃ b off, a = some ⟨b, off, none⟩ ∧ ∀ j x, xs[j]? = some x → (0 ≤ x ∧ x ≤ 65535) ∧ w.cell? ⟨b, off + j, none⟩ = some (.int .u16 x))
theorem U16s.form {w : World} {v : Value} {xs : List Int} (h : U16s w v xs) : ∃ a cap, v = .slice a xs.length cap := by obtain ⟨_, a, cap, e, _⟩ := h; exact ⟨a, cap, e⟩
theorem U16s.later {w w' : World} {v : Value} {xs : List Int} (h : U16s w v xs) (u : Upd NoB w w') : U16s w' v xs := by
  obtain ⟨hb, a, cap, rfl, h3⟩ := h
  refine ⟨hb, a, cap, rfl, ?_⟩
  rcases h3 with h3 | ⟨b, off, rfl, h3⟩
  · exact .inl h3
  · exact .inr ⟨b, off, rfl, fun j x hx => ⟨(h3 j x hx).1, u.cell (h3 j x hx).2 (noB _)⟩⟩
theorem U16s.cellAt {w : World} {a : Option Addr} {n cap : Nat} {xs : List Int} (h : U16s w (.slice a n cap) xs) {k : Nat} {x : Int} (hx : xs[k]? = some x) : (0 ≤ x ∧ x ≤ 65535) ∧ ∃ b off, a = some ⟨b, off, none⟩ ∧ w.cell? ⟨b, off + k, none⟩ = some (.int .u16 x) := by
  obtain ⟨_, a', cap', e, h3⟩ := h
  injection e with e1 e2 e3
  subst e1
  rcases h3 with h3 | ⟨b, off, rfl, h3⟩
  · subst h3; simp at hx
  · exact ⟨(h3 k x hx).1, b, off, rfl, (h3 k x hx).2⟩
theorem U16s.nil (w : World) : U16s w (.slice none 0 0) [] := ⟨Nat.zero_le _, none, 0, rfl, .inl rfl⟩
theorem OwnR.ints {w : World} {b cap : Nat} {xs : List Int} (h : OwnR w b cap xs) (hl : xs.length ≤ 1000000) : Ints w (.slice (some ⟨b, 0, none⟩) xs.length cap) xs := by
  obtain ⟨c, hc, ⟨h1, h2⟩, h3⟩ := h
  refine ⟨by omega, _, _, rfl, ⟨by omega, fun e => by cases e⟩, .inr ⟨b, 0, rfl, fun j x hx => ?_⟩⟩
  rw [blk_cell hc, Nat.zero_add]
  exact h3 j x hx
theorem OwnR.ofBlk {w : World} {b : Nat} {xs : List Int} (h : w.heap[b]? = some (.cells (i64s xs).toArray 3 (0, 0))) : OwnR w b xs.length xs :=
  ⟨_, h, ⟨by simp [i64s_length], by simp [i64s_length]⟩, fun k x hk => by rw [List.getElem?_toArray, i64s_get, hk]; rfl⟩
theorem getD_set (ys : List Int) (k : Nat) (x : Int) (hk : k < ys.length) (j : Nat) : (ys.set k x).getD j 0 = if k = j then x else ys.getD j 0 := by
  rw [List.getD_eq_getElem?_getD, List.getElem?_set]
  by_cases e : k = j
  · rw [if_pos e, if_pos e, if_pos hk]; rfl
  · rw [if_neg e, if_neg e, List.getD_eq_getElem?_getD]
end Go.Proofs.YtgdndcbcdoogpaaDoor
