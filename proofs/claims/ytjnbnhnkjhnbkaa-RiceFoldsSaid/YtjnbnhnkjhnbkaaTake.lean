/- the reader's calls: Take, Open -/
import Derived.Test.YtjnbnhnkjhnbkaaGets3
import Derived.Deep.RegionHeld3
namespace Go.Proofs.Ytjnbnhnkjhnbkaa
open Go.RowKit Go.Shelf

theorem WAt.row8 {w : World} {b : Nat} {l : List Nat} {v : Value} (h : WAt w b l v) : Row8 w v (pack l) :=
  ⟨by rw [pack_length]; exact h.2.1, fun j => by
    simp only [List.getD_eq_getElem?_getD, pack_get]
    by_cases hj : j < (l.length + 7) / 8
    · rw [if_pos hj]; exact packByte_le h.2.2 j
    · rw [if_neg hj]; simp⟩
/-- What Take comes to. -/
def TRes (b : Nat) (sv : Value) (zs : List Nat) (cnt : Nat) (w : World) (out : List Nat) (err : Int) (at' : Nat) (e : Ending) (w' : World) : Prop :=
  ∃ v, e = .returned (.tuple #[v, .int .i64 err]) ∧ Row8 w' v out ∧ newB w v ∧ RAt w' b sv zs cnt at' ∧ Upd (fun k => k = b) w w'

theorem wpost_cell {b : Nat} {v0 : Value} {w w' : World} {l : List Nat} (h : WPost b v0 w l w') {p : Addr} {u : Value} (hc : w.cell? p = some u) (h1 : p.block ≠ b) (h2 : v0.ownBlock ≠ some p.block) : w'.cell? p = some u := by
  obtain ⟨v, _, hu, _⟩ := h
  exact hu.cell hc (fun h => h.elim h1 h2)
end Go.Proofs.Ytjnbnhnkjhnbkaa
