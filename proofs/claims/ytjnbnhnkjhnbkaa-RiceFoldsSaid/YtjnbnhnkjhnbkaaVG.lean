/- the reference's writer: Gamma, Align, Len, Bytes -/
import Derived.Test.YtjnbnhnkjhnbkaaVP
import Derived.Deep.AppendLies
import Derived.Deep.RegionHeld3
import Derived.Laws.OwnMore
namespace Go.Proofs.Ytjnbnhnkjhnbkaa
open Go.RowKit Go.Shelf

theorem upd_grown_new {w w1 w2 : World} {row : Option Nat} (u : Upd NoB w w1) (hg : w1.grownBy w2 row) (h : ∀ k, row = some k → w.heap.size ≤ k) : Upd NoB w w2 := u.grown hg (fun k hk hlt => by have := h k hk; omega)
/-- Two rows, one appended to the other, as bits. -/
theorem row8_of {w : World} {v : Value} {n m : Nat} {xs ys : List Nat} (h : w.ownsRow 0 5 1 v (n + m) (u8s xs ++ u8s ys)) (hn : xs.length = n) (hm : ys.length = m) (h1 : ∀ x ∈ xs, x ≤ 1) (h2 : ∀ y ∈ ys, y ≤ 1) : Row8 w v (xs ++ ys) := by
  refine ⟨?_, fun j => getD_255 (fun y hy => (List.mem_append.1 hy).elim (h1 y) (h2 y)) j⟩
  rw [List.length_append, hn, hm, u8s_append]; exact h
theorem row8_later {w w' : World} {v : Value} {zs : List Nat} (h : Row8 w v zs) (u : Upd NoB w w') : Row8 w' v zs := ⟨u.row h.1 (fun k _ => noB k), h.2⟩
theorem row8_cells {w : World} {g n c : Nat} {bs : List Nat} (h : Row8 w (.slice (some ⟨g, 0, none⟩) n c) bs) : ∀ j u, (u8s bs)[j]? = some u → w.cell? ((⟨g, 0, none⟩ : Addr).add j) = some u := by
  obtain ⟨a, c', e⟩ := row8_slice h
  injection e with e1 e2 e3
  subst e2
  intro j u hu
  have hj : j < bs.length := by
    rw [u8s_get] at hu
    by_cases hj : j < bs.length
    · exact hj
    · rw [if_neg hj] at hu; cases hu
  rw [addr_add, Nat.zero_add, h.1.cellAt j (by omega), hu]
end Go.Proofs.Ytjnbnhnkjhnbkaa
