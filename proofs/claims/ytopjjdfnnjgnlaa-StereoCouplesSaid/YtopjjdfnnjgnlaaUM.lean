/- stereo: two rows of a call's own, each in its box, that grow by one in one statement -/
import Derived.Test.YtopjjdfnnjgnlaaUL
namespace Go.Proofs.Ytopjjdfnnjgnlaa
open Go.RowKit Go.Shelf

/-- two rows in their boxes -/
structure TwoB (W : World) (R g4 g5 n : Nat) (xs ys : List Int) (va vb : Value) (Z : World) : Prop where
  ha : Z.heap[g4]? = some (.cells #[va] 22 (0, 0))
  hb : Z.heap[g5]? = some (.cells #[vb] 22 (0, 0))
  ra : Z.ownsRow R 3 1 va n (i64s xs)
  rb : Z.ownsRow R 3 1 vb n (i64s ys)
  d : ∀ j, va.ownBlock = some j → vb.ownBlock = some j → False
  u : Upd (fun j => j = g4 ∨ j = g5) W Z
theorem TwoB.later {W : World} {R g4 g5 n : Nat} {xs ys : List Int} {va vb : Value} {Z Z' : World} (h : TwoB W R g4 g5 n xs ys va vb Z) (u : Upd NoB Z Z') : TwoB W R g4 g5 n xs ys va vb Z' :=
  ⟨u.heap h.ha (noB _), u.heap h.hb (noB _), u.row h.ra (fun j _ => noB j), u.row h.rb (fun j _ => noB j), h.d, h.u.then u⟩
/-- a change of a block that is none of theirs -/
theorem TwoB.other {W : World} {R g4 g5 n : Nat} {xs ys : List Int} {va vb : Value} {Z Z' : World} (h : TwoB W R g4 g5 n xs ys va vb Z) {q : Nat} (u : Upd (fun j => j = q) Z Z') (h4 : q ≠ g4) (h5 : q ≠ g5) (hW : W.heap.size ≤ q)
    (hr : ∀ j, va.ownBlock = some j ∨ vb.ownBlock = some j → j ≠ q) : TwoB W R g4 g5 n xs ys va vb Z' :=
  ⟨u.heap h.ha (fun e => h4 e.symm), u.heap h.hb (fun e => h5 e.symm), u.row h.ra (fun j hj => hr j (.inl hj)), u.row h.rb (fun j hj => hr j (.inr hj)), h.d, h.u.trans u (fun i hi e => absurd hi (by have e : i = q := e; omega))⟩
theorem row_notcells {w : World} {base n : Nat} {v : Value} {xs : List Value} (h : w.ownsRow base 3 1 v n xs) {j : Nat} (hj : v.ownBlock = some j) : ∃ c f, w.heap[j]? = some (.cells c 3 f) := by
  rcases h.2 with ⟨h, _⟩ | ⟨g, cap, cur, h, _, hg, _⟩
  · rw [h] at hj; simp [Value.ownBlock] at hj
  · rw [h] at hj
    have : g = j := by simpa [Value.ownBlock] using hj
    subst this
    exact ⟨_, _, hg⟩
/-- behind the first append -/
theorem two_first {W wr Z1 w6 : World} {R g4 g5 n g6 c6 : Nat} {xs ys : List Int} {va vb : Value} (hR : W.heap.size ≤ R) (h4 : g4 < W.heap.size) (h5 : g5 < W.heap.size) (h : TwoB W R g4 g5 n xs ys va vb wr) (u1 : Upd NoB wr Z1)
    (hg : Z1.grownBy w6 va.ownBlock) (hat : va.ownBlock = some g6 ∨ g6 = Z1.heap.size) :
    Upd (fun j => va.ownBlock = some j) wr w6 ∧ w6.ownsRow R 3 1 vb n (i64s ys) ∧ w6.heap[g4]? = some (.cells #[va] 22 (0, 0)) ∧ w6.heap[g5]? = some (.cells #[vb] 22 (0, 0)) ∧ (∀ j, (Value.slice (some ⟨g6, 0, none⟩) (n + 1) c6).ownBlock = some j → vb.ownBlock = some j → False) := by
  have u6 : Upd (fun j => va.ownBlock = some j) wr w6 := (u1.mono (T := fun j => va.ownBlock = some j) (fun _ _ h => h.elim)).grown hg (fun j e _ => e)
  refine ⟨u6, u6.row h.rb (fun j hj e => h.d j e hj), u6.heap h.ha (fun e => by have := (h.ra.lt _ e).1; omega), u6.heap h.hb (fun e => by have := (h.ra.lt _ e).1; omega), fun j hj hyj => ?_⟩
  have e : g6 = j := by simpa [Value.ownBlock] using hj
  subst e
  rcases hat with h1 | h1
  · exact h.d _ h1 hyj
  · have h2 := (h.rb.lt _ hyj).2
    have h3 := u1.size
    omega
theorem KeepsFrom.of_two {B : Nat} {w w' : World} {S : Nat → Prop} (u : Upd S w w') (hs : ∀ k, S k → ∃ c t f, w.heap[k]? = some (.cells c t f)) : KeepsFrom B w w' :=
  ⟨u.size, fun k o _ hk ho => u.heap hk (fun hS => by
    obtain ⟨c, t, f, hc⟩ := hs k hS
    rw [hc] at hk; cases hk; cases ho)⟩
/-- behind both appends and both stores -/
theorem two_end {W wr Z1 w6 Z2 w9 : World} {R g4 g5 n g6 c6 g8 c8 : Nat} {xs ys : List Int} {x y : Int} {va vb : Value} (hR : W.heap.size ≤ R) (h4 : g4 < W.heap.size) (h5 : g5 < W.heap.size) (hne : g4 ≠ g5) (h : TwoB W R g4 g5 n xs ys va vb wr) (u1 : Upd NoB wr Z1)
    (hown : w6.ownsRow R 3 1 (.slice (some ⟨g6, 0, none⟩) (n + 1) c6) (n + 1) (i64s xs ++ [.int .i64 x])) (hg : Z1.grownBy w6 va.ownBlock) (hat : va.ownBlock = some g6 ∨ g6 = Z1.heap.size) (u2 : Upd NoB w6 Z2)
    (hown2 : w9.ownsRow R 3 1 (.slice (some ⟨g8, 0, none⟩) (n + 1) c8) (n + 1) (i64s ys ++ [.int .i64 y])) (hg2 : Z2.grownBy w9 vb.ownBlock) (hat2 : vb.ownBlock = some g8 ∨ g8 = Z2.heap.size) :
    (w9.heap[g4]? = some (.cells #[va] 22 (0, 0)) ∧ w9.heap[g5]? = some (.cells #[vb] 22 (0, 0))) ∧
    TwoB W R g4 g5 (n + 1) (xs ++ [x]) (ys ++ [y]) (.slice (some ⟨g6, 0, none⟩) (n + 1) c6) (.slice (some ⟨g8, 0, none⟩) (n + 1) c8) ((w9.setCell ⟨g4, 0, none⟩ (.slice (some ⟨g6, 0, none⟩) (n + 1) c6)).setCell ⟨g5, 0, none⟩ (.slice (some ⟨g8, 0, none⟩) (n + 1) c8)) ∧
    Upd (fun j => va.ownBlock = some j ∨ vb.ownBlock = some j) wr w9 ∧
    Upd (fun j => (va.ownBlock = some j ∨ vb.ownBlock = some j) ∨ j = g4 ∨ j = g5) wr ((w9.setCell ⟨g4, 0, none⟩ (.slice (some ⟨g6, 0, none⟩) (n + 1) c6)).setCell ⟨g5, 0, none⟩ (.slice (some ⟨g8, 0, none⟩) (n + 1) c8)) := by
  have u6 : Upd (fun j => va.ownBlock = some j) wr w6 := (u1.mono (T := fun j => va.ownBlock = some j) (fun _ _ h => h.elim)).grown hg (fun j e _ => e)
  have hd6 : ∀ j, (Value.slice (some ⟨g6, 0, none⟩) (n + 1) c6).ownBlock = some j → vb.ownBlock = some j → False := fun j hj hyj => by
    have e : g6 = j := by simpa [Value.ownBlock] using hj
    subst e
    rcases hat with h1 | h1
    · exact h.d _ h1 hyj
    · have h2 := (h.rb.lt _ hyj).2
      have h3 := u1.size
      omega
  have u9 : Upd (fun j => va.ownBlock = some j ∨ vb.ownBlock = some j) wr w9 := ((u6.then u2).mono (T := fun j => va.ownBlock = some j ∨ vb.ownBlock = some j) (fun _ _ h => .inl h)).grown hg2 (fun j e _ => .inr e)
  have hra9 : w9.ownsRow R 3 1 (.slice (some ⟨g6, 0, none⟩) (n + 1) c6) (n + 1) (i64s xs ++ [.int .i64 x]) := by
    have u69 : Upd (fun j => vb.ownBlock = some j) w6 w9 := (u2.mono (T := fun j => vb.ownBlock = some j) (fun _ _ h => h.elim)).grown hg2 (fun j e _ => e)
    exact u69.row hown (fun j hj e => hd6 j hj e)
  have e4 : w9.heap[g4]? = some (.cells #[va] 22 (0, 0)) := u9.heap h.ha (fun e => by
    rcases e with e | e
    · have := (h.ra.lt _ e).1; omega
    · have := (h.rb.lt _ e).1; omega)
  have e5 : w9.heap[g5]? = some (.cells #[vb] 22 (0, 0)) := u9.heap h.hb (fun e => by
    rcases e with e | e
    · have := (h.ra.lt _ e).1; omega
    · have := (h.rb.lt _ e).1; omega)
  have us : Upd (fun j => j = g4 ∨ j = g5) w9 ((w9.setCell ⟨g4, 0, none⟩ (.slice (some ⟨g6, 0, none⟩) (n + 1) c6)).setCell ⟨g5, 0, none⟩ (.slice (some ⟨g8, 0, none⟩) (n + 1) c8)) := ((Upd.refl (fun j => j = g4 ∨ j = g5) w9).setCell (p := ⟨g4, 0, none⟩) _ (fun _ => .inl rfl)).setCell (p := ⟨g5, 0, none⟩) _ (fun _ => .inr rfl)
  refine ⟨⟨e4, e5⟩, ⟨block_keep (block_set e4 _) (by simp only; omega) _, block_set (block_keep e5 (by simp only; omega) _) _, ?_, ?_, fun j hj hk => ?_, ?_⟩, u9, (u9.mono (fun _ _ h => .inl h)).trans us (fun _ _ h => .inr h)⟩
  · rw [i64s_append]; exact us.row hra9 (fun j hj e => by have := (hra9.lt j hj).1; omega)
  · rw [i64s_append]; exact us.row hown2 (fun j hj e => by have := (hown2.lt j hj).1; omega)
  · have e : g8 = j := by simpa [Value.ownBlock] using hk
    subst e
    rcases hat2 with h1 | h1
    · exact hd6 _ hj h1
    · have h2 := (hown.lt _ hj).2
      have h3 := u2.size
      omega
  · exact (h.u.trans u9 (fun j hj e => absurd hj (by rcases e with e | e; have := (h.ra.lt _ e).1; omega; have := (h.rb.lt _ e).1; omega))).trans us (fun _ _ h => h)
end Go.Proofs.Ytopjjdfnnjgnlaa
