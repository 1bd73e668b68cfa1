/- stereo: told -/
import Derived.Test.YtopjjdfnnjgnlaaUF
import Derived.Test.YtopjjdfnnjgnlaaUG
import Derived.Test.YtopjjdfnnjgnlaaUH
import Derived.Deep.RegionHeldLaw
import Derived.Deep.QuietTactic
import Derived.BigQuiet
import Derived.StillTailTactics
namespace Go.Proofs.Ytopjjdfnnjgnlaa
open Go.RowKit Go.Shelf
attribute [local go_sem] Oper.semAt_some

theorem op_in {n l : Nat} {P : Program} {o : Oper} {a : Act} {w : World} {K K' : Act → World → Prop} {Q : Exit → Act → World → Prop} (hd : ∀ c, o.op ≠ .defer c) (hK : ∀ a w, K a w → K' a w)
    (h : o.wp P a w K Q) : o.wpIn (Fence.wide.inRound l) n P a w K' Q := by
  refine ⟨fun _ _ => trivial, ?_⟩
  rw [show o.semAt (Fence.wide.inRound l).round a.eval = execOp a.eval o from Oper.semAt_some l _ _ hd]
  unfold Oper.wp at h
  generalize (execOp a.eval o).run P w = r at h ⊢
  unfold Oper.upon at h
  unfold Oper.uponIn
  rcases r with ⟨x, w'⟩ | ⟨x, w'⟩
  · cases x <;> simp only at h ⊢
    all_goals first
      | exact hK _ _ h
      | exact h.elim
      | (refine ⟨(fun e => by cases e), fun c cs _ => ?_⟩
         obtain ⟨v, w', r, s⟩ := h c cs
         exact ⟨v, w', hK _ _ r, stepsIn_wide.2 s⟩)
      | (refine ⟨(fun e => by cases e), (callsIn_wide.2 (h.mono ?_)).inRound l⟩
         rintro (v | c | _) w'' q
         · exact hK _ _ q
         · exact q
         · exact q)
  · cases x <;> simp only at h ⊢ <;> first | exact h | exact h.elim
theorem any_in {n l : Nat} {P : Program} {ops : Array Oper} {Q : Exit → Act → World → Prop} (hd : ∀ o, o ∈ ops.toList → ∀ c, o.op ≠ .defer c) (hQ : ¬ LetsOut Q) :
    ∀ (fuel : Nat) (listed : Array Bool) (a : Act) (w : World), wpAny P .any ops Q fuel listed a w → wpAnyIn (Fence.wide.inRound l) n P .any ops Q fuel listed a w
  | 0, _, _, _, h => h
  | fuel + 1, listed, a, w, h => by
    refine ⟨h.1, fun i hi => ?_⟩
    have h2 := h.2 i hi
    unfold wpOp at h2
    unfold wpOpIn
    cases ho : ops[i]? with
    | none => rw [ho] at h2; exact any_in hd hQ fuel _ _ _ h2
    | some o =>
      rw [ho] at h2
      simp only at h2 ⊢
      by_cases hw : Region.wanted o (yielded ops a.tmps) = true
      · rw [if_pos hw] at h2 ⊢
        rcases h2 with h2 | h2
        · exact op_in (hd o (by have := Array.mem_of_getElem? ho; simpa using this)) (fun a w q => any_in hd hQ fuel _ a w q) h2
        · exact absurd h2.2 hQ
      · rw [if_neg hw] at h2 ⊢
        exact ⟨fun _ _ => trivial, any_in hd hQ fuel _ _ _ h2⟩
def noDefer (l : List Oper) : Bool := l.all fun o => match o.op with | .defer _ => false | _ => true
theorem noDefer_spec {l : List Oper} (h : noDefer l = true) : ∀ o, o ∈ l → ∀ c, o.op ≠ .defer c := by
  intro o ho c e
  have := List.all_eq_true.1 h o ho
  rw [e] at this
  cases this
/-- a region that draws, in a round, by a class of worlds -/
theorem region_held_in {id l₀ n₀ : Nat} {P : Program} {Q : Exit → Act → World → Prop} {a : Act} {w : World} {l : List Oper} (S : World → Prop) (hm : P.follows .mixedOrders = true) (hd : noDefer l = true) (hQ : ¬ LetsOut Q)
    (h : wpAnyH P .any l.toArray Q S l.toArray.size (Array.replicate l.toArray.size false) a w.drew) : (Code.region id l.toArray true).wpIn (Fence.wide.inRound l₀) n₀ P Q a w :=
  wpIn_region_any hm (any_in (noDefer_spec hd) hQ _ _ _ _ (wpAny_of_held _ _ _ _ h))
theorem run_slice_pr (w : World) (g n cap f t : Nat) (hf : f ≤ t) (ht : t ≤ cap) (hc : f < cap) :
    (Instr.slice 49 (.slice (some ⟨g, 0, none⟩) n cap) (some (.int .i64 (f : Int))) (some (.int .i64 (t : Int))) none).run Try.prog w = .ok (.slice (some ⟨g, f * 2, none⟩) (t - f) (cap - f)) w := by
  have h1 : (0 : Int) ≤ (t : Int) ∧ (t : Int) ≤ (cap : Int) := ⟨by omega, by omega⟩
  have h3 : (0 : Int) ≤ (f : Int) ∧ (f : Int) ≤ (t : Int) := ⟨by omega, by omega⟩
  have hne : ¬ cap = f := by omega
  have hsz : (sizeOf 66).run Try.prog w = .ok 2 w := by kernel_rfl
  have hu : (underlying 49).run Try.prog w = .ok (.slice 66) w := by kernel_rfl
  simp [Instr.slice, Instr.sliceBounds, Instr.sliceBound, asIntOf, Sem.run_bind, Result.andThen, hu, hsz, h1, h3, Int.toNat_natCast, hf, ht, hne, addr_add]
theorem PrsA.sub {w : World} {g n f x : Nat} {p : Nat → Int × Int} (h : PrsA w g 0 p n) (hf : f + x ≤ n) : PrsA w g (f * 2) (fun t => p (f + t)) x := fun t ht => by
  obtain ⟨h1, h2⟩ := h (f + t) (by omega)
  rw [show 0 + (f + t) * 2 = f * 2 + t * 2 by omega] at h1 h2
  exact ⟨h1, h2⟩
/-- one round's end: the row has grown by one, and lies in its box -/
theorem told_step {W V w4 w6 : World} {g5 k g6 c6 : Nat} {va : Option Addr} {vc : Nat} {xs : List Int} {q : Int} {sw : Value} {B R : Nat} (hR : W.heap.size ≤ R) (hu : Upd (fun j => j = g5) W V) (hG : g5 < W.heap.size) (hb : V.heap[g5]? = some (.cells #[.slice va k vc] 22 (0, 0)))
    (hrow : V.ownsRow R 3 1 (.slice va k vc) k (i64s xs)) (u4 : Upd NoB V w4) (hD : ∀ j, bandD B sw j → j < W.heap.size ∧ j ≠ g5)
    (hown : w6.ownsRow R 3 1 (.slice (some ⟨g6, 0, none⟩) (k + 1) c6) (k + 1) (i64s xs ++ [.int .i64 q])) (hg : (w4.alloc (.cells #[.int .i64 q] 3)).grownBy w6 (Value.slice va k vc).ownBlock) :
    (w6.heap[g5]? = some (.cells #[.slice va k vc] 22 (0, 0)) ∧ ∀ (b i : Nat) (u : Value), b < W.heap.size ∨ (Value.slice va k vc).ownBlock ≠ some b → V.cell? ⟨b, i, none⟩ = some u → w6.cell? ⟨b, i, none⟩ = some u) ∧
    KeepsFrom W.heap.size V (w6.setCell ⟨g5, 0, none⟩ (.slice (some ⟨g6, 0, none⟩) (k + 1) c6)) ∧
    ((KeepD (bandD B sw) V (w6.setCell ⟨g5, 0, none⟩ (.slice (some ⟨g6, 0, none⟩) (k + 1) c6)) ∧ V.heap.size ≤ (w6.setCell ⟨g5, 0, none⟩ (.slice (some ⟨g6, 0, none⟩) (k + 1) c6)).heap.size) ∧ Win (W.heap.size + 2) 0 V (w6.setCell ⟨g5, 0, none⟩ (.slice (some ⟨g6, 0, none⟩) (k + 1) c6))) ∧
    (∃ v, (w6.setCell ⟨g5, 0, none⟩ (.slice (some ⟨g6, 0, none⟩) (k + 1) c6)).heap[g5]? = some (.cells #[v] 22 (0, 0)) ∧ (w6.setCell ⟨g5, 0, none⟩ (.slice (some ⟨g6, 0, none⟩) (k + 1) c6)).ownsRow R 3 1 v (k + 1) (i64s (xs ++ [q]))) ∧
    Upd (fun j => j = g5) W (w6.setCell ⟨g5, 0, none⟩ (.slice (some ⟨g6, 0, none⟩) (k + 1) c6)) := by
  have hl := fun j e => (hrow.lt j e)
  have u5 : Upd NoB V (w4.alloc (.cells #[.int .i64 q] 3)) := u4.alloc _
  have uV6 : Upd (fun j => (Value.slice va k vc).ownBlock = some j) V w6 := (u5.mono (T := fun j => (Value.slice va k vc).ownBlock = some j) (fun _ _ h => h.elim)).grown hg (fun j e _ => e)
  have uV7 : Upd (fun j => (Value.slice va k vc).ownBlock = some j ∨ j = g5) V (w6.setCell ⟨g5, 0, none⟩ (.slice (some ⟨g6, 0, none⟩) (k + 1) c6)) := (uV6.mono (fun _ _ h => .inl h)).setCell _ (fun _ => .inr rfl)
  have uW6 : Upd (fun j => j = g5) W w6 := (hu.then u5).grown hg (fun j e hj => absurd hj (Nat.not_lt.2 (Nat.le_trans hR (hl j e).1)))
  have hsz := hu.size
  have hb6 : w6.heap[g5]? = some (.cells #[.slice va k vc] 22 (0, 0)) := uV6.heap hb (fun e => by have := (hl g5 e).1; omega)
  refine ⟨⟨hb6, fun b i u hbi hc => uV6.cell hc (fun e => ?_)⟩, ⟨uV7.size, fun j o hB hj ho => uV7.heap hj (fun e => ?_)⟩, ⟨⟨fun j hj => uV7.block j (by have := (hD j hj).1; omega) (fun e => ?_), uV7.size⟩, fun j h1 h2 => by omega⟩, ⟨_, block_set hb6 _, ?_⟩, uW6.setCell _ (fun _ => rfl)⟩
  · rcases hbi with h | h
    · have := (hl _ e).1
      have e2 : b = (⟨b, i, none⟩ : Addr).block := rfl
      omega
    · exact h e
  · rcases e with e | e
    · rcases hrow.2 with ⟨h, _⟩ | ⟨g, cap, cur, h, _, hg', _⟩
      · rw [h] at e; simp [Value.ownBlock] at e
      · rw [h] at e
        have : g = j := by simpa [Value.ownBlock] using e
        subst this
        rw [hg'] at hj
        cases hj
        cases ho
    · subst e
      rw [hb] at hj
      cases hj
      cases ho
  · have hd := hD j hj
    rcases e with e | e
    · have := (hl j e).1; omega
    · exact hd.2 e
  · rw [i64s_append]
    exact ((Upd.refl (fun j => j = g5) w6).setCell (p := ⟨g5, 0, none⟩) _ (fun _ => rfl)).row hown (fun j hj e => by have := (hown.lt j hj).1; omega)
theorem srow_grown {w w' : World} {base : Nat} {e : TypeId} {size : Nat} {v : Value} {n : Nat} {xs : List Value} {row : Option Nat} (h : w.ownsRow base e size v n xs) (hg : w.grownBy w' row)
    (hr : ∀ r, row = some r → r < base ∨ ∃ o : Obj, w.heap[r]? = some o ∧ o.isCells = false) : w'.ownsRow base e size v n xs := by
  refine ⟨h.1, ?_⟩
  rcases h.2 with h' | ⟨g, cap, cur, hv, hb, hgg, rest⟩
  · exact .inl h'
  · refine .inr ⟨g, cap, cur, hv, hb, ?_, rest⟩
    refine (hg.block g (lt_of_block hgg) (fun e => ?_)).trans hgg
    rcases hr g e.symm with h | ⟨o, ho, hc⟩
    · omega
    · rw [hgg] at ho
      cases ho
      cases hc
end Go.Proofs.Ytopjjdfnnjgnlaa
