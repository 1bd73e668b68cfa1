/- regions that draw, within a round of a loop over a function; slices of lists -/
import Derived.Test.YteioaeceobgbdaaRQ
import Derived.Deep.QuietTactic
import Derived.BigQuiet
import Derived.StillTailTactics
namespace Go.Proofs.Yteioaeceobgbdaa
open Go.RowKit Go.Shelf
attribute [local go_sem] Oper.semAt_some

theorem keeps_of_upd {S : Nat → Prop} {W W' : World} {B : Nat} (h : Upd S W W') (hs : ∀ k, B ≤ k → ¬ S k) : KeepsFrom B W W' :=
  ⟨h.size, fun k _ hB hk _ => h.heap hk (hs k hB)⟩

theorem rows_in {n l : Nat} {P : Program} {row : String} {args : Array Value} {w : World} {R R' : Value → World → Prop} (h : Rows P row args w R) (hR : ∀ v w', R v w' → R' v w') :
    RowsIn (Fence.wide.inRound l) n P row args w R' := by
  intro c cs _
  obtain ⟨v, w', r, s⟩ := h c cs
  exact ⟨v, w', hR _ _ r, stepsIn_wide.2 s⟩
theorem op_in {n l : Nat} {P : Program} {o : Oper} {a : Act} {w : World} {K K' : Act → World → Prop} {Q : Exit → Act → World → Prop} (hd : ∀ c, o.op ≠ .defer c) (hK : ∀ a w, K a w → K' a w)
    (h : o.wp P a w K Q) : o.wpIn (Fence.wide.inRound l) n P a w K' Q := by
  refine ⟨fun _ _ => trivial, ?_⟩
  rw [show o.semAt (Fence.wide.inRound l).round a.eval = execOp a.eval o from Oper.semAt_some l _ _ hd]
  unfold Oper.wp at h
  generalize (execOp a.eval o).run P w = r at h ⊢
  unfold Oper.upon at h
  unfold Oper.uponIn
  rcases r with ⟨x, w'⟩ | ⟨x, w'⟩
  · cases x <;> simp only at h ⊢
    all_goals first
      | exact hK _ _ h
      | exact h.elim
      | exact ⟨(fun e => by cases e), rows_in h (fun _ _ => hK _ _)⟩
      | (refine ⟨(fun e => by cases e), (callsIn_wide.2 (h.mono ?_)).inRound l⟩
         rintro (v | c | _) w'' q
         · exact hK _ _ q
         · exact q
         · exact q)
  · cases x <;> simp only at h ⊢ <;> first | exact h | exact h.elim

theorem any_in {n l : Nat} {P : Program} {ops : Array Oper} {Q : Exit → Act → World → Prop} (hd : ∀ o, o ∈ ops.toList → ∀ c, o.op ≠ .defer c) (hQ : ¬ LetsOut Q) :
    ∀ (fuel : Nat) (listed : Array Bool) (a : Act) (w : World), wpAny P .any ops Q fuel listed a w → wpAnyIn (Fence.wide.inRound l) n P .any ops Q fuel listed a w
  | 0, _, _, _, h => h
  | fuel + 1, listed, a, w, h => by
    refine ⟨h.1, fun i hi => ?_⟩
    have h2 := h.2 i hi
    unfold wpOp at h2
    unfold wpOpIn
    cases ho : ops[i]? with
    | none => rw [ho] at h2; exact any_in hd hQ fuel _ _ _ h2
    | some o =>
      rw [ho] at h2
      simp only at h2 ⊢
      by_cases hw : Region.wanted o (yielded ops a.tmps) = true
      · rw [if_pos hw] at h2 ⊢
        rcases h2 with h2 | h2
        · exact op_in (hd o (by have := Array.mem_of_getElem? ho; simpa using this)) (fun a w q => any_in hd hQ fuel _ a w q) h2
        · exact absurd h2.2 hQ
      · rw [if_neg hw] at h2 ⊢
        exact ⟨fun _ _ => trivial, any_in hd hQ fuel _ _ _ h2⟩
def noDefer (l : List Oper) : Bool := l.all fun o => match o.op with | .defer _ => false | _ => true
theorem noDefer_spec {l : List Oper} (h : noDefer l = true) : ∀ o, o ∈ l → ∀ c, o.op ≠ .defer c := by
  intro o ho c e
  have := List.all_eq_true.1 h o ho
  rw [e] at this
  cases this
/-- reads and quiet calls, then a tail, in a round -/
theorem region_still_in {id l₀ n₀ : Nat} {P : Program} {Q : Exit → Act → World → Prop} {a : Act} {w : World} {l : List Oper} (n : Nat) (hm : P.follows .mixedOrders = true) (hB : Region.lexTailB .any l.toArray n = true)
    (hd : noDefer l = true) (hQ : ¬ LetsOut Q)
    (h : wpStill P l.toArray { w with drawn := w.drawn + 1 } (fun a' => wpList P l.toArray Q (l.drop n) a' { w with drawn := w.drawn + 1 }) (l.take n) a) : (Code.region id l.toArray true).wpIn (Fence.wide.inRound l₀) n₀ P Q a w := by
  refine wpIn_region_any hm (any_in (noDefer_spec hd) hQ _ _ _ _ ?_)
  simp only [Region.lexTailB, Bool.and_eq_true, decide_eq_true_eq] at hB
  have hn : n < l.length := by simpa using hB.1.1.1.2
  have ht : (l.take n).length = n := by simp; omega
  have hs : (l.drop n).length = l.toArray.size - n := by simp
  have head := wpAnyL_lex (md := .any) (g := l.toArray.size - n) hB.1.1.1.1 hB.1.1.2 hB.1.2 hB.1.1.1.2 (l.take n) 0 (Array.replicate l.toArray.size false) a
    (fun j hj => by rw [ht] at hj; simp [hj]) (by omega)
    ⟨by simp, (fun j oj _ hl => by rw [getD_replicate_false] at hl; cases hl), fun t _ hlt => getD_in (by simpa using hlt) (getD_replicate_false _ _)⟩ (by rw [ht]; exact hB.2) h
  have all := wpAny_of_head (Q' := Q) (g := l.toArray.size - n) (fun listed a' hL => by
    have t := wpAny_of_seq (md := .any) (Q' := Q) (l.drop n) n listed a' { w with drawn := w.drawn + 1 } (fun j => by simp [List.getElem?_drop]) (by rw [hs]; exact hL.1) hL.2
    rw [hs] at t; exact t) _ _ _ head
  rw [ht, show n + (l.toArray.size - n) = l.toArray.size by have : l.toArray.size = l.length := by simp
                                                            omega] at all
  exact all
theorem row_grown {w w' : World} {base : Nat} {e : TypeId} {size : Nat} {v : Value} {n : Nat} {xs : List Value} {row : Option Nat} (h : w.ownsRow base e size v n xs) (hg : w.grownBy w' row)
    (hr : ∀ r, row = some r → r < base ∨ ∃ o : Obj, w.heap[r]? = some o ∧ o.isCells = false) : w'.ownsRow base e size v n xs := by
  refine ⟨h.1, ?_⟩
  rcases h.2 with h' | ⟨g, cap, cur, hv, hb, hgg, rest⟩
  · exact .inl h'
  · refine .inr ⟨g, cap, cur, hv, hb, ?_, rest⟩
    refine (hg.block g (lt_of_block hgg) (fun e => ?_)).trans hgg
    rcases hr g e.symm with h | ⟨o, ho, hc⟩
    · omega
    · rw [hgg] at ho
      cases ho
      cases hc
theorem run_slice_lo (w : World) (a : Option Addr) (n cap l : Nat) (hl : l ≤ n) (_hn : n ≤ cap) :
    (Instr.slice 28 (.slice a n cap) (some (.int .i64 (l : Int))) none none).run Try.prog w = .ok (.slice (if cap = l then a else a.map (fun p => p.add (l * 1))) (n - l) (cap - l)) w := by
  have h1 : (0 : Int) ≤ (l : Int) ∧ (l : Int) ≤ (n : Int) := ⟨by omega, by omega⟩
  have hsz : (sizeOf 3).run Try.prog w = .ok 1 w := by kernel_rfl
  have hu : (underlying 28).run Try.prog w = .ok (.slice 3) w := by kernel_rfl
  simp [Instr.slice, Instr.sliceBounds, Instr.sliceBound, asIntOf, Sem.run_bind, Result.andThen, hu, hsz, h1, Int.toNat_natCast, hl]
theorem run_slice3 (w : World) (a : Option Addr) (n cap f t : Nat) (hf : f ≤ t) (ht : t ≤ cap) :
    (Instr.slice 28 (.slice a n cap) (some (.int .i64 f)) (some (.int .i64 t)) (some (.int .i64 t))).run Try.prog w = .ok (.slice (if t = f then a else a.map (fun p => p.add (f * 1))) (t - f) (t - f)) w := by
  have h1 : (0 : Int) ≤ (t : Int) ∧ (t : Int) ≤ (cap : Int) := ⟨by omega, by omega⟩
  have h2 : (0 : Int) ≤ (t : Int) ∧ (t : Int) ≤ (t : Int) := ⟨by omega, by omega⟩
  have h3 : (0 : Int) ≤ (f : Int) ∧ (f : Int) ≤ (t : Int) := ⟨by omega, by omega⟩
  have hsz : (sizeOf 3).run Try.prog w = .ok 1 w := by kernel_rfl
  have hu : (underlying 28).run Try.prog w = .ok (.slice 3) w := by kernel_rfl
  simp [Instr.slice, Instr.sliceBounds, Instr.sliceBound, asIntOf, Sem.run_bind, Result.andThen, hu, hsz, h1, h3, Int.toNat_natCast, hf, ht]
end Go.Proofs.Yteioaeceobgbdaa
