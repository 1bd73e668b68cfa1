/- A loop over a function that steps in memory between its items and tells of each item's memory; its body may leave it. -/
import Derived.Test.YteioaeceobgbdaaRV
namespace Go.Proofs.Yteioaeceobgbdaa
open Go.RowKit Go.Shelf

/-- What such a function does: T is what it may do to memory between its items, Pi what holds of an item where it is handed over, Kp what the body keeps. -/
def SeqT {α : Type} (F : Fence) (n : Nat) (P : Program) (g : Nat) (lb : Array Value) (encs : α → Array Value) (Kp T : World → World → Prop) (Pi : List α → α → World → Prop) (S Sp : List α → Prop) (N : Nat) (w : World) : Prop :=
  ∀ (l : Nat) (J Jx : List α → World → Prop) (W : World), Below w.heap.size w W → (∀ s A B, J s A → T A B → J s B) → (∀ s A B, Jx s A → T A B → Jx s B) →
    (∀ pre x V, J pre V → Pi pre x V → pre.length < N → YieldAt F (n - 1) P l (encs x) V fun e V' => (e = .returned (.bool true) ∧ J (pre ++ [x]) V' ∧ Kp V V') ∨ (e = .returned (.bool false) ∧ Jx (pre ++ [x]) V')) →
    J [] W → CallsIn F n P g (#[.func (.yield l) #[] #[]] ++ lb) W fun e W' => (∃ v, e = .returned v) ∧ ((∃ xs, S xs ∧ J xs W') ∨ (∃ pre, Sp pre ∧ Jx pre W'))
theorem wpIn_rangeT {F : Fence} {n : Nat} {P : Program} {α : Type} {g : Operand} {ps : Array Tmp} {assign body : Code} {Q : Exit → Act → World → Prop} {a : Act} {w : World}
    (hro : F.round = none) (h1 : 1 ≤ n) {gf : Nat} {lb : Array Value} (hg : a.eval g = .func (.func gf) #[] lb) (hFg : F.fn gf) (eg : ∀ args w, (callFunc gf args).run P w = .ok (.enter gf args) w)
    {encs : α → Array Value} {Kp T : World → World → Prop} {Pi : List α → α → World → Prop} {S Sp : List α → Prop} {N : Nat} {w0 : World} (hseq : SeqT F (n - 1) P gf lb encs Kp T Pi S Sp N w0)
    (hKt : ∀ {A B C : World}, Kp A B → Kp B C → Kp A C) (hKb : ∀ (W : World) (l : Nat) (o o' : Obj), w.heap.size ≤ l → W.heap[l]? = some o → o.isCells = false → Kp W (W.putObj l o'))
    (hT : ∀ A B, T A B → ∀ k o, w.heap.size ≤ k → A.heap[k]? = some o → o.isCells = false → B.heap[k]? = some o) (hb0 : Below w0.heap.size w0 w) (hps : ∀ x, (encs x).size = ps.size)
    (I : List α → World → Prop) (Ix : Code → List α → World → Prop) (hI : OwnFrom w.heap.size I) (hIx : ∀ c, OwnFrom w.heap.size (Ix c)) (hIT : ∀ s A B, I s A → T A B → I s B) (hIxT : ∀ c s A B, Ix c s A → T A B → Ix c s B)
    (hPi : ∀ pre x, OwnFrom w.heap.size (fun (_ : Unit) W => Pi pre x W)) (h0 : I [] w) (Ax : α → Act → World → Prop) (hAx : ∀ x a', OwnFrom w.heap.size (fun (_ : Unit) W => Ax x a' W))
    (hassign : ∀ (l : Nat) (pre : List α) (x : α) (W : World) (K : Act → World → Prop), I pre W → Pi pre x W → (∀ a' W', KeepsFrom w.heap.size W W' → Kp W W' → I pre W' → Pi pre x W' → Ax x a' W' → K a' W') →
      assign.wpIn (F.inRound l) (n - 1 - 1) P (Exit.then K (fun _ _ _ => False)) { tmps := (ps.zip (encs x)).foldl (fun t (p, v) => t.setIfInBounds p v) a.tmps, defers := [] } W)
    (hbody : ∀ (l : Nat) (pre : List α) (x : α) (a' : Act) (W : World), I pre W → Pi pre x W → Ax x a' W → w.heap.size + 2 ≤ W.heap.size → pre.length < N → body.wpIn (F.inRound l) (n - 1 - 1) P (ownPostG w.heap.size Kp I Ix (pre ++ [x]) W) a' W)
    (hdone : ∀ (D : Nat) (xs : List α) (W : World), w.heap.size ≤ D → S xs → I xs W → W.heap[D]? = some (.deferred (some [])) → Q .normal { a with defers := { target := .collected D, args := #[] } :: a.defers } W)
    (hstop : ∀ (D : Nat) (c : Code) (pre : List α) (W : World), w.heap.size ≤ D → Sp pre → Ix c pre W → W.heap[D]? = some (.deferred (some [])) → c.wpIn F n P Q { a with defers := { target := .collected D, args := #[] } :: a.defers } W) :
    (Code.rangeFunc g ps assign body).wpIn F n P Q a w := by
  refine wpIn_rangeFunc fun fn hfn => ?_
  rw [hro]
  -- the loop's record stands at w.heap.size + 1, the block of its deferred calls ahead of it
  let rec1 : LoopState → Option Code → Loop := fun st pe => { state := st, pending := pe, fn, tmps := a.tmps, params := ps, assign, body, defers := w.heap.size }
  obtain ⟨W1, hW1⟩ : ∃ W1, W1 = (w.alloc (.deferred (some []))).alloc (.loop (rec1 .ready none)) := ⟨_, rfl⟩
  have hrec : W1.heap[w.heap.size + 1]? = some (.loop (rec1 .ready none)) := by
    have := World.alloc_heap_new (w.alloc (.deferred (some []))) (.loop (rec1 .ready none))
    rwa [World.size_alloc, ← hW1] at this
  have hdef : W1.heap[w.heap.size]? = some (.deferred (some [])) := by
    rw [hW1]; exact (Below.heap_alloc _ _ _ (by simp)).trans (World.alloc_heap_new w _)
  have hstart : I [] W1 := by rw [hW1]; exact hI.alloc _ (hI.alloc _ h0)
  have hbel : Below w0.heap.size w0 W1 := by
    rw [hW1]; exact hb0.trans ((((Below.refl _ w).alloc (Nat.le_refl _) _).alloc (by simp) _).mono hb0.size)
  refine ⟨w.heap.size + 1, [{ target := .collected w.heap.size, args := #[] }], W1, { target := .fn (.func gf) lb, args := #[.func (.yield (w.heap.size + 1)) #[] #[]] }, W1, gf,
    #[.func (.yield (w.heap.size + 1)) #[] #[]] ++ lb, W1, by rw [hW1]; exact run_enterLoop_outer _ _ _ _ _, by simp only [resolve, hg]; simp [go_sem], fun f' hf' => ?_, by simp [invoke, go_sem, eg], fun _ => h1, ?_⟩
  · simp [Target.leads] at hf'; subst hf'; exact hFg
  refine (hseq (w.heap.size + 1) (fun pre W => (I pre W ∧ W.heap[w.heap.size + 1]? = some (.loop (rec1 .ready none))) ∧ W.heap[w.heap.size]? = some (.deferred (some [])))
    (fun pre W => ∃ c, (Ix c pre W ∧ W.heap[w.heap.size + 1]? = some (.loop (rec1 .done (some c)))) ∧ W.heap[w.heap.size]? = some (.deferred (some []))) W1 hbel
    (fun s A B ⟨⟨k1, k2⟩, k3⟩ ht => ⟨⟨hIT s A B k1 ht, hT A B ht _ _ (by omega) k2 rfl⟩, hT A B ht _ _ (Nat.le_refl _) k3 rfl⟩)
    (fun s A B ⟨c, ⟨k1, k2⟩, k3⟩ ht => ⟨c, ⟨hIxT c s A B k1 ht, hT A B ht _ _ (by omega) k2 rfl⟩, hT A B ht _ _ (Nat.le_refl _) k3 rfl⟩)
    ?round ⟨⟨hstart, hrec⟩, hdef⟩).mono ?behind
  case round =>
    rintro pre x V ⟨⟨hi, hl⟩, hd⟩ hp hlen
    refine ⟨fn, _, assign, body, run_yield (P := P) (args := encs x) hl (hps x), roundIn_of_wpIn hfn (hassign _ pre x V _ hi hp fun a' V1 hkf hkp hi1 hp1 hax => ?_)⟩
    have hl1 : V1.heap[w.heap.size + 1]? = some (.loop (rec1 .ready none)) := hkf.same _ _ (by omega) hl rfl
    have hd1 := hkf.same _ _ (Nat.le_refl _) hd rfl
    have hlt1 : w.heap.size + 1 < V1.heap.size := (Array.getElem?_eq_some_iff.1 hl1).1
    refine ⟨_, run_beginRound hl1 rfl, ?_⟩
    have hl2 : (V1.putObj (w.heap.size + 1) (.loop (rec1 .busy none))).heap[w.heap.size + 1]? = some (.loop (rec1 .busy none)) := World.putObj_heap_same hlt1
    have hd2 : (V1.putObj (w.heap.size + 1) (.loop (rec1 .busy none))).heap[w.heap.size]? = some (.deferred (some [])) := (World.putObj_heap_other (by omega)).trans hd1
    have hk2 : Kp V (V1.putObj (w.heap.size + 1) (.loop (rec1 .busy none))) := hKt hkp (hKb _ _ _ _ (by omega) hl1 rfl)
    have hsz : w.heap.size + 2 ≤ (V1.putObj (w.heap.size + 1) (.loop (rec1 .busy none))).heap.size := (Array.getElem?_eq_some_iff.1 hl2).1
    refine wpIn_mono (hbody _ pre x a' _ (hI.putObj _ hi1 (by omega) hl1 rfl) ((hPi pre x).putObj (s := ()) _ hp1 (by omega) hl1 rfl) ((hAx x a').putObj (s := ()) _ hax (by omega) hl1 rfl) hsz hlen) ?_
    -- how the round ends: the record is ready again, or holds where the body wants to go
    have ends : ∀ (jump : Option Code) (V3 : World), KeepsFrom w.heap.size (V1.putObj (w.heap.size + 1) (.loop (rec1 .busy none))) V3 →
        (Instr.endRound (w.heap.size + 1) jump).run P V3 = .ok (.bool jump.isNone) (V3.putObj (w.heap.size + 1) (.loop (rec1 (if jump.isNone then .ready else .done) jump))) ∧
        V3.heap[w.heap.size + 1]? = some (.loop (rec1 .busy none)) ∧
        (V3.putObj (w.heap.size + 1) (.loop (rec1 (if jump.isNone then .ready else .done) jump))).heap[w.heap.size + 1]? = some (.loop (rec1 (if jump.isNone then .ready else .done) jump)) ∧
        (V3.putObj (w.heap.size + 1) (.loop (rec1 (if jump.isNone then .ready else .done) jump))).heap[w.heap.size]? = some (.deferred (some [])) := fun jump V3 hk3 => by
      have hl3 := hk3.same _ _ (by omega) hl2 rfl
      exact ⟨run_endRound (P := P) jump hl3, hl3, World.putObj_heap_same (Array.getElem?_eq_some_iff.1 hl3).1, (World.putObj_heap_other (by omega)).trans (hk3.same _ _ (Nat.le_refl _) hd2 rfl)⟩
    rintro e a3 V3 he
    cases e with
    | normal =>
      obtain ⟨k1, k2, k3⟩ := he
      obtain ⟨r1, r2, r3, r4⟩ := ends none V3 k1
      exact ⟨_, _, r1, .inl ⟨rfl, ⟨⟨hI.putObj _ k3 (by omega) r2 rfl, r3⟩, r4⟩, hKt hk2 (hKt k2 (hKb _ _ _ _ (by omega) r2 rfl))⟩⟩
    | ret =>
      obtain ⟨k1, k3⟩ := he
      obtain ⟨r1, r2, r3, r4⟩ := ends (some .ret) V3 k1
      exact ⟨_, _, r1, .inr ⟨rfl, .ret, ⟨(hIx _).putObj _ k3 (by omega) r2 rfl, r3⟩, r4⟩⟩
    | exit id =>
      obtain ⟨k1, k3⟩ := he
      obtain ⟨r1, r2, r3, r4⟩ := ends (some (.exit id)) V3 k1
      exact ⟨_, _, r1, .inr ⟨rfl, .exit id, ⟨(hIx _).putObj _ k3 (by omega) r2 rfl, r3⟩, r4⟩⟩
    | goto t =>
      obtain ⟨k1, k3⟩ := he
      obtain ⟨r1, r2, r3, r4⟩ := ends (some (.goto t)) V3 k1
      exact ⟨_, _, r1, .inr ⟨rfl, .goto t, ⟨(hIx _).putObj _ k3 (by omega) r2 rfl, r3⟩, r4⟩⟩
    | panic ch => exact he.elim
    | outgrown => exact he.elim
  case behind =>
    rintro e W2 ⟨⟨v, rfl⟩, (⟨xs, hS, ⟨hi, hl⟩, hd⟩ | ⟨pre, hS, c, ⟨hi, hl⟩, hd⟩)⟩
    · exact ⟨none, _, run_endLoop (P := P) hl (by simp [rec1]), hdone _ xs _ (Nat.le_refl _) hS (hI.putObj _ hi (by omega) hl rfl) ((World.putObj_heap_other (by omega)).trans hd)⟩
    · exact ⟨some c, _, run_endLoop (P := P) hl (by simp [rec1]), hstop _ c pre _ (Nat.le_refl _) hS ((hIx c).putObj _ hi (by omega) hl rfl) ((World.putObj_heap_other (by omega)).trans hd)⟩
end Go.Proofs.Yteioaeceobgbdaa
