/- a loop over a function, whose items' blocks of cells stay -/
import Derived.Test.YteioaeceobgbdaaRP
import Derived.Test.YteioaeceobgbdaaInt
namespace Go.Proofs.Yteioaeceobgbdaa
open Go.RowKit Go.Shelf

theorem wpIn_rangeQ {F : Fence} {n : Nat} {P : Program} {α : Type} {g : Operand} {ps : Array Tmp} {assign body : Code} {Q : Exit → Act → World → Prop} {a : Act} {w : World}
    (hro : F.round = none) (h1 : 1 ≤ n) {gf : Nat} {lb : Array Value} (hg : a.eval g = .func (.func gf) #[] lb) (hFg : F.fn gf) (eg : ∀ args w, (callFunc gf args).run P w = .ok (.enter gf args) w)
    {encs : α → Array Value} {Kp : World → World → Prop} {Pi : List α → α → World → Prop} {S : List α → Prop} {m N : Nat} {w0 : World} (hseq : SeqP F (n - 1) P gf lb encs Kp Pi S m N w0)
    (hKt : ∀ {A B C : World}, Kp A B → Kp B C → Kp A C) (hKb : ∀ (W : World) (l : Nat) (o o' : Obj), w.heap.size ≤ l → W.heap[l]? = some o → o.isCells = false → Kp W (W.putObj l o')) (hb0 : Below w0.heap.size w0 w) (hps : ∀ x, (encs x).size = ps.size)
    (I : List α → World → Prop) (hI' : OwnM w.heap.size (m + 2) I) (hPi : ∀ pre x, OwnFrom w.heap.size (fun (_ : Unit) W => Pi pre x W)) (h0 : I [] w) (Ax : α → Act → World → Prop) (hAx : ∀ x a', OwnFrom w.heap.size (fun (_ : Unit) W => Ax x a' W))
    (hassign : ∀ (l : Nat) (pre : List α) (x : α) (W : World) (K : Act → World → Prop), I pre W → Pi pre x W → (∀ a' W', KeepsFrom w.heap.size W W' → Kp W W' ∧ Win (w.heap.size + 2) m W W' → I pre W' → Pi pre x W' → Ax x a' W' → K a' W') →
      assign.wpIn (F.inRound l) (n - 1 - 1) P (Exit.then K (fun _ _ _ => False)) { tmps := (ps.zip (encs x)).foldl (fun t (p, v) => t.setIfInBounds p v) a.tmps, defers := [] } W)
    (hbody : ∀ (l : Nat) (pre : List α) (x : α) (a' : Act) (W : World), I pre W → Pi pre x W → Ax x a' W → w.heap.size + 2 + m ≤ W.heap.size → pre.length < N → body.wpIn (F.inRound l) (n - 1 - 1) P (onward w.heap.size (fun A A' => Kp A A' ∧ Win (w.heap.size + 2) m A A') I (pre ++ [x]) W) a' W)
    (hdone : ∀ (D : Nat) (xs : List α) (W : World), w.heap.size ≤ D → S xs → I xs W → W.heap[D]? = some (.deferred (some [])) → Q .normal { a with defers := { target := .collected D, args := #[] } :: a.defers } W) :
    (Code.rangeFunc g ps assign body).wpIn F n P Q a w := by
  have hI := hI'.from
  refine wpIn_rangeFunc fun fn hfn => ?_
  rw [hro]
  -- the loop's record stands at w.heap.size + 1, the block of its deferred calls ahead of it
  let rec1 : Loop := { state := .ready, pending := none, fn, tmps := a.tmps, params := ps, assign, body, defers := w.heap.size }
  let rec2 : Loop := { rec1 with state := .busy }
  obtain ⟨W1, hW1⟩ : ∃ W1, W1 = (w.alloc (.deferred (some []))).alloc (.loop rec1) := ⟨_, rfl⟩
  have hs1 : W1.heap.size = w.heap.size + 1 + 1 := by rw [hW1, World.size_alloc, World.size_alloc]
  have hrec : W1.heap[w.heap.size + 1]? = some (.loop rec1) := by
    have := World.alloc_heap_new (w.alloc (.deferred (some []))) (.loop rec1)
    rwa [World.size_alloc, ← hW1] at this
  have hdef : W1.heap[w.heap.size]? = some (.deferred (some [])) := by
    rw [hW1]; exact (Below.heap_alloc _ _ _ (by simp)).trans (World.alloc_heap_new w _)
  have hstart : I [] W1 := by rw [hW1]; exact hI.alloc _ (hI.alloc _ h0)
  have hbel : Below w0.heap.size w0 W1 := by
    rw [hW1]; exact hb0.trans ((((Below.refl _ w).alloc (Nat.le_refl _) _).alloc (by simp) _).mono hb0.size)
  refine ⟨w.heap.size + 1, [{ target := .collected w.heap.size, args := #[] }], W1, { target := .fn (.func gf) lb, args := #[.func (.yield (w.heap.size + 1)) #[] #[]] }, W1, gf,
    #[.func (.yield (w.heap.size + 1)) #[] #[]] ++ lb, W1, by rw [hW1]; exact run_enterLoop_outer _ _ _ _ _, by simp only [resolve, hg]; simp [go_sem], fun f' hf' => ?_, by simp [invoke, go_sem, eg], fun _ => h1, ?_⟩
  · simp [Target.leads] at hf'; subst hf'; exact hFg
  refine (hseq (w.heap.size + 1) (fun pre W => (I pre W ∧ W.heap[w.heap.size + 1]? = some (.loop rec1)) ∧ W.heap[w.heap.size]? = some (.deferred (some []))) W1 hbel
    (fun s A B row ⟨⟨k1, k2⟩, k3⟩ hg' hr => ⟨⟨hI' s A B row k1 hg' (fun r e => ⟨by have := (hr r e).1; omega, (hr r e).2.imp (fun h => by omega) id⟩), (hg'.block _ (Array.getElem?_eq_some_iff.1 k2).1 (fun e => by have := (hr _ e.symm).1; omega)).trans k2⟩,
      (hg'.block _ (Array.getElem?_eq_some_iff.1 k3).1 (fun e => by have := (hr _ e.symm).1; omega)).trans k3⟩)
    ?round ⟨⟨hstart, hrec⟩, hdef⟩).mono ?behind
  case round =>
    rintro pre x V ⟨⟨hi, hl⟩, hd⟩ hp hVs hlen
    have hlt : w.heap.size + 1 < V.heap.size := (Array.getElem?_eq_some_iff.1 hl).1
    refine ⟨fn, _, assign, body, run_yield (P := P) (args := encs x) hl (hps x), roundIn_of_wpIn hfn (hassign _ pre x V _ hi hp fun a' V1 hkf hkp hi1 hp1 hax => ?_)⟩
    have hl1 : V1.heap[w.heap.size + 1]? = some (.loop rec1) := hkf.same _ _ (by omega) hl rfl
    have hd1 := hkf.same _ _ (Nat.le_refl _) hd rfl
    have hlt1 : w.heap.size + 1 < V1.heap.size := (Array.getElem?_eq_some_iff.1 hl1).1
    refine ⟨_, run_beginRound hl1 rfl, ?_⟩
    have hl2 : (V1.putObj (w.heap.size + 1) (.loop rec2)).heap[w.heap.size + 1]? = some (.loop rec2) := World.putObj_heap_same hlt1
    have hd2 : (V1.putObj (w.heap.size + 1) (.loop rec2)).heap[w.heap.size]? = some (.deferred (some [])) := (World.putObj_heap_other (by omega)).trans hd1
    refine wpIn_mono (hbody _ pre x a' _ (hI.putObj _ hi1 (by omega) hl1 rfl) ((hPi pre x).putObj (s := ()) _ hp1 (by omega) hl1 rfl) ((hAx x a').putObj (s := ()) _ hax (by omega) hl1 rfl) (by have := hkf.size; exact Nat.le_trans (show w.heap.size + 2 + m ≤ V1.heap.size by omega) (grownBy_putObj' V1 (w.heap.size + 1) (.loop rec2)).size) hlen) ?_
    rintro e a3 V3 he
    cases e with
    | normal =>
      obtain ⟨k1, k2, k3⟩ := he
      have hl3 := k1.same _ _ (by omega) hl2 rfl
      refine ⟨_, _, run_endRound (P := P) none hl3, ⟨rfl, ⟨⟨hI.putObj _ k3 (by omega) hl3 rfl, World.putObj_heap_same (Array.getElem?_eq_some_iff.1 hl3).1⟩, (World.putObj_heap_other (by omega)).trans (k1.same _ _ (Nat.le_refl _) hd2 rfl)⟩,
        hKt hkp.1 (hKt (hKb _ _ _ _ (by omega) hl1 rfl) (hKt k2.1 (hKb _ _ _ _ (by omega) hl3 rfl))), ?_, ?_⟩⟩
      · rw [hs1]; exact (keepsFrom_mono hkf (by omega)).trans ((keepsFrom_putObj _ _ (by omega)).trans ((keepsFrom_mono k1 (by omega)).trans (keepsFrom_putObj _ _ (by omega))))
      · rw [hs1]; exact hkp.2.trans ((Win.putObj _ _ (by omega)).trans (k2.2.trans (Win.putObj _ _ (by omega))))
    | ret => exact he.elim
    | exit id => exact he.elim
    | goto t => exact he.elim
    | panic ch => exact he.elim
    | outgrown => exact he.elim
  case behind =>
    rintro e W2 ⟨⟨v, rfl⟩, xs, hS, ⟨hi, hl⟩, hd⟩
    exact ⟨none, _, run_endLoop (P := P) hl (by simp [rec1]), hdone _ xs _ (Nat.le_refl _) hS (hI.putObj _ hi (by omega) hl rfl) ((World.putObj_heap_other (by omega)).trans hd)⟩
/-- All blocks of cells stay but those of R. -/
def KpC (R : Nat → Prop) (A A' : World) : Prop := A.heap.size ≤ A'.heap.size ∧ ∀ k c t f, ¬ R k → A.heap[k]? = some (.cells c t f) → A'.heap[k]? = some (.cells c t f)
theorem KpC.trans {R : Nat → Prop} {A B C : World} (h : KpC R A B) (k : KpC R B C) : KpC R A C := ⟨Nat.le_trans h.1 k.1, fun i c t f hR hi => k.2 i c t f hR (h.2 i c t f hR hi)⟩
theorem KpC.refl (R : Nat → Prop) (A : World) : KpC R A A := ⟨Nat.le_refl _, fun _ _ _ _ _ h => h⟩
theorem Upd.kpC {S R : Nat → Prop} {A B : World} (h : Upd S A B) (hs : ∀ k, S k → k < A.heap.size → R k) : KpC R A B := ⟨h.size, fun k _ _ _ hR hk => h.heap hk (fun hS => hR (hs k hS (Array.getElem?_eq_some_iff.1 hk).1))⟩
theorem kpC_putObj {R : Nat → Prop} {W : World} {l : Nat} {o o' : Obj} (h : W.heap[l]? = some o) (ho : o.isCells = false) : KpC R W (W.putObj l o') :=
  ⟨(grownBy_putObj' W l o').size, fun k c t f _ hk => (World.putObj_heap_other (fun e => by subst e; rw [h] at hk; cases hk; cases ho)).trans hk⟩
theorem KpC.cell {R : Nat → Prop} {A B : World} (h : KpC R A B) {p : Addr} {v : Value} (hR : ¬ R p.block) (hc : A.cell? p = some v) : B.cell? p = some v := by
  unfold World.cell? at hc ⊢
  cases hb : A.heap[p.block]? with
  | none => rw [hb] at hc; simp at hc
  | some o =>
    rw [hb] at hc
    cases o with
    | cells c t f => rw [h.2 _ _ _ _ hR hb]; exact hc
    | _ => simp at hc
theorem Ints.kpC {R : Nat → Prop} {A B : World} {v : Value} {xs : List Int} (h : Ints A v xs) (k : KpC R A B) (hR : xs ≠ [] → ∀ b, v.ownBlock = some b → ¬ R b) : Ints B v xs := by
  obtain ⟨hb, a, cap, rfl, hc, h3⟩ := h
  refine ⟨hb, a, cap, rfl, hc, ?_⟩
  rcases h3 with h3 | ⟨b, off, rfl, h3⟩
  · exact .inl h3
  · exact .inr ⟨b, off, rfl, fun j x hx => k.cell (hR (by rintro rfl; simp at hx) b rfl) (h3 j x hx)⟩
end Go.Proofs.Yteioaeceobgbdaa
