/- A loop over a function whose items come with a fact of the memory in which they are yielded; its body always goes on. -/
import Derived.Test.YteioaeceobgbdaaBase
import Derived.RangeFuncNested
import Derived.RangeFuncBound
import Derived.RangeFuncCalls
import Derived.RangeFuncLeaves
import Derived.Shelf.Abstract
import Derived.Shelf.RegionOpen
import Derived.OwnWalkIn
import Derived.TacticsInMore
import Derived.LoopNIn
import Derived.LoopIn
namespace Go.Proofs.Yteioaeceobgbdaa
open Go.RowKit Go.Shelf

/-- I stands though blocks from B on change that hold no cells, or whichever of the m blocks at B: those that a function lays ahead of its first item. -/
def OwnM {β : Type} (B m : Nat) (I : β → World → Prop) : Prop :=
  ∀ s A A' row, I s A → A.grownBy A' row → (∀ r, row = some r → B ≤ r ∧ (r < B + m ∨ ∃ o : Obj, A.heap[r]? = some o ∧ o.isCells = false)) → I s A'
theorem OwnM.from {β : Type} {B m : Nat} {I : β → World → Prop} (h : OwnM B m I) : OwnFrom B I := fun s A A' row hs hg hr => h s A A' row hs hg fun r e => ⟨(hr r e).1, .inr (hr r e).2⟩
/-- The m blocks at b lie as they lay. -/
def Win (b m : Nat) (A A' : World) : Prop := ∀ j, b ≤ j → j < b + m → A'.heap[j]? = A.heap[j]?
theorem Win.refl (b m : Nat) (A : World) : Win b m A A := fun _ _ _ => rfl
theorem Win.trans {b m : Nat} {A B C : World} (h : Win b m A B) (k : Win b m B C) : Win b m A C := fun j h1 h2 => (k j h1 h2).trans (h j h1 h2)
theorem Win.putObj {b m l : Nat} (A : World) (o : Obj) (h : l < b) : Win b m A (A.putObj l o) := fun j h1 _ => World.putObj_heap_other (by omega)
theorem keepsFrom_putObj {b l : Nat} (A : World) (o : Obj) (h : l < b) : KeepsFrom b A (A.putObj l o) := ⟨(grownBy_putObj' A l o).size, fun k o' hk hA _ => (World.putObj_heap_other (by omega)).trans hA⟩
theorem keepsFrom_mono {b c : Nat} {A A' : World} (h : KeepsFrom b A A') (hb : b ≤ c) : KeepsFrom c A A' := ⟨h.size, fun k o hk hA ho => h.same k o (by omega) hA ho⟩
/-- What such a function does: with each item it hands over what Pi says of the item there and then. -/
def SeqP {α : Type} (F : Fence) (n : Nat) (P : Program) (g : Nat) (lb : Array Value) (encs : α → Array Value) (Kp : World → World → Prop) (Pi : List α → α → World → Prop) (S : List α → Prop) (m N : Nat) (w : World) : Prop :=
  ∀ (l : Nat) (J : List α → World → Prop) (W : World), Below w.heap.size w W → OwnM W.heap.size m J →
    (∀ pre x V, J pre V → Pi pre x V → W.heap.size + m ≤ V.heap.size → pre.length < N → YieldAt F (n - 1) P l (encs x) V fun e V' => e = .returned (.bool true) ∧ J (pre ++ [x]) V' ∧ Kp V V' ∧ KeepsFrom W.heap.size V V' ∧ Win W.heap.size m V V') →
    J [] W → CallsIn F n P g (#[.func (.yield l) #[] #[]] ++ lb) W fun e W' => (∃ v, e = .returned v) ∧ ∃ xs, S xs ∧ J xs W'
/-- How a round's body ends: it goes on. -/
def onward {α : Type} (B : Nat) (Kp : World → World → Prop) (I : List α → World → Prop) (xs : List α) (W : World) : Exit → Act → World → Prop
  | .normal, _, W' => KeepsFrom B W W' ∧ Kp W W' ∧ I xs W'
  | _, _, _ => False
theorem wpIn_rangeP {F : Fence} {n : Nat} {P : Program} {α : Type} {g : Operand} {ps : Array Tmp} {assign body : Code} {Q : Exit → Act → World → Prop} {a : Act} {w : World}
    (hro : F.round = none) (h1 : 1 ≤ n) {gf : Nat} {lb : Array Value} (hg : a.eval g = .func (.func gf) #[] lb) (hFg : F.fn gf) (eg : ∀ args w, (callFunc gf args).run P w = .ok (.enter gf args) w)
    {encs : α → Array Value} {Kp : World → World → Prop} {Pi : List α → α → World → Prop} {S : List α → Prop} {m N : Nat} {w0 : World} (hseq : SeqP F (n - 1) P gf lb encs Kp Pi S m N w0)
    (hKt : ∀ {A B C : World}, Kp A B → Kp B C → Kp A C) (hKb : ∀ (W : World) (l : Nat) (o' : Obj), w.heap.size ≤ l → Kp W (W.putObj l o')) (hb0 : Below w0.heap.size w0 w) (hps : ∀ x, (encs x).size = ps.size)
    (I : List α → World → Prop) (hI' : OwnM w.heap.size (m + 2) I) (hPi : ∀ pre x, OwnFrom w.heap.size (fun (_ : Unit) W => Pi pre x W)) (h0 : I [] w) (Ax : α → Act → World → Prop) (hAx : ∀ x a', OwnFrom w.heap.size (fun (_ : Unit) W => Ax x a' W))
    (hassign : ∀ (l : Nat) (pre : List α) (x : α) (W : World) (K : Act → World → Prop), I pre W → Pi pre x W → (∀ a' W', KeepsFrom w.heap.size W W' → Kp W W' ∧ Win (w.heap.size + 2) m W W' → I pre W' → Pi pre x W' → Ax x a' W' → K a' W') →
      assign.wpIn (F.inRound l) (n - 1 - 1) P (Exit.then K (fun _ _ _ => False)) { tmps := (ps.zip (encs x)).foldl (fun t (p, v) => t.setIfInBounds p v) a.tmps, defers := [] } W)
    (hbody : ∀ (l : Nat) (pre : List α) (x : α) (a' : Act) (W : World), I pre W → Pi pre x W → Ax x a' W → w.heap.size + 2 + m ≤ W.heap.size → pre.length < N → body.wpIn (F.inRound l) (n - 1 - 1) P (onward w.heap.size (fun A A' => Kp A A' ∧ Win (w.heap.size + 2) m A A') I (pre ++ [x]) W) a' W)
    (hdone : ∀ (D : Nat) (xs : List α) (W : World), w.heap.size ≤ D → S xs → I xs W → W.heap[D]? = some (.deferred (some [])) → Q .normal { a with defers := { target := .collected D, args := #[] } :: a.defers } W) :
    (Code.rangeFunc g ps assign body).wpIn F n P Q a w := by
  have hI := hI'.from
  refine wpIn_rangeFunc fun fn hfn => ?_
  rw [hro]
  -- the loop's record stands at w.heap.size + 1, the block of its deferred calls ahead of it
  let rec1 : Loop := { state := .ready, pending := none, fn, tmps := a.tmps, params := ps, assign, body, defers := w.heap.size }
  let rec2 : Loop := { rec1 with state := .busy }
  obtain ⟨W1, hW1⟩ : ∃ W1, W1 = (w.alloc (.deferred (some []))).alloc (.loop rec1) := ⟨_, rfl⟩
  have hs1 : W1.heap.size = w.heap.size + 1 + 1 := by rw [hW1, World.size_alloc, World.size_alloc]
  have hrec : W1.heap[w.heap.size + 1]? = some (.loop rec1) := by
    have := World.alloc_heap_new (w.alloc (.deferred (some []))) (.loop rec1)
    rwa [World.size_alloc, ← hW1] at this
  have hdef : W1.heap[w.heap.size]? = some (.deferred (some [])) := by
    rw [hW1]; exact (Below.heap_alloc _ _ _ (by simp)).trans (World.alloc_heap_new w _)
  have hstart : I [] W1 := by rw [hW1]; exact hI.alloc _ (hI.alloc _ h0)
  have hbel : Below w0.heap.size w0 W1 := by
    rw [hW1]; exact hb0.trans ((((Below.refl _ w).alloc (Nat.le_refl _) _).alloc (by simp) _).mono hb0.size)
  refine ⟨w.heap.size + 1, [{ target := .collected w.heap.size, args := #[] }], W1, { target := .fn (.func gf) lb, args := #[.func (.yield (w.heap.size + 1)) #[] #[]] }, W1, gf,
    #[.func (.yield (w.heap.size + 1)) #[] #[]] ++ lb, W1, by rw [hW1]; exact run_enterLoop_outer _ _ _ _ _, by simp only [resolve, hg]; simp [go_sem], fun f' hf' => ?_, by simp [invoke, go_sem, eg], fun _ => h1, ?_⟩
  · simp [Target.leads] at hf'; subst hf'; exact hFg
  refine (hseq (w.heap.size + 1) (fun pre W => (I pre W ∧ W.heap[w.heap.size + 1]? = some (.loop rec1)) ∧ W.heap[w.heap.size]? = some (.deferred (some []))) W1 hbel
    (fun s A B row ⟨⟨k1, k2⟩, k3⟩ hg' hr => ⟨⟨hI' s A B row k1 hg' (fun r e => ⟨by have := (hr r e).1; omega, (hr r e).2.imp (fun h => by omega) id⟩), (hg'.block _ (Array.getElem?_eq_some_iff.1 k2).1 (fun e => by have := (hr _ e.symm).1; omega)).trans k2⟩,
      (hg'.block _ (Array.getElem?_eq_some_iff.1 k3).1 (fun e => by have := (hr _ e.symm).1; omega)).trans k3⟩)
    ?round ⟨⟨hstart, hrec⟩, hdef⟩).mono ?behind
  case round =>
    rintro pre x V ⟨⟨hi, hl⟩, hd⟩ hp hVs hlen
    have hlt : w.heap.size + 1 < V.heap.size := (Array.getElem?_eq_some_iff.1 hl).1
    refine ⟨fn, _, assign, body, run_yield (P := P) (args := encs x) hl (hps x), roundIn_of_wpIn hfn (hassign _ pre x V _ hi hp fun a' V1 hkf hkp hi1 hp1 hax => ?_)⟩
    have hl1 : V1.heap[w.heap.size + 1]? = some (.loop rec1) := hkf.same _ _ (by omega) hl rfl
    have hd1 := hkf.same _ _ (Nat.le_refl _) hd rfl
    have hlt1 : w.heap.size + 1 < V1.heap.size := (Array.getElem?_eq_some_iff.1 hl1).1
    refine ⟨_, run_beginRound hl1 rfl, ?_⟩
    have hl2 : (V1.putObj (w.heap.size + 1) (.loop rec2)).heap[w.heap.size + 1]? = some (.loop rec2) := World.putObj_heap_same hlt1
    have hd2 : (V1.putObj (w.heap.size + 1) (.loop rec2)).heap[w.heap.size]? = some (.deferred (some [])) := (World.putObj_heap_other (by omega)).trans hd1
    refine wpIn_mono (hbody _ pre x a' _ (hI.putObj _ hi1 (by omega) hl1 rfl) ((hPi pre x).putObj (s := ()) _ hp1 (by omega) hl1 rfl) ((hAx x a').putObj (s := ()) _ hax (by omega) hl1 rfl) (by have := hkf.size; exact Nat.le_trans (show w.heap.size + 2 + m ≤ V1.heap.size by omega) (grownBy_putObj' V1 (w.heap.size + 1) (.loop rec2)).size) hlen) ?_
    rintro e a3 V3 he
    cases e with
    | normal =>
      obtain ⟨k1, k2, k3⟩ := he
      have hl3 := k1.same _ _ (by omega) hl2 rfl
      refine ⟨_, _, run_endRound (P := P) none hl3, ⟨rfl, ⟨⟨hI.putObj _ k3 (by omega) hl3 rfl, World.putObj_heap_same (Array.getElem?_eq_some_iff.1 hl3).1⟩, (World.putObj_heap_other (by omega)).trans (k1.same _ _ (Nat.le_refl _) hd2 rfl)⟩,
        hKt hkp.1 (hKt (hKb _ _ _ (by omega)) (hKt k2.1 (hKb _ _ _ (by omega)))), ?_, ?_⟩⟩
      · rw [hs1]; exact (keepsFrom_mono hkf (by omega)).trans ((keepsFrom_putObj _ _ (by omega)).trans ((keepsFrom_mono k1 (by omega)).trans (keepsFrom_putObj _ _ (by omega))))
      · rw [hs1]; exact hkp.2.trans ((Win.putObj _ _ (by omega)).trans (k2.2.trans (Win.putObj _ _ (by omega))))
    | ret => exact he.elim
    | exit id => exact he.elim
    | goto t => exact he.elim
    | panic ch => exact he.elim
    | outgrown => exact he.elim
  case behind =>
    rintro e W2 ⟨⟨v, rfl⟩, xs, hS, ⟨hi, hl⟩, hd⟩
    exact ⟨none, _, run_endLoop (P := P) hl (by simp [rec1]), hdone _ xs _ (Nat.le_refl _) hS (hI.putObj _ hi (by omega) hl rfl) ((World.putObj_heap_other (by omega)).trans hd)⟩
/-- A function that yields encs 0, encs 1, .., N of them, in their order. -/
def SeqN (F : Fence) (n : Nat) (P : Program) (g : Nat) (lb : Array Value) (encs : Nat → Array Value) (Kp : World → World → Prop) (m N : Nat) (w : World) : Prop :=
  ∀ (l : Nat) (J : Nat → World → Prop) (W : World), Below w.heap.size w W → OwnM W.heap.size m J →
    (∀ k V, J k V → W.heap.size + m ≤ V.heap.size → k < N → YieldAt F (n - 1) P l (encs k) V fun e V' => e = .returned (.bool true) ∧ J (k + 1) V' ∧ Kp V V' ∧ KeepsFrom W.heap.size V V' ∧ Win W.heap.size m V V') →
    J 0 W → CallsIn F n P g (#[.func (.yield l) #[] #[]] ++ lb) W fun e W' => (∃ v, e = .returned v) ∧ J N W'
theorem SeqN.toP {F : Fence} {n : Nat} {P : Program} {g : Nat} {lb : Array Value} {encs : Nat → Array Value} {Kp : World → World → Prop} {m N : Nat} {w : World} (h : SeqN F n P g lb encs Kp m N w) :
    SeqP F n P g lb encs Kp (fun pre x _ => pre = List.range pre.length ∧ x = pre.length ∧ x < N) (fun xs => xs = List.range N) m N w := fun l J W hb hJ hY h0 => by
  refine (h l (fun k V => J (List.range k) V) W hb (fun s A B row hs hg hr => hJ _ A B row hs hg hr) (fun k V hj hVs hk => ?_) h0).mono ?_
  · refine (hY (List.range k) k V hj ⟨by simp, by simp, hk⟩ hVs (by simpa using hk)).mono ?_
    rintro e V' ⟨h1, h2, h3⟩
    exact ⟨h1, by rw [List.range_succ]; exact h2, h3⟩
  · rintro e W' ⟨h1, h2⟩
    exact ⟨h1, _, rfl, h2⟩
theorem wpIn_rangeN {F : Fence} {n : Nat} {P : Program} {g : Operand} {ps : Array Tmp} {assign body : Code} {Q : Exit → Act → World → Prop} {a : Act} {w : World}
    (hro : F.round = none) (h1 : 1 ≤ n) {gf : Nat} {lb : Array Value} (hg : a.eval g = .func (.func gf) #[] lb) (hFg : F.fn gf) (eg : ∀ args w, (callFunc gf args).run P w = .ok (.enter gf args) w)
    {encs : Nat → Array Value} {Kp : World → World → Prop} {m N : Nat} {w0 : World} (hseq : SeqN F (n - 1) P gf lb encs Kp m N w0)
    (hKt : ∀ {A B C : World}, Kp A B → Kp B C → Kp A C) (hKb : ∀ (W : World) (l : Nat) (o' : Obj), w.heap.size ≤ l → Kp W (W.putObj l o')) (hb0 : Below w0.heap.size w0 w) (hps : ∀ x, (encs x).size = ps.size)
    (I : Nat → World → Prop) (hI : OwnM w.heap.size (m + 2) I) (h0 : I 0 w) (Ax : Nat → Act → World → Prop) (hAx : ∀ x a', OwnFrom w.heap.size (fun (_ : Unit) W => Ax x a' W))
    (hassign : ∀ (l k : Nat) (W : World) (K : Act → World → Prop), I k W → k < N → (∀ a' W', KeepsFrom w.heap.size W W' → Kp W W' ∧ Win (w.heap.size + 2) m W W' → I k W' → Ax k a' W' → K a' W') →
      assign.wpIn (F.inRound l) (n - 1 - 1) P (Exit.then K (fun _ _ _ => False)) { tmps := (ps.zip (encs k)).foldl (fun t (p, v) => t.setIfInBounds p v) a.tmps, defers := [] } W)
    (hbody : ∀ (l k : Nat) (a' : Act) (W : World), I k W → Ax k a' W → w.heap.size + 2 + m ≤ W.heap.size → k < N → body.wpIn (F.inRound l) (n - 1 - 1) P (onward w.heap.size (fun A A' => Kp A A' ∧ Win (w.heap.size + 2) m A A') (fun (_ : List Nat) W' => I (k + 1) W') [] W) a' W)
    (hdone : ∀ (D : Nat) (W : World), w.heap.size ≤ D → I N W → W.heap[D]? = some (.deferred (some [])) → Q .normal { a with defers := { target := .collected D, args := #[] } :: a.defers } W) :
    (Code.rangeFunc g ps assign body).wpIn F n P Q a w := by
  refine wpIn_rangeP hro h1 hg hFg eg hseq.toP (fun h k => hKt h k) hKb hb0 hps (fun pre W => pre = List.range pre.length ∧ I pre.length W)
    (fun s A B row hs hg' hr => ⟨hs.1, hI _ A B row hs.2 hg' hr⟩) (fun pre x s A B row hs _ _ => hs) ⟨rfl, h0⟩ Ax hAx ?_ ?_ ?_
  · rintro l pre x W K ⟨hp, hi⟩ ⟨_, rfl, hlt⟩ hK
    exact hassign l pre.length W K hi hlt (fun a' W' k1 k2 k3 k4 => hK a' W' k1 k2 ⟨hp, k3⟩ ⟨hp, rfl, hlt⟩ k4)
  · rintro l pre x a' W ⟨hp, hi⟩ ⟨_, rfl, hlt⟩ hax hVs _
    refine wpIn_mono (hbody l pre.length a' W hi hax hVs hlt) ?_
    rintro e a2 W2 he
    cases e with
    | normal =>
      refine ⟨he.1, he.2.1, ?_, ?_⟩
      · rw [List.length_append, show pre.length + [pre.length].length = pre.length + 1 from rfl, List.range_succ, ← hp]
      · rw [List.length_append]; exact he.2.2
    | ret => exact he.elim
    | exit id => exact he.elim
    | goto t => exact he.elim
    | panic ch => exact he.elim
    | outgrown => exact he.elim
  · rintro D xs W hD hS ⟨_, hi⟩ hd
    rw [hS, List.length_range] at hi
    exact hdone D W hD hi hd
end Go.Proofs.Yteioaeceobgbdaa
