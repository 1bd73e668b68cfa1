/- A loop over a function whose items come with a fact of the memory in which they are yielded; its body always goes on | a loop over a function, whose items' blocks of cells stay | bands: the order in mathematics | regions that draw, within a round of a loop over a function; slices of lists | bands: pieces -/
import Derived.Test.YtgdndcbcdoogpaaDoorBase
import Derived.RangeFuncNested
import Derived.RangeFuncBound
import Derived.RangeFuncCalls
import Derived.RangeFuncLeaves
import Derived.Shelf.Abstract
import Derived.Shelf.RegionOpen
import Derived.OwnWalkIn
import Derived.TacticsInMore
import Derived.LoopNIn
import Derived.LoopIn
import Derived.Test.YtgdndcbcdoogpaaDoorInt
import Derived.Test.YtgdndcbcdoogpaaDoorGc
import Derived.Deep.AppendLies
import Derived.Deep.RegionLaw
import Derived.Laws.CopyOwn
import Derived.Deep.QuietTactic
import Derived.BigQuiet
import Derived.StillTailTactics
namespace Go.Proofs.YtgdndcbcdoogpaaDoor
open Go.RowKit Go.Shelf

/-- I stands though blocks from B on change that hold no cells, or whichever of the m blocks at B: those that a function lays ahead of its first item. -/
def OwnM {β : Type} (B m : Nat) (I : β → World → Prop) : Prop :=
  ∀ s A A' row, I s A → A.grownBy A' row → (∀ r, row = some r → B ≤ r ∧ (r < B + m ∨ ∃ o : Obj, A.heap[r]? = some o ∧ o.isCells = false)) → I s A'
theorem OwnM.from {β : Type} {B m : Nat} {I : β → World → Prop} (h : OwnM B m I) : OwnFrom B I := fun s A A' row hs hg hr => h s A A' row hs hg fun r e => ⟨(hr r e).1, .inr (hr r e).2⟩
/-- The m blocks at b lie as they lay. -/
def Win (b m : Nat) (A A' : World) : Prop := ∀ j, b ≤ j → j < b + m → A'.heap[j]? = A.heap[j]?
theorem Win.refl (b m : Nat) (A : World) : Win b m A A := fun _ _ _ => rfl
theorem Win.trans {b m : Nat} {A B C : World} (h : Win b m A B) (k : Win b m B C) : Win b m A C := fun j h1 h2 => (k j h1 h2).trans (h j h1 h2)
theorem Win.putObj {b m l : Nat} (A : World) (o : Obj) (h : l < b) : Win b m A (A.putObj l o) := fun j h1 _ => World.putObj_heap_other (by omega)
theorem keepsFrom_putObj {b l : Nat} (A : World) (o : Obj) (h : l < b) : KeepsFrom b A (A.putObj l o) := ⟨(grownBy_putObj' A l o).size, fun k o' hk hA _ => (World.putObj_heap_other (by omega)).trans hA⟩
theorem keepsFrom_mono {b c : Nat} {A A' : World} (h : KeepsFrom b A A') (hb : b ≤ c) : KeepsFrom c A A' := ⟨h.size, fun k o hk hA ho => h.same k o (by omega) hA ho⟩
/-- What such a function does: with each item it hands over what Pi says of the item there and then. -/
def SeqP {α : Type} (F : Fence) (n : Nat) (P : Program) (g : Nat) (lb : Array Value) (encs : α → Array Value) (Kp : World → World → Prop) (Pi : List α → α → World → Prop) (S : List α → Prop) (m N : Nat) (w : World) : Prop :=
  ∀ (l : Nat) (J : List α → World → Prop) (W : World), Below w.heap.size w W → OwnM W.heap.size m J →
    (∀ pre x V, J pre V → Pi pre x V → W.heap.size + m ≤ V.heap.size → pre.length < N → YieldAt F (n - 1) P l (encs x) V fun e V' => e = .returned (.bool true) ∧ J (pre ++ [x]) V' ∧ Kp V V' ∧ KeepsFrom W.heap.size V V' ∧ Win W.heap.size m V V') →
    J [] W → CallsIn F n P g (#[.func (.yield l) #[] #[]] ++ lb) W fun e W' => (∃ v, e = .returned v) ∧ ∃ xs, S xs ∧ J xs W'
/-- How a round's body ends: it goes on. -/
def onward {α : Type} (B : Nat) (Kp : World → World → Prop) (I : List α → World → Prop) (xs : List α) (W : World) : Exit → Act → World → Prop
  | .normal, _, W' => KeepsFrom B W W' ∧ Kp W W' ∧ I xs W'
  | _, _, _ => False
theorem wpIn_rangeP {F : Fence} {n : Nat} {P : Program} {α : Type} {g : Operand} {ps : Array Tmp} {assign body : Code} {Q : Exit → Act → World → Prop} {a : Act} {w : World}
    (hro : F.round = none) (h1 : 1 ≤ n) {gf : Nat} {lb : Array Value} (hg : a.eval g = .func (.func gf) #[] lb) (hFg : F.fn gf) (eg : ∀ args w, (callFunc gf args).run P w = .ok (.enter gf args) w)
    {encs : α → Array Value} {Kp : World → World → Prop} {Pi : List α → α → World → Prop} {S : List α → Prop} {m N : Nat} {w0 : World} (hseq : SeqP F (n - 1) P gf lb encs Kp Pi S m N w0)
    (hKt : ∀ {A B C : World}, Kp A B → Kp B C → Kp A C) (hKb : ∀ (W : World) (l : Nat) (o' : Obj), w.heap.size ≤ l → Kp W (W.putObj l o')) (hb0 : Below w0.heap.size w0 w) (hps : ∀ x, (encs x).size = ps.size)
    (I : List α → World → Prop) (hI' : OwnM w.heap.size (m + 2) I) (hPi : ∀ pre x, OwnFrom w.heap.size (fun (_ : Unit) W => Pi pre x W)) (h0 : I [] w) (Ax : α → Act → World → Prop) (hAx : ∀ x a', OwnFrom w.heap.size (fun (_ : Unit) W => Ax x a' W))
    (hassign : ∀ (l : Nat) (pre : List α) (x : α) (W : World) (K : Act → World → Prop), I pre W → Pi pre x W → (∀ a' W', KeepsFrom w.heap.size W W' → Kp W W' ∧ Win (w.heap.size + 2) m W W' → I pre W' → Pi pre x W' → Ax x a' W' → K a' W') →
      assign.wpIn (F.inRound l) (n - 1 - 1) P (Exit.then K (fun _ _ _ => False)) { tmps := (ps.zip (encs x)).foldl (fun t (p, v) => t.setIfInBounds p v) a.tmps, defers := [] } W)
    (hbody : ∀ (l : Nat) (pre : List α) (x : α) (a' : Act) (W : World), I pre W → Pi pre x W → Ax x a' W → w.heap.size + 2 + m ≤ W.heap.size → pre.length < N → body.wpIn (F.inRound l) (n - 1 - 1) P (onward w.heap.size (fun A A' => Kp A A' ∧ Win (w.heap.size + 2) m A A') I (pre ++ [x]) W) a' W)
    (hdone : ∀ (D : Nat) (xs : List α) (W : World), w.heap.size ≤ D → S xs → I xs W → W.heap[D]? = some (.deferred (some [])) → Q .normal { a with defers := { target := .collected D, args := #[] } :: a.defers } W) :
    (Code.rangeFunc g ps assign body).wpIn F n P Q a w := by
  have hI := hI'.from
  refine wpIn_rangeFunc fun fn hfn => ?_
  rw [hro]
  -- the loop's record stands at w.heap.size + 1, the block of its deferred calls ahead of it
  let rec1 : Loop := { state := .ready, pending := none, fn, tmps := a.tmps, params := ps, assign, body, defers := w.heap.size }
  let rec2 : Loop := { rec1 with state := .busy }
  obtain ⟨W1, hW1⟩ : ∃ W1, W1 = (w.alloc (.deferred (some []))).alloc (.loop rec1) := ⟨_, rfl⟩
  have hs1 : W1.heap.size = w.heap.size + 1 + 1 := by rw [hW1, World.size_alloc, World.size_alloc]
  have hrec : W1.heap[w.heap.size + 1]? = some (.loop rec1) := by
    have := World.alloc_heap_new (w.alloc (.deferred (some []))) (.loop rec1)
    rwa [World.size_alloc, ← hW1] at this
  have hdef : W1.heap[w.heap.size]? = some (.deferred (some [])) := by
    rw [hW1]; exact (Below.heap_alloc _ _ _ (by simp)).trans (World.alloc_heap_new w _)
  have hstart : I [] W1 := by rw [hW1]; exact hI.alloc _ (hI.alloc _ h0)
  have hbel : Below w0.heap.size w0 W1 := by
    rw [hW1]; exact hb0.trans ((((Below.refl _ w).alloc (Nat.le_refl _) _).alloc (by simp) _).mono hb0.size)
  refine ⟨w.heap.size + 1, [{ target := .collected w.heap.size, args := #[] }], W1, { target := .fn (.func gf) lb, args := #[.func (.yield (w.heap.size + 1)) #[] #[]] }, W1, gf,
    #[.func (.yield (w.heap.size + 1)) #[] #[]] ++ lb, W1, by rw [hW1]; exact run_enterLoop_outer _ _ _ _ _, by simp only [resolve, hg]; simp [go_sem], fun f' hf' => ?_, by simp [invoke, go_sem, eg], fun _ => h1, ?_⟩
  · simp [Target.leads] at hf'; subst hf'; exact hFg
  refine (hseq (w.heap.size + 1) (fun pre W => (I pre W ∧ W.heap[w.heap.size + 1]? = some (.loop rec1)) ∧ W.heap[w.heap.size]? = some (.deferred (some []))) W1 hbel
    (fun s A B row ⟨⟨k1, k2⟩, k3⟩ hg' hr => ⟨⟨hI' s A B row k1 hg' (fun r e => ⟨by have := (hr r e).1; omega, (hr r e).2.imp (fun h => by omega) id⟩), (hg'.block _ (Array.getElem?_eq_some_iff.1 k2).1 (fun e => by have := (hr _ e.symm).1; omega)).trans k2⟩,
      (hg'.block _ (Array.getElem?_eq_some_iff.1 k3).1 (fun e => by have := (hr _ e.symm).1; omega)).trans k3⟩)
    ?round ⟨⟨hstart, hrec⟩, hdef⟩).mono ?behind
  case round =>
    rintro pre x V ⟨⟨hi, hl⟩, hd⟩ hp hVs hlen
    have hlt : w.heap.size + 1 < V.heap.size := (Array.getElem?_eq_some_iff.1 hl).1
    refine ⟨fn, _, assign, body, run_yield (P := P) (args := encs x) hl (hps x), roundIn_of_wpIn hfn (hassign _ pre x V _ hi hp fun a' V1 hkf hkp hi1 hp1 hax => ?_)⟩
    have hl1 : V1.heap[w.heap.size + 1]? = some (.loop rec1) := hkf.same _ _ (by omega) hl rfl
    have hd1 := hkf.same _ _ (Nat.le_refl _) hd rfl
    have hlt1 : w.heap.size + 1 < V1.heap.size := (Array.getElem?_eq_some_iff.1 hl1).1
    refine ⟨_, run_beginRound hl1 rfl, ?_⟩
    have hl2 : (V1.putObj (w.heap.size + 1) (.loop rec2)).heap[w.heap.size + 1]? = some (.loop rec2) := World.putObj_heap_same hlt1
    have hd2 : (V1.putObj (w.heap.size + 1) (.loop rec2)).heap[w.heap.size]? = some (.deferred (some [])) := (World.putObj_heap_other (by omega)).trans hd1
    refine wpIn_mono (hbody _ pre x a' _ (hI.putObj _ hi1 (by omega) hl1 rfl) ((hPi pre x).putObj (s := ()) _ hp1 (by omega) hl1 rfl) ((hAx x a').putObj (s := ()) _ hax (by omega) hl1 rfl) (by have := hkf.size; exact Nat.le_trans (show w.heap.size + 2 + m ≤ V1.heap.size by omega) (grownBy_putObj' V1 (w.heap.size + 1) (.loop rec2)).size) hlen) ?_
    rintro e a3 V3 he
    cases e with
    | normal =>
      obtain ⟨k1, k2, k3⟩ := he
      have hl3 := k1.same _ _ (by omega) hl2 rfl
      refine ⟨_, _, run_endRound (P := P) none hl3, ⟨rfl, ⟨⟨hI.putObj _ k3 (by omega) hl3 rfl, World.putObj_heap_same (Array.getElem?_eq_some_iff.1 hl3).1⟩, (World.putObj_heap_other (by omega)).trans (k1.same _ _ (Nat.le_refl _) hd2 rfl)⟩,
        hKt hkp.1 (hKt (hKb _ _ _ (by omega)) (hKt k2.1 (hKb _ _ _ (by omega)))), ?_, ?_⟩⟩
      · rw [hs1]; exact (keepsFrom_mono hkf (by omega)).trans ((keepsFrom_putObj _ _ (by omega)).trans ((keepsFrom_mono k1 (by omega)).trans (keepsFrom_putObj _ _ (by omega))))
      · rw [hs1]; exact hkp.2.trans ((Win.putObj _ _ (by omega)).trans (k2.2.trans (Win.putObj _ _ (by omega))))
    | ret => exact he.elim
    | exit id => exact he.elim
    | goto t => exact he.elim
    | panic ch => exact he.elim
    | outgrown => exact he.elim
  case behind =>
    rintro e W2 ⟨⟨v, rfl⟩, xs, hS, ⟨hi, hl⟩, hd⟩
    exact ⟨none, _, run_endLoop (P := P) hl (by simp [rec1]), hdone _ xs _ (Nat.le_refl _) hS (hI.putObj _ hi (by omega) hl rfl) ((World.putObj_heap_other (by omega)).trans hd)⟩
/-- A function that yields encs 0, encs 1, .., N of them, in their order. -/
def SeqN (F : Fence) (n : Nat) (P : Program) (g : Nat) (lb : Array Value) (encs : Nat → Array Value) (Kp : World → World → Prop) (m N : Nat) (w : World) : Prop :=
  ∀ (l : Nat) (J : Nat → World → Prop) (W : World), Below w.heap.size w W → OwnM W.heap.size m J →
    (∀ k V, J k V → W.heap.size + m ≤ V.heap.size → k < N → YieldAt F (n - 1) P l (encs k) V fun e V' => e = .returned (.bool true) ∧ J (k + 1) V' ∧ Kp V V' ∧ KeepsFrom W.heap.size V V' ∧ Win W.heap.size m V V') →
    J 0 W → CallsIn F n P g (#[.func (.yield l) #[] #[]] ++ lb) W fun e W' => (∃ v, e = .returned v) ∧ J N W'
theorem SeqN.toP {F : Fence} {n : Nat} {P : Program} {g : Nat} {lb : Array Value} {encs : Nat → Array Value} {Kp : World → World → Prop} {m N : Nat} {w : World} (h : SeqN F n P g lb encs Kp m N w) :
    SeqP F n P g lb encs Kp (fun pre x _ => pre = List.range pre.length ∧ x = pre.length ∧ x < N) (fun xs => xs = List.range N) m N w := fun l J W hb hJ hY h0 => by
  refine (h l (fun k V => J (List.range k) V) W hb (fun s A B row hs hg hr => hJ _ A B row hs hg hr) (fun k V hj hVs hk => ?_) h0).mono ?_
  · refine (hY (List.range k) k V hj ⟨by simp, by simp, hk⟩ hVs (by simpa using hk)).mono ?_
    rintro e V' ⟨h1, h2, h3⟩
    exact ⟨h1, by rw [List.range_succ]; exact h2, h3⟩
  · rintro e W' ⟨h1, h2⟩
    exact ⟨h1, _, rfl, h2⟩
theorem wpIn_rangeN {F : Fence} {n : Nat} {P : Program} {g : Operand} {ps : Array Tmp} {assign body : Code} {Q : Exit → Act → World → Prop} {a : Act} {w : World}
    (hro : F.round = none) (h1 : 1 ≤ n) {gf : Nat} {lb : Array Value} (hg : a.eval g = .func (.func gf) #[] lb) (hFg : F.fn gf) (eg : ∀ args w, (callFunc gf args).run P w = .ok (.enter gf args) w)
    {encs : Nat → Array Value} {Kp : World → World → Prop} {m N : Nat} {w0 : World} (hseq : SeqN F (n - 1) P gf lb encs Kp m N w0)
    (hKt : ∀ {A B C : World}, Kp A B → Kp B C → Kp A C) (hKb : ∀ (W : World) (l : Nat) (o' : Obj), w.heap.size ≤ l → Kp W (W.putObj l o')) (hb0 : Below w0.heap.size w0 w) (hps : ∀ x, (encs x).size = ps.size)
    (I : Nat → World → Prop) (hI : OwnM w.heap.size (m + 2) I) (h0 : I 0 w) (Ax : Nat → Act → World → Prop) (hAx : ∀ x a', OwnFrom w.heap.size (fun (_ : Unit) W => Ax x a' W))
    (hassign : ∀ (l k : Nat) (W : World) (K : Act → World → Prop), I k W → k < N → (∀ a' W', KeepsFrom w.heap.size W W' → Kp W W' ∧ Win (w.heap.size + 2) m W W' → I k W' → Ax k a' W' → K a' W') →
      assign.wpIn (F.inRound l) (n - 1 - 1) P (Exit.then K (fun _ _ _ => False)) { tmps := (ps.zip (encs k)).foldl (fun t (p, v) => t.setIfInBounds p v) a.tmps, defers := [] } W)
    (hbody : ∀ (l k : Nat) (a' : Act) (W : World), I k W → Ax k a' W → w.heap.size + 2 + m ≤ W.heap.size → k < N → body.wpIn (F.inRound l) (n - 1 - 1) P (onward w.heap.size (fun A A' => Kp A A' ∧ Win (w.heap.size + 2) m A A') (fun (_ : List Nat) W' => I (k + 1) W') [] W) a' W)
    (hdone : ∀ (D : Nat) (W : World), w.heap.size ≤ D → I N W → W.heap[D]? = some (.deferred (some [])) → Q .normal { a with defers := { target := .collected D, args := #[] } :: a.defers } W) :
    (Code.rangeFunc g ps assign body).wpIn F n P Q a w := by
  refine wpIn_rangeP hro h1 hg hFg eg hseq.toP (fun h k => hKt h k) hKb hb0 hps (fun pre W => pre = List.range pre.length ∧ I pre.length W)
    (fun s A B row hs hg' hr => ⟨hs.1, hI _ A B row hs.2 hg' hr⟩) (fun pre x s A B row hs _ _ => hs) ⟨rfl, h0⟩ Ax hAx ?_ ?_ ?_
  · rintro l pre x W K ⟨hp, hi⟩ ⟨_, rfl, hlt⟩ hK
    exact hassign l pre.length W K hi hlt (fun a' W' k1 k2 k3 k4 => hK a' W' k1 k2 ⟨hp, k3⟩ ⟨hp, rfl, hlt⟩ k4)
  · rintro l pre x a' W ⟨hp, hi⟩ ⟨_, rfl, hlt⟩ hax hVs _
    refine wpIn_mono (hbody l pre.length a' W hi hax hVs hlt) ?_
    rintro e a2 W2 he
    cases e with
    | normal =>
      refine ⟨he.1, he.2.1, ?_, ?_⟩
      · rw [List.length_append, show pre.length + [pre.length].length = pre.length + 1 from rfl, List.range_succ, ← hp]
      · rw [List.length_append]; exact he.2.2
    | ret => exact he.elim
    | exit id => exact he.elim
    | goto t => exact he.elim
    | panic ch => exact he.elim
    | outgrown => exact he.elim
  · rintro D xs W hD hS ⟨_, hi⟩ hd
    rw [hS, List.length_range] at hi
    exact hdone D W hD hi hd
end Go.Proofs.YtgdndcbcdoogpaaDoor

namespace Go.Proofs.YtgdndcbcdoogpaaDoor
open Go.RowKit Go.Shelf

theorem wpIn_rangeQ {F : Fence} {n : Nat} {P : Program} {α : Type} {g : Operand} {ps : Array Tmp} {assign body : Code} {Q : Exit → Act → World → Prop} {a : Act} {w : World}
    (hro : F.round = none) (h1 : 1 ≤ n) {gf : Nat} {lb : Array Value} (hg : a.eval g = .func (.func gf) #[] lb) (hFg : F.fn gf) (eg : ∀ args w, (callFunc gf args).run P w = .ok (.enter gf args) w)
    {encs : α → Array Value} {Kp : World → World → Prop} {Pi : List α → α → World → Prop} {S : List α → Prop} {m N : Nat} {w0 : World} (hseq : SeqP F (n - 1) P gf lb encs Kp Pi S m N w0)
    (hKt : ∀ {A B C : World}, Kp A B → Kp B C → Kp A C) (hKb : ∀ (W : World) (l : Nat) (o o' : Obj), w.heap.size ≤ l → W.heap[l]? = some o → o.isCells = false → Kp W (W.putObj l o')) (hb0 : Below w0.heap.size w0 w) (hps : ∀ x, (encs x).size = ps.size)
    (I : List α → World → Prop) (hI' : OwnM w.heap.size (m + 2) I) (hPi : ∀ pre x, OwnFrom w.heap.size (fun (_ : Unit) W => Pi pre x W)) (h0 : I [] w) (Ax : α → Act → World → Prop) (hAx : ∀ x a', OwnFrom w.heap.size (fun (_ : Unit) W => Ax x a' W))
    (hassign : ∀ (l : Nat) (pre : List α) (x : α) (W : World) (K : Act → World → Prop), I pre W → Pi pre x W → (∀ a' W', KeepsFrom w.heap.size W W' → Kp W W' ∧ Win (w.heap.size + 2) m W W' → I pre W' → Pi pre x W' → Ax x a' W' → K a' W') →
      assign.wpIn (F.inRound l) (n - 1 - 1) P (Exit.then K (fun _ _ _ => False)) { tmps := (ps.zip (encs x)).foldl (fun t (p, v) => t.setIfInBounds p v) a.tmps, defers := [] } W)
    (hbody : ∀ (l : Nat) (pre : List α) (x : α) (a' : Act) (W : World), I pre W → Pi pre x W → Ax x a' W → w.heap.size + 2 + m ≤ W.heap.size → pre.length < N → body.wpIn (F.inRound l) (n - 1 - 1) P (onward w.heap.size (fun A A' => Kp A A' ∧ Win (w.heap.size + 2) m A A') I (pre ++ [x]) W) a' W)
    (hdone : ∀ (D : Nat) (xs : List α) (W : World), w.heap.size ≤ D → S xs → I xs W → W.heap[D]? = some (.deferred (some [])) → Q .normal { a with defers := { target := .collected D, args := #[] } :: a.defers } W) :
    (Code.rangeFunc g ps assign body).wpIn F n P Q a w := by
  have hI := hI'.from
  refine wpIn_rangeFunc fun fn hfn => ?_
  rw [hro]
  -- the loop's record stands at w.heap.size + 1, the block of its deferred calls ahead of it
  let rec1 : Loop := { state := .ready, pending := none, fn, tmps := a.tmps, params := ps, assign, body, defers := w.heap.size }
  let rec2 : Loop := { rec1 with state := .busy }
  obtain ⟨W1, hW1⟩ : ∃ W1, W1 = (w.alloc (.deferred (some []))).alloc (.loop rec1) := ⟨_, rfl⟩
  have hs1 : W1.heap.size = w.heap.size + 1 + 1 := by rw [hW1, World.size_alloc, World.size_alloc]
  have hrec : W1.heap[w.heap.size + 1]? = some (.loop rec1) := by
    have := World.alloc_heap_new (w.alloc (.deferred (some []))) (.loop rec1)
    rwa [World.size_alloc, ← hW1] at this
  have hdef : W1.heap[w.heap.size]? = some (.deferred (some [])) := by
    rw [hW1]; exact (Below.heap_alloc _ _ _ (by simp)).trans (World.alloc_heap_new w _)
  have hstart : I [] W1 := by rw [hW1]; exact hI.alloc _ (hI.alloc _ h0)
  have hbel : Below w0.heap.size w0 W1 := by
    rw [hW1]; exact hb0.trans ((((Below.refl _ w).alloc (Nat.le_refl _) _).alloc (by simp) _).mono hb0.size)
  refine ⟨w.heap.size + 1, [{ target := .collected w.heap.size, args := #[] }], W1, { target := .fn (.func gf) lb, args := #[.func (.yield (w.heap.size + 1)) #[] #[]] }, W1, gf,
    #[.func (.yield (w.heap.size + 1)) #[] #[]] ++ lb, W1, by rw [hW1]; exact run_enterLoop_outer _ _ _ _ _, by simp only [resolve, hg]; simp [go_sem], fun f' hf' => ?_, by simp [invoke, go_sem, eg], fun _ => h1, ?_⟩
  · simp [Target.leads] at hf'; subst hf'; exact hFg
  refine (hseq (w.heap.size + 1) (fun pre W => (I pre W ∧ W.heap[w.heap.size + 1]? = some (.loop rec1)) ∧ W.heap[w.heap.size]? = some (.deferred (some []))) W1 hbel
    (fun s A B row ⟨⟨k1, k2⟩, k3⟩ hg' hr => ⟨⟨hI' s A B row k1 hg' (fun r e => ⟨by have := (hr r e).1; omega, (hr r e).2.imp (fun h => by omega) id⟩), (hg'.block _ (Array.getElem?_eq_some_iff.1 k2).1 (fun e => by have := (hr _ e.symm).1; omega)).trans k2⟩,
      (hg'.block _ (Array.getElem?_eq_some_iff.1 k3).1 (fun e => by have := (hr _ e.symm).1; omega)).trans k3⟩)
    ?round ⟨⟨hstart, hrec⟩, hdef⟩).mono ?behind
  case round =>
    rintro pre x V ⟨⟨hi, hl⟩, hd⟩ hp hVs hlen
    have hlt : w.heap.size + 1 < V.heap.size := (Array.getElem?_eq_some_iff.1 hl).1
    refine ⟨fn, _, assign, body, run_yield (P := P) (args := encs x) hl (hps x), roundIn_of_wpIn hfn (hassign _ pre x V _ hi hp fun a' V1 hkf hkp hi1 hp1 hax => ?_)⟩
    have hl1 : V1.heap[w.heap.size + 1]? = some (.loop rec1) := hkf.same _ _ (by omega) hl rfl
    have hd1 := hkf.same _ _ (Nat.le_refl _) hd rfl
    have hlt1 : w.heap.size + 1 < V1.heap.size := (Array.getElem?_eq_some_iff.1 hl1).1
    refine ⟨_, run_beginRound hl1 rfl, ?_⟩
    have hl2 : (V1.putObj (w.heap.size + 1) (.loop rec2)).heap[w.heap.size + 1]? = some (.loop rec2) := World.putObj_heap_same hlt1
    have hd2 : (V1.putObj (w.heap.size + 1) (.loop rec2)).heap[w.heap.size]? = some (.deferred (some [])) := (World.putObj_heap_other (by omega)).trans hd1
    refine wpIn_mono (hbody _ pre x a' _ (hI.putObj _ hi1 (by omega) hl1 rfl) ((hPi pre x).putObj (s := ()) _ hp1 (by omega) hl1 rfl) ((hAx x a').putObj (s := ()) _ hax (by omega) hl1 rfl) (by have := hkf.size; exact Nat.le_trans (show w.heap.size + 2 + m ≤ V1.heap.size by omega) (grownBy_putObj' V1 (w.heap.size + 1) (.loop rec2)).size) hlen) ?_
    rintro e a3 V3 he
    cases e with
    | normal =>
      obtain ⟨k1, k2, k3⟩ := he
      have hl3 := k1.same _ _ (by omega) hl2 rfl
      refine ⟨_, _, run_endRound (P := P) none hl3, ⟨rfl, ⟨⟨hI.putObj _ k3 (by omega) hl3 rfl, World.putObj_heap_same (Array.getElem?_eq_some_iff.1 hl3).1⟩, (World.putObj_heap_other (by omega)).trans (k1.same _ _ (Nat.le_refl _) hd2 rfl)⟩,
        hKt hkp.1 (hKt (hKb _ _ _ _ (by omega) hl1 rfl) (hKt k2.1 (hKb _ _ _ _ (by omega) hl3 rfl))), ?_, ?_⟩⟩
      · rw [hs1]; exact (keepsFrom_mono hkf (by omega)).trans ((keepsFrom_putObj _ _ (by omega)).trans ((keepsFrom_mono k1 (by omega)).trans (keepsFrom_putObj _ _ (by omega))))
      · rw [hs1]; exact hkp.2.trans ((Win.putObj _ _ (by omega)).trans (k2.2.trans (Win.putObj _ _ (by omega))))
    | ret => exact he.elim
    | exit id => exact he.elim
    | goto t => exact he.elim
    | panic ch => exact he.elim
    | outgrown => exact he.elim
  case behind =>
    rintro e W2 ⟨⟨v, rfl⟩, xs, hS, ⟨hi, hl⟩, hd⟩
    exact ⟨none, _, run_endLoop (P := P) hl (by simp [rec1]), hdone _ xs _ (Nat.le_refl _) hS (hI.putObj _ hi (by omega) hl rfl) ((World.putObj_heap_other (by omega)).trans hd)⟩
/-- All blocks of cells stay but those of R. -/
def KpC (R : Nat → Prop) (A A' : World) : Prop := A.heap.size ≤ A'.heap.size ∧ ∀ k c t f, ¬ R k → A.heap[k]? = some (.cells c t f) → A'.heap[k]? = some (.cells c t f)
theorem KpC.trans {R : Nat → Prop} {A B C : World} (h : KpC R A B) (k : KpC R B C) : KpC R A C := ⟨Nat.le_trans h.1 k.1, fun i c t f hR hi => k.2 i c t f hR (h.2 i c t f hR hi)⟩
theorem KpC.refl (R : Nat → Prop) (A : World) : KpC R A A := ⟨Nat.le_refl _, fun _ _ _ _ _ h => h⟩
theorem Upd.kpC {S R : Nat → Prop} {A B : World} (h : Upd S A B) (hs : ∀ k, S k → k < A.heap.size → R k) : KpC R A B := ⟨h.size, fun k _ _ _ hR hk => h.heap hk (fun hS => hR (hs k hS (Array.getElem?_eq_some_iff.1 hk).1))⟩
theorem kpC_putObj {R : Nat → Prop} {W : World} {l : Nat} {o o' : Obj} (h : W.heap[l]? = some o) (ho : o.isCells = false) : KpC R W (W.putObj l o') :=
  ⟨(grownBy_putObj' W l o').size, fun k c t f _ hk => (World.putObj_heap_other (fun e => by subst e; rw [h] at hk; cases hk; cases ho)).trans hk⟩
theorem KpC.cell {R : Nat → Prop} {A B : World} (h : KpC R A B) {p : Addr} {v : Value} (hR : ¬ R p.block) (hc : A.cell? p = some v) : B.cell? p = some v := by
  unfold World.cell? at hc ⊢
  cases hb : A.heap[p.block]? with
  | none => rw [hb] at hc; simp at hc
  | some o =>
    rw [hb] at hc
    cases o with
    | cells c t f => rw [h.2 _ _ _ _ hR hb]; exact hc
    | _ => simp at hc
theorem Ints.kpC {R : Nat → Prop} {A B : World} {v : Value} {xs : List Int} (h : Ints A v xs) (k : KpC R A B) (hR : xs ≠ [] → ∀ b, v.ownBlock = some b → ¬ R b) : Ints B v xs := by
  obtain ⟨hb, a, cap, rfl, hc, h3⟩ := h
  refine ⟨hb, a, cap, rfl, hc, ?_⟩
  rcases h3 with h3 | ⟨b, off, rfl, h3⟩
  · exact .inl h3
  · exact .inr ⟨b, off, rfl, fun j x hx => k.cell (hR (by rintro rfl; simp at hx) b rfl) (h3 j x hx)⟩
end Go.Proofs.YtgdndcbcdoogpaaDoor

namespace Go.Proofs.YtgdndcbcdoogpaaDoor
open Go.RowKit Go.Shelf

/-- the k-th block's piece of the j-th band of the i-th group -/
def pcA (ln : Int) (ws gs : List Int) (i j k : Nat) : Int × Int := (ln * (spT gs i + k) + spT ws j, ln * (spT gs i + k) + spT ws (j + 1))
def pcJ (ln : Int) (ws gs : List Int) (i j : Nat) : List (Int × Int) := (List.range (gs.getD i 0).toNat).map fun k => pcA ln ws gs i j k
def pcI (ln : Int) (ws gs : List Int) (i : Nat) : List (Int × Int) := (List.range ws.length).flatMap fun j => pcJ ln ws gs i j
def pcL (ln : Int) (ws gs : List Int) : List (Int × Int) := (List.range gs.length).flatMap fun i => pcI ln ws gs i
/-- the positions of a piece -/
def upI (x : Int × Int) : List Int := (List.range (x.2 - x.1).toNat).map fun (t : Nat) => x.1 + t
/-- the pieces, and the order -/
def pcs (s : Bool) (gs : List Int) : List (Int × Int) := pcL (dLn s) (dW s) (dG s gs)
def plI (s : Bool) (gs : List Int) : List Int := (pcs s gs).flatMap upI
theorem fm_prefix {α : Type} (g : Nat → List α) {i n : Nat} (h : i < n) {a : List α} (ha : a <+: g i) : (List.range i).flatMap g ++ a <+: (List.range n).flatMap g := by
  have e : (List.range (i + 1)).flatMap g = (List.range i).flatMap g ++ g i := by rw [List.range_succ, List.flatMap_append]; simp
  have h1 : (List.range i).flatMap g ++ a <+: (List.range (i + 1)).flatMap g := by rw [e]; exact (List.prefix_append_right_inj _).2 ha
  refine h1.trans ?_
  obtain ⟨d, rfl⟩ : ∃ d, n = i + 1 + d := ⟨n - (i + 1), by omega⟩
  rw [List.range_add (n := i + 1), List.flatMap_append]
  exact List.prefix_append _ _
theorem map_prefix {α : Type} (g : Nat → α) {i n : Nat} (h : i < n) : (List.range i).map g ++ [g i] <+: (List.range n).map g := by
  have e : (List.range (i + 1)).map g = (List.range i).map g ++ [g i] := by rw [List.range_succ, List.map_append]; simp
  rw [← e]
  obtain ⟨d, rfl⟩ : ∃ d, n = i + 1 + d := ⟨n - (i + 1), by omega⟩
  rw [List.range_add (n := i + 1), List.map_append]
  exact List.prefix_append _ _
/-- all compositions of a number -/
def cmp : Nat → List (List Int)
  | 0 => [[]]
  | n + 1 => (cmp n).flatMap fun l => match l with
    | [] => [[1]]
    | b :: t => [1 :: b :: t, (b + 1) :: t]
theorem mem_cmp : ∀ (n : Nat) (gs : List Int), (∀ b ∈ gs, 1 ≤ b) → gs.sum = (n : Int) → gs ∈ cmp n
  | 0, [], _, _ => by simp [cmp]
  | 0, b :: t, h, hs => by
    exfalso
    have h1 := h b (List.mem_cons_self ..)
    have h2 : 0 ≤ t.sum := by
      clear hs h1
      have h' : ∀ x ∈ t, 1 ≤ x := fun x hx => h x (List.mem_cons_of_mem _ hx)
      clear h
      induction t with
      | nil => simp
      | cons y u ih =>
        have := ih (fun x hx => h' x (List.mem_cons_of_mem _ hx))
        have := h' y (List.mem_cons_self ..)
        rw [List.sum_cons]; omega
    rw [List.sum_cons] at hs
    omega
  | n + 1, [], _, hs => by simp at hs; omega
  | n + 1, b :: t, h, hs => by
    have h1 := h b (List.mem_cons_self ..)
    have ht : ∀ x ∈ t, 1 ≤ x := fun x hx => h x (List.mem_cons_of_mem _ hx)
    rw [List.sum_cons] at hs
    unfold cmp
    rw [List.mem_flatMap]
    by_cases hb : b = 1
    · subst hb
      refine ⟨t, mem_cmp n t ht (by omega), ?_⟩
      cases t with
      | nil => simp
      | cons y u => simp
    · refine ⟨(b - 1) :: t, mem_cmp n _ ?_ ?_, ?_⟩
      · intro x hx
        rcases List.mem_cons.1 hx with rfl | hx
        · omega
        · exact ht x hx
      · rw [List.sum_cons]; omega
      · simp
def divs : List (Bool × List Int) := (false, []) :: (cmp 8).map fun l => (true, l)
theorem mem_divs {s : Bool} {gs : List Int} (h : isD s gs = true) : (s, gs) ∈ divs := by
  unfold divs
  cases s with
  | false =>
    have : gs = [] := by cases gs with
      | nil => rfl
      | cons _ _ => cases h
    rw [this]; exact List.mem_cons_self ..
  | true =>
    have h' : isG 8 gs = true := h
    obtain ⟨h1, h2⟩ := isG_iff.1 h'
    exact List.mem_cons_of_mem _ (List.mem_map.2 ⟨gs, mem_cmp 8 gs h1 h2, rfl⟩)
theorem by_divs {p : Bool → List Int → Bool} (hp : (divs.all fun x => p x.1 x.2) = true) {s : Bool} {gs : List Int} (h : isD s gs = true) : p s gs = true :=
  List.all_eq_true.1 hp _ (mem_divs h)
/-- the pieces lie within a frame -/
theorem pcs_bd {s : Bool} {gs : List Int} (h : isD s gs = true) : ∀ x ∈ pcs s gs, 0 ≤ x.1 ∧ x.1 ≤ x.2 ∧ x.2 ≤ 128 := by
  have := by_divs (p := fun s gs => (pcs s gs).all fun x => decide (0 ≤ x.1 ∧ x.1 ≤ x.2 ∧ x.2 ≤ 128)) (by decide +kernel) h
  intro x hx
  exact of_decide_eq_true (List.all_eq_true.1 this x hx)
def once (m : Nat) : List Int → Bool
  | [] => true
  | p :: t => decide (0 ≤ p ∧ p < 128) && !m.testBit p.toNat && once (m ||| 2 ^ p.toNat) t
def maskF (m : Nat) : List Int → Nat
  | [] => m
  | p :: t => maskF (m ||| 2 ^ p.toNat) t
theorem plI_dec {s : Bool} {gs : List Int} (h : isD s gs = true) : (plI s gs).length = 128 ∧ once 0 (plI s gs) = true ∧ maskF 0 (plI s gs) = 2 ^ 128 - 1 := by
  have := by_divs (p := fun s gs => decide ((plI s gs).length = 128 ∧ once 0 (plI s gs) = true ∧ maskF 0 (plI s gs) = 2 ^ 128 - 1)) (by decide +kernel) h
  exact of_decide_eq_true this
theorem once_bd : ∀ {l : List Int} {m : Nat}, once m l = true → l.Nodup ∧ ∀ p ∈ l, (0 ≤ p ∧ p < 128) ∧ m.testBit p.toNat = false
  | [], m, _ => ⟨List.nodup_nil, fun p hp => by cases hp⟩
  | p :: t, m, h => by
    unfold once at h
    simp only [Bool.and_eq_true, decide_eq_true_eq, Bool.not_eq_true'] at h
    obtain ⟨⟨h1, h2⟩, h3⟩ := h
    obtain ⟨i1, i2⟩ := once_bd h3
    refine ⟨List.nodup_cons.2 ⟨fun hp => ?_, i1⟩, fun q hq => ?_⟩
    · have := (i2 p hp).2
      rw [Nat.testBit_or, Nat.testBit_two_pow_self] at this
      simp at this
    · rcases List.mem_cons.1 hq with rfl | hq
      · exact ⟨h1, h2⟩
      · obtain ⟨j1, j2⟩ := i2 q hq
        rw [Nat.testBit_or] at j2
        exact ⟨j1, (Bool.or_eq_false_iff.1 j2).1⟩
theorem maskF_mem : ∀ {l : List Int} {m i : Nat}, (∀ p ∈ l, 0 ≤ p) → (maskF m l).testBit i = true → m.testBit i = true ∨ (i : Int) ∈ l
  | [], m, i, _, h => .inl h
  | p :: t, m, i, h0, h => by
    unfold maskF at h
    rcases maskF_mem (fun q hq => h0 q (List.mem_cons_of_mem _ hq)) h with h | h
    · rw [Nat.testBit_or, Bool.or_eq_true] at h
      rcases h with h | h
      · exact .inl h
      · right
        rw [Nat.testBit_two_pow] at h
        have e : p.toNat = i := of_decide_eq_true h
        have := h0 p (List.mem_cons_self ..)
        have e2 : (i : Int) = p := by omega
        rw [e2]; exact List.mem_cons_self ..
    · exact .inr (List.mem_cons_of_mem _ h)
/-- each position stands once in the order -/
theorem plI_perm {s : Bool} {gs : List Int} (h : isD s gs = true) : (plI s gs).length = 128 ∧ (plI s gs).Nodup ∧ (∀ p ∈ plI s gs, 0 ≤ p ∧ p < 128) ∧ ∀ i : Nat, i < 128 → (i : Int) ∈ plI s gs := by
  obtain ⟨h1, h2, h3⟩ := plI_dec h
  obtain ⟨i1, i2⟩ := once_bd h2
  refine ⟨h1, i1, fun p hp => (i2 p hp).1, fun i hi => ?_⟩
  have : (maskF 0 (plI s gs)).testBit i = true := by rw [h3, Nat.testBit_two_pow_sub_one]; exact decide_eq_true hi
  rcases maskF_mem (fun p hp => (i2 p hp).1.1) this with h | h
  · simp at h
  · exact h

/-- the elements of a piece -/
def cutP (c : List Int) (x : Int × Int) : List Int := (c.drop x.1.toNat).take (x.2 - x.1).toNat
theorem cutP_eq {c : List Int} {x : Int × Int} (h0 : 0 ≤ x.1) (h2 : x.2 ≤ (c.length : Int)) : cutP c x = (upI x).map fun p => c.getD p.toNat 0 := by
  unfold cutP upI
  rw [List.map_map]
  apply List.ext_getElem?
  intro j
  rw [List.getElem?_take]
  by_cases hj : j < (x.2 - x.1).toNat
  · rw [if_pos hj, List.getElem?_drop, List.getElem?_map, List.getElem?_range hj]
    have hl : x.1.toNat + j < c.length := by omega
    have e : (x.1 + (j : Int)).toNat = x.1.toNat + j := by omega
    simp only [Option.map_some, Function.comp_apply, e]
    rw [List.getElem?_eq_getElem hl, List.getD_eq_getElem?_getD, List.getElem?_eq_getElem hl]; rfl
  · rw [if_neg hj, List.getElem?_map, List.getElem?_eq_none (by rw [List.length_range]; omega)]; rfl
theorem cutP_len {c : List Int} {x : Int × Int} (h0 : 0 ≤ x.1) (h2 : x.2 ≤ (c.length : Int)) : (cutP c x).length = (x.2 - x.1).toNat := by
  unfold cutP; rw [List.length_take, List.length_drop]; omega
/-- a list in an order -/
def gaL (ps c : List Int) : List Int := ps.map fun p => c.getD p.toNat 0
theorem gaL_pieces {c : List Int} : ∀ {l : List (Int × Int)}, (∀ x ∈ l, 0 ≤ x.1 ∧ x.1 ≤ x.2 ∧ x.2 ≤ (c.length : Int)) → l.flatMap (cutP c) = gaL (l.flatMap upI) c
  | [], _ => rfl
  | x :: t, h => by
    obtain ⟨a, _, d⟩ := h x (List.mem_cons_self ..)
    unfold gaL
    rw [List.flatMap_cons, List.flatMap_cons, List.map_append, cutP_eq a d, gaL_pieces (fun y hy => h y (List.mem_cons_of_mem _ hy))]; rfl
/-- the list whose elements in an order are these -/
def scL (ps c o : List Int) : List Int := (ps.zip c).foldl (fun o p => o.set p.1.toNat p.2) o
def sc0 (ps c : List Int) : List Int := scL ps c (List.replicate 128 0)
theorem scL_len : ∀ (ps c o : List Int), (scL ps c o).length = o.length
  | [], _, _ => rfl
  | _ :: _, [], _ => rfl
  | p :: ps, v :: c, o => by
    show (scL ps c (o.set p.toNat v)).length = _
    rw [scL_len, List.length_set]
theorem scL_append : ∀ (ps qs c o : List Int), ps.length ≤ c.length → scL (ps ++ qs) c o = scL qs (c.drop ps.length) (scL ps c o)
  | [], _, _, _, _ => rfl
  | p :: ps, qs, [], _, h => by simp at h
  | p :: ps, qs, v :: c, o, h => by
    show scL (ps ++ qs) c (o.set p.toNat v) = scL qs (c.drop ps.length) (scL ps c (o.set p.toNat v))
    exact scL_append ps qs c _ (by simpa using h)
theorem scL_run : ∀ (n a : Nat) (cs o : List Int), cs.length = n → a + n ≤ o.length → scL ((List.range n).map fun (t : Nat) => (a : Int) + t) cs o = splice o a cs
  | 0, a, cs, o, hn, _ => by
    obtain rfl := List.eq_nil_of_length_eq_zero hn
    show o = splice o a []
    unfold splice; simp
  | n + 1, a, [], o, hn, _ => by simp at hn
  | n + 1, a, v :: t, o, hn, hl => by
    have hn' : t.length = n := by simpa using hn
    have e : (List.range (n + 1)).map (fun (t : Nat) => (a : Int) + t) = (a : Int) :: (List.range n).map (fun (t : Nat) => ((a + 1 : Nat) : Int) + t) := by
      rw [List.range_succ_eq_map, List.map_cons, List.map_map]
      rw [show ((a : Int) + ((0 : Nat) : Int)) = (a : Int) by omega]
      congr 1
      apply List.map_congr_left; intro x _; simp only [Function.comp_apply]; omega
    rw [e]
    show scL _ t (o.set (a : Int).toNat v) = _
    rw [Int.toNat_natCast, scL_run n (a + 1) t (o.set a v) hn' (by rw [List.length_set]; omega)]
    unfold splice
    have e2 : o.set a v = o.take a ++ v :: o.drop (a + 1) := by rw [List.set_eq_take_append_cons_drop, if_pos (by omega)]
    have h3 : (o.take a ++ v :: o.drop (a + 1)).take (a + 1) = o.take a ++ [v] := by
      rw [List.take_append, List.length_take, Nat.min_eq_left (by omega), show a + 1 - a = 1 by omega, List.take_of_length_le (by rw [List.length_take]; omega)]; rfl
    have h4 : (o.take a ++ v :: o.drop (a + 1)).drop (a + 1 + t.length) = o.drop (a + (t.length + 1)) := by
      rw [List.drop_append, List.length_take, Nat.min_eq_left (by omega), List.drop_eq_nil_of_le (by rw [List.length_take]; omega), List.nil_append, show a + 1 + t.length - a = t.length + 1 by omega, List.drop_succ_cons, List.drop_drop]
      congr 1; omega
    rw [e2, h3, h4, List.append_assoc, List.length_cons]; rfl
theorem scL_take : ∀ (ps c o : List Int), scL ps (c.take ps.length) o = scL ps c o
  | [], _, _ => rfl
  | _ :: _, [], _ => rfl
  | p :: ps, v :: c, o => scL_take ps c (o.set p.toNat v)
theorem scL_piece {c o : List Int} {x : Int × Int} (h0 : 0 ≤ x.1) (h1 : x.1 ≤ x.2) (h2 : x.2 ≤ (o.length : Int)) (hc : (x.2 - x.1).toNat ≤ c.length) :
    scL (upI x) c o = splice o x.1.toNat (c.take (x.2 - x.1).toNat) := by
  have e : scL (upI x) c o = scL (upI x) (c.take (x.2 - x.1).toNat) o := by
    have hl : (upI x).length = (x.2 - x.1).toNat := by unfold upI; simp
    rw [← hl, scL_take]
  rw [e, ← scL_run (x.2 - x.1).toNat x.1.toNat _ o (by rw [List.length_take]; omega) (by omega)]
  unfold upI
  rw [show ((x.1.toNat : Nat) : Int) = x.1 by omega]
/-- where nothing is put, all stays -/
theorem scL_other : ∀ (ps c o : List Int) (q : Int), (∀ p ∈ ps, 0 ≤ p) → 0 ≤ q → q ∉ ps → (scL ps c o)[q.toNat]? = o[q.toNat]?
  | [], _, _, _, _, _, _ => rfl
  | _ :: _, [], _, _, _, _, _ => rfl
  | p :: ps, v :: c, o, q, h0, hq, hn => by
    show (scL ps c (o.set p.toNat v))[q.toNat]? = _
    rw [scL_other ps c _ q (fun x hx => h0 x (List.mem_cons_of_mem _ hx)) hq (fun h => hn (List.mem_cons_of_mem _ h))]
    have hp := h0 p (List.mem_cons_self ..)
    have hne : p ≠ q := fun e => hn (by rw [e]; exact List.mem_cons_self ..)
    rw [List.getElem?_set_ne (by omega)]
theorem scL_at : ∀ (ps c o : List Int) (k : Nat) (p v : Int), ps.Nodup → (∀ p ∈ ps, 0 ≤ p ∧ p < (o.length : Int)) → ps[k]? = some p → c[k]? = some v → (scL ps c o)[p.toNat]? = some v
  | [], _, _, _, _, _, _, _, h, _ => by simp at h
  | _ :: _, [], _, _, _, _, _, _, _, h => by simp at h
  | q :: ps, u :: c, o, 0, p, v, hn, hb, hp, hv => by
    simp only [List.getElem?_cons_zero, Option.some.injEq] at hp hv
    subst hp; subst hv
    obtain ⟨h1, h2⟩ := List.nodup_cons.1 hn
    obtain ⟨b1, b2⟩ := hb q (List.mem_cons_self ..)
    show (scL ps c (o.set q.toNat u))[q.toNat]? = _
    rw [scL_other ps c _ q (fun x hx => (hb x (List.mem_cons_of_mem _ hx)).1) b1 h1, List.getElem?_set_self (by omega)]
  | q :: ps, u :: c, o, k + 1, p, v, hn, hb, hp, hv => by
    simp only [List.getElem?_cons_succ] at hp hv
    exact scL_at ps c (o.set q.toNat u) k p v (List.nodup_cons.1 hn).2 (fun x hx => by rw [List.length_set]; exact hb x (List.mem_cons_of_mem _ hx)) hp hv
/-- what was scattered, gathered -/
theorem ga_sc {ps c : List Int} (hl : ps.length = 128) (hc : c.length = 128) (hn : ps.Nodup) (hb : ∀ p ∈ ps, 0 ≤ p ∧ p < 128) : gaL ps (sc0 ps c) = c := by
  apply List.ext_getElem?
  intro k
  unfold gaL
  rw [List.getElem?_map]
  by_cases hk : k < 128
  · obtain ⟨p, hp⟩ : ∃ p, ps[k]? = some p := ⟨_, List.getElem?_eq_getElem (by omega)⟩
    obtain ⟨v, hv⟩ : ∃ v, c[k]? = some v := ⟨_, List.getElem?_eq_getElem (by omega)⟩
    have := scL_at ps c (List.replicate 128 0) k p v hn (fun x hx => by simpa using hb x hx) hp hv
    rw [hp, hv, Option.map_some, List.getD_eq_getElem?_getD]
    unfold sc0
    rw [this]; rfl
  · rw [List.getElem?_eq_none (by omega), List.getElem?_eq_none (by omega)]; rfl
theorem sc_ga {ps c : List Int} (hc : c.length = 128) (hn : ps.Nodup) (hb : ∀ p ∈ ps, 0 ≤ p ∧ p < 128) (ha : ∀ i : Nat, i < 128 → (i : Int) ∈ ps) : sc0 ps (gaL ps c) = c := by
  apply List.ext_getElem?
  intro i
  by_cases hi : i < 128
  · obtain ⟨k, hk⟩ := List.getElem?_of_mem (ha i hi)
    have hv : (gaL ps c)[k]? = some (c.getD i 0) := by unfold gaL; rw [List.getElem?_map, hk]; simp
    have := scL_at ps (gaL ps c) (List.replicate 128 0) k (i : Int) _ hn (fun x hx => by simpa using hb x hx) hk hv
    rw [Int.toNat_natCast] at this
    unfold sc0
    rw [this, List.getElem?_eq_getElem (by omega : i < c.length), List.getD_eq_getElem?_getD, List.getElem?_eq_getElem (by omega : i < c.length)]; rfl
  · rw [List.getElem?_eq_none (by unfold sc0; rw [scL_len, List.length_replicate]; omega), List.getElem?_eq_none (by omega)]
end Go.Proofs.YtgdndcbcdoogpaaDoor

namespace Go.Proofs.YtgdndcbcdoogpaaDoor
open Go.RowKit Go.Shelf
attribute [local go_sem] Oper.semAt_some

theorem keeps_of_upd {S : Nat → Prop} {W W' : World} {B : Nat} (h : Upd S W W') (hs : ∀ k, B ≤ k → ¬ S k) : KeepsFrom B W W' :=
  ⟨h.size, fun k _ hB hk _ => h.heap hk (hs k hB)⟩

theorem rows_in {n l : Nat} {P : Program} {row : String} {args : Array Value} {w : World} {R R' : Value → World → Prop} (h : Rows P row args w R) (hR : ∀ v w', R v w' → R' v w') :
    RowsIn (Fence.wide.inRound l) n P row args w R' := by
  intro c cs _
  obtain ⟨v, w', r, s⟩ := h c cs
  exact ⟨v, w', hR _ _ r, stepsIn_wide.2 s⟩
theorem op_in {n l : Nat} {P : Program} {o : Oper} {a : Act} {w : World} {K K' : Act → World → Prop} {Q : Exit → Act → World → Prop} (hd : ∀ c, o.op ≠ .defer c) (hK : ∀ a w, K a w → K' a w)
    (h : o.wp P a w K Q) : o.wpIn (Fence.wide.inRound l) n P a w K' Q := by
  refine ⟨fun _ _ => trivial, ?_⟩
  rw [show o.semAt (Fence.wide.inRound l).round a.eval = execOp a.eval o from Oper.semAt_some l _ _ hd]
  unfold Oper.wp at h
  generalize (execOp a.eval o).run P w = r at h ⊢
  unfold Oper.upon at h
  unfold Oper.uponIn
  rcases r with ⟨x, w'⟩ | ⟨x, w'⟩
  · cases x <;> simp only at h ⊢
    all_goals first
      | exact hK _ _ h
      | exact h.elim
      | exact ⟨(fun e => by cases e), rows_in h (fun _ _ => hK _ _)⟩
      | (refine ⟨(fun e => by cases e), (callsIn_wide.2 (h.mono ?_)).inRound l⟩
         rintro (v | c | _) w'' q
         · exact hK _ _ q
         · exact q
         · exact q)
  · cases x <;> simp only at h ⊢ <;> first | exact h | exact h.elim

theorem any_in {n l : Nat} {P : Program} {ops : Array Oper} {Q : Exit → Act → World → Prop} (hd : ∀ o, o ∈ ops.toList → ∀ c, o.op ≠ .defer c) (hQ : ¬ LetsOut Q) :
    ∀ (fuel : Nat) (listed : Array Bool) (a : Act) (w : World), wpAny P .any ops Q fuel listed a w → wpAnyIn (Fence.wide.inRound l) n P .any ops Q fuel listed a w
  | 0, _, _, _, h => h
  | fuel + 1, listed, a, w, h => by
    refine ⟨h.1, fun i hi => ?_⟩
    have h2 := h.2 i hi
    unfold wpOp at h2
    unfold wpOpIn
    cases ho : ops[i]? with
    | none => rw [ho] at h2; exact any_in hd hQ fuel _ _ _ h2
    | some o =>
      rw [ho] at h2
      simp only at h2 ⊢
      by_cases hw : Region.wanted o (yielded ops a.tmps) = true
      · rw [if_pos hw] at h2 ⊢
        rcases h2 with h2 | h2
        · exact op_in (hd o (by have := Array.mem_of_getElem? ho; simpa using this)) (fun a w q => any_in hd hQ fuel _ a w q) h2
        · exact absurd h2.2 hQ
      · rw [if_neg hw] at h2 ⊢
        exact ⟨fun _ _ => trivial, any_in hd hQ fuel _ _ _ h2⟩
def noDefer (l : List Oper) : Bool := l.all fun o => match o.op with | .defer _ => false | _ => true
theorem noDefer_spec {l : List Oper} (h : noDefer l = true) : ∀ o, o ∈ l → ∀ c, o.op ≠ .defer c := by
  intro o ho c e
  have := List.all_eq_true.1 h o ho
  rw [e] at this
  cases this
/-- reads and quiet calls, then a tail, in a round -/
theorem region_still_in {id l₀ n₀ : Nat} {P : Program} {Q : Exit → Act → World → Prop} {a : Act} {w : World} {l : List Oper} (n : Nat) (hm : P.follows .mixedOrders = true) (hB : Region.lexTailB .any l.toArray n = true)
    (hd : noDefer l = true) (hQ : ¬ LetsOut Q)
    (h : wpStill P l.toArray { w with drawn := w.drawn + 1 } (fun a' => wpList P l.toArray Q (l.drop n) a' { w with drawn := w.drawn + 1 }) (l.take n) a) : (Code.region id l.toArray true).wpIn (Fence.wide.inRound l₀) n₀ P Q a w := by
  refine wpIn_region_any hm (any_in (noDefer_spec hd) hQ _ _ _ _ ?_)
  simp only [Region.lexTailB, Bool.and_eq_true, decide_eq_true_eq] at hB
  have hn : n < l.length := by simpa using hB.1.1.1.2
  have ht : (l.take n).length = n := by simp; omega
  have hs : (l.drop n).length = l.toArray.size - n := by simp
  have head := wpAnyL_lex (md := .any) (g := l.toArray.size - n) hB.1.1.1.1 hB.1.1.2 hB.1.2 hB.1.1.1.2 (l.take n) 0 (Array.replicate l.toArray.size false) a
    (fun j hj => by rw [ht] at hj; simp [hj]) (by omega)
    ⟨by simp, (fun j oj _ hl => by rw [getD_replicate_false] at hl; cases hl), fun t _ hlt => getD_in (by simpa using hlt) (getD_replicate_false _ _)⟩ (by rw [ht]; exact hB.2) h
  have all := wpAny_of_head (Q' := Q) (g := l.toArray.size - n) (fun listed a' hL => by
    have t := wpAny_of_seq (md := .any) (Q' := Q) (l.drop n) n listed a' { w with drawn := w.drawn + 1 } (fun j => by simp [List.getElem?_drop]) (by rw [hs]; exact hL.1) hL.2
    rw [hs] at t; exact t) _ _ _ head
  rw [ht, show n + (l.toArray.size - n) = l.toArray.size by have : l.toArray.size = l.length := by simp
                                                            omega] at all
  exact all
theorem row_grown {w w' : World} {base : Nat} {e : TypeId} {size : Nat} {v : Value} {n : Nat} {xs : List Value} {row : Option Nat} (h : w.ownsRow base e size v n xs) (hg : w.grownBy w' row)
    (hr : ∀ r, row = some r → r < base ∨ ∃ o : Obj, w.heap[r]? = some o ∧ o.isCells = false) : w'.ownsRow base e size v n xs := by
  refine ⟨h.1, ?_⟩
  rcases h.2 with h' | ⟨g, cap, cur, hv, hb, hgg, rest⟩
  · exact .inl h'
  · refine .inr ⟨g, cap, cur, hv, hb, ?_, rest⟩
    refine (hg.block g (lt_of_block hgg) (fun e => ?_)).trans hgg
    rcases hr g e.symm with h | ⟨o, ho, hc⟩
    · omega
    · rw [hgg] at ho
      cases ho
      cases hc
theorem run_slice_lo (w : World) (a : Option Addr) (n cap l : Nat) (hl : l ≤ n) (_hn : n ≤ cap) :
    (Instr.slice 22 (.slice a n cap) (some (.int .i64 (l : Int))) none none).run Tryd.prog w = .ok (.slice (if cap = l then a else a.map (fun p => p.add (l * 1))) (n - l) (cap - l)) w := by
  have h1 : (0 : Int) ≤ (l : Int) ∧ (l : Int) ≤ (n : Int) := ⟨by omega, by omega⟩
  have hsz : (sizeOf 3).run Tryd.prog w = .ok 1 w := by kernel_rfl
  have hu : (underlying 22).run Tryd.prog w = .ok (.slice 3) w := by kernel_rfl
  simp [Instr.slice, Instr.sliceBounds, Instr.sliceBound, asIntOf, Sem.run_bind, Result.andThen, hu, hsz, h1, Int.toNat_natCast, hl]
theorem run_slice3 (w : World) (a : Option Addr) (n cap f t : Nat) (hf : f ≤ t) (ht : t ≤ cap) :
    (Instr.slice 22 (.slice a n cap) (some (.int .i64 f)) (some (.int .i64 t)) (some (.int .i64 t))).run Tryd.prog w = .ok (.slice (if t = f then a else a.map (fun p => p.add (f * 1))) (t - f) (t - f)) w := by
  have h1 : (0 : Int) ≤ (t : Int) ∧ (t : Int) ≤ (cap : Int) := ⟨by omega, by omega⟩
  have h2 : (0 : Int) ≤ (t : Int) ∧ (t : Int) ≤ (t : Int) := ⟨by omega, by omega⟩
  have h3 : (0 : Int) ≤ (f : Int) ∧ (f : Int) ≤ (t : Int) := ⟨by omega, by omega⟩
  have hsz : (sizeOf 3).run Tryd.prog w = .ok 1 w := by kernel_rfl
  have hu : (underlying 22).run Tryd.prog w = .ok (.slice 3) w := by kernel_rfl
  simp [Instr.slice, Instr.sliceBounds, Instr.sliceBound, asIntOf, Sem.run_bind, Result.andThen, hu, hsz, h1, h3, Int.toNat_natCast, hf, ht]
end Go.Proofs.YtgdndcbcdoogpaaDoor

namespace Go.Proofs.YtgdndcbcdoogpaaDoor
open Go.RowKit Go.Shelf
attribute [local go_sem] Oper.semAt_some

theorem pieces_any (ln : Int) (aw ag : Option Addr) (N M cw cg : Nat) (w : World) : Calls Tryd.prog 57 #[.agg #[.int .i64 ln, .slice aw N cw, .slice ag M cg]] w fun e w' =>
    e = .returned (.func (.func 87) #[] #[.pointer (some ⟨w.heap.size, 0, none⟩)]) ∧ w' = w.alloc (.cells #[.int .i64 ln, .slice aw N cw, .slice ag M cg] 52) := by
  go_enter Tryd.func57, Tryd.ntmps57
  go_wp2
  go_ret
  exact ⟨rfl, rfl⟩
theorem spT_nn {ws : List Int} (h : ∀ x ∈ ws, 0 ≤ x) : ∀ k : Nat, 0 ≤ spT ws k
  | 0 => by simp [spT]
  | k + 1 => by
    have ih := spT_nn h k
    cases e : ws[k]? with
    | none =>
      have : spT ws (k + 1) = spT ws k := by unfold spT; rw [List.take_add_one, e]; simp
      omega
    | some x =>
      have := h x (List.mem_of_getElem? e)
      rw [spT_succ e]; omega
abbrev encP (x : Int × Int) : Array Value := #[.agg #[.int .i64 x.1, .int .i64 x.2]]
set_option maxRecDepth 100000 in
set_option maxHeartbeats 4000000 in
theorem pieces1_in (l B n : Nat) (ln : Int) (aw ag : Option Addr) (ws gs : List Int) (cw cg : Nat) (R : Nat → Prop) (hln : 0 ≤ ln ∧ ln ≤ 128) (bw : ws.length ≤ 15 ∧ ∀ x ∈ ws, 0 ≤ x ∧ x ≤ 128) (bg : gs.length ≤ 8 ∧ ∀ x ∈ gs, 0 ≤ x ∧ x ≤ 8)
    (J : List (Int × Int) → World → Prop) (W : World) (hJ : OwnM W.heap.size 0 J)
    (hY : ∀ pre x V, J pre V → pre ++ [x] <+: pcL ln ws gs → W.heap.size ≤ V.heap.size → YieldAt Fence.wide (n - 1) Tryd.prog l (encP x) V fun e V' => e = .returned (.bool true) ∧ J (pre ++ [x]) V' ∧ KpC R V V')
    (hb : W.heap[B]? = some (.cells #[.int .i64 ln, .slice aw ws.length cw, .slice ag gs.length cg] 52 (0, 0)))
    (hw : Ints W (.slice aw ws.length cw) ws) (hg : Ints W (.slice ag gs.length cg) gs) (hRB : ¬ R B) (hRw : ∀ b, (Value.slice aw ws.length cw).ownBlock = some b → ¬ R b) (hRg : ∀ b, (Value.slice ag gs.length cg).ownBlock = some b → ¬ R b)
    (hRl : ∀ k, R k → k < W.heap.size) (h0 : J [] W) :
    CallsIn Fence.wide n Tryd.prog 87 #[.func (.yield l) #[] #[], .pointer (some ⟨B, 0, none⟩)] W fun e W' => (∃ v, e = .returned v) ∧ J (pcL ln ws gs) W' := by
  refine callsIn_of_wp Tryd.func87 rfl trivial ?_ rfl
  simp only [Tryd.ntmps87, List.size_toArray, List.length_cons, List.length_nil, Nat.reduceAdd, Nat.reduceSub, Array.replicate_succ, Array.replicate_zero, List.push_toArray, List.append_toArray, List.nil_append, List.cons_append]
  have HY := Lib.hid @hY; clear hY
  have HJ := Lib.hid hJ; clear hJ
  have BW := Lib.hid bw; have BG := Lib.hid bg; have HLn := Lib.hid hln
  have HB := Lib.hid hb; have XW := Lib.hid hw; have XG := Lib.hid hg
  have HRB := Lib.hid hRB; have HRw := Lib.hid hRw; have HRg := Lib.hid hRg; have HRl := Lib.hid hRl
  have PFm := Lib.hid (fun i (hi : i < gs.length) j (hj : j < ws.length) q (hq : q < (gs.getD i 0).toNat) => (show (List.range i).flatMap (pcI ln ws gs) ++ ((List.range j).flatMap (pcJ ln ws gs i) ++ ((List.range q).map (pcA ln ws gs i j) ++ [pcA ln ws gs i j q])) <+: pcL ln ws gs from fm_prefix (pcI ln ws gs) hi (fm_prefix (pcJ ln ws gs i) hj (map_prefix (pcA ln ws gs i j) hq))))
  have HEnd := Lib.hid (show (List.range gs.length).flatMap (pcI ln ws gs) = pcL ln ws gs from rfl)
  have HSpg := Lib.hid (fun k => spT_bd (ws := gs) (fun x hx => by have := bg.2 x hx; omega) k)
  have HSpw := Lib.hid (fun k => spT_bd (ws := ws) (fun x hx => by have := bw.2 x hx; omega) k)
  have hN15 := bw.1
  have hM8 := bg.1
  obtain ⟨N, hN⟩ : ∃ N, ws.length = N := ⟨_, rfl⟩
  obtain ⟨M, hM⟩ : ∃ M, gs.length = M := ⟨_, rfl⟩
  have HN := Lib.hid hN; have HM := Lib.hid hM
  rw [hN] at HB XW HRw hN15 PFm hb
  rw [hM] at HB XG HRg hM8 PFm HEnd hb
  have c2 : W.cell? ⟨B, 2, none⟩ = some (.slice ag M cg) := blk_cell hb 2
  clear hb hw hg hRB hRw hRg hRl bw bg hln hN hM
  gi_wp2
  clear c2
  gi_loopw [3, 13] (fun f i wr => ∃ k : Nat, k ≤ M ∧ i = .int .i64 k ∧ f = .int .i64 (spT gs k) ∧ J ((List.range k).flatMap (pcI ln ws gs)) wr ∧ KpC R W wr) (fun _ i _ => M - (intOf i).toNat)
  case atStart => exact ⟨0, Nat.zero_le _, rfl, rfl, h0, KpC.refl _ _⟩
  case round =>
    obtain ⟨i, hi, rfl, rfl, hj, hk⟩ := hrel
    have HJi := Lib.hid hj; have HKi := Lib.hid hk
    by_cases hlt : i < M
    · obtain ⟨x, hx⟩ : ∃ x, gs[i]? = some x := ⟨_, List.getElem?_eq_getElem (by rw [HM.out]; exact hlt)⟩
      obtain ⟨x0, x8⟩ := BG.out.2 x (List.mem_of_getElem? hx)
      have hgd : gs.getD i 0 = x := by rw [List.getD_eq_getElem?_getD, hx]; rfl
      have HGd := Lib.hid hgd
      have XWr := Lib.hid (XW.out.kpC hk (fun _ => HRw.out))
      obtain ⟨b, off, e, c0⟩ := (XG.out.kpC hk (fun _ => HRg.out)).cellAt hx
      have hB := hk.2 _ _ _ _ HRB.out HB.out
      have c1 : wr.cell? ⟨B, 1, none⟩ = some (.slice aw N cw) := blk_cell hB 1
      obtain ⟨f0, f8⟩ := HSpg.out i
      have HSu := Lib.hid (spT_succ hx)
      have HFm := Lib.hid (show (List.range (i + 1)).flatMap (pcI ln ws gs) = (List.range i).flatMap (pcI ln ws gs) ++ pcI ln ws gs i by rw [List.range_succ, List.flatMap_append]; simp)
      have HPI := Lib.hid (show pcI ln ws gs i = (List.range N).flatMap (pcJ ln ws gs i) by unfold pcI; rw [HN.out])
      subst e
      clear hx hgd hj hk hB
      gi_wp2
      refine ⟨trivial, (fun h => by cases h), (callsIn_wide.2 (spans_any _ ws wr XWr.out (by rw [HN.out]; omega) (fun y hy => by have := BW.out.2 y hy; omega))).mono ?_⟩
      rintro e w4 ⟨v4, rfl, r4, u4⟩
      rw [HN.out] at r4
      obtain ⟨a4, c4, rfl⟩ := row_form r4
      have J4 := HJ.out _ wr w4 none HJi.out ⟨u4.os, u4.tape, u4.output, u4.size, fun k hk _ => u4.block k hk (noB k)⟩ (fun r e => by cases e)
      have K4 := Lib.hid (HKi.out.trans (u4.kpC (R := R) (fun _ h => h.elim)))
      have R4 := Lib.hid r4
      have HJ4 := Lib.hid J4
      have PFi := Lib.hid (fun j hj q hq => PFm.out i hlt j hj q hq)
      generalize (List.range i).flatMap (pcI ln ws gs) = PI at *
      have HBs := Lib.hid (show W.heap.size ≤ wr.heap.size from HKi.out.1)
      clear u4 r4 J4 c0 c1
      gi_wp2
      gi_loopw [21] (fun j wr => ∃ t : Nat, t ≤ N ∧ j = .int .i64 t ∧ J (PI ++ (List.range t).flatMap (pcJ ln ws gs i)) wr ∧ KpC R w4 wr) (fun j _ => N - (intOf j).toNat)
      case atStart => exact ⟨0, Nat.zero_le _, rfl, by simpa using HJ4.out, KpC.refl _ _⟩
      case round =>
        obtain ⟨t, ht, rfl, hj, hk⟩ := hrel
        have HJt := Lib.hid hj; have HKt := Lib.hid hk
        by_cases hlt2 : t < N
        · obtain ⟨g4, c4', e4⟩ := row_slice R4.out (by omega)
          injection e4 with e5 _ e6
          subst e5; subst e6
          have hg4 := (R4.out.lt g4 rfl).1
          have hnR : ¬ R g4 := fun h => by have := HRl.out g4 h; have := HBs.out; omega
          obtain ⟨s1, s2⟩ := spC_get (ws := ws) hlt2
          have d0 := R4.out.cellAt (2 * t) (by omega)
          have d1 := R4.out.cellAt (2 * t + 1) (by omega)
          rw [s1] at d0
          rw [s2] at d1
          rw [Nat.mul_comm] at d0 d1
          have d0 := HKt.out.cell (p := ⟨g4, t * 2, none⟩) hnR d0
          have d1 := HKt.out.cell (p := ⟨g4, t * 2 + 1, none⟩) hnR d1
          have HDt := Lib.hid (show (spT ws (t + 1)) = spT ws (t + 1) from rfl)
          have hb0 := HSpw.out t
          have hb1 := HSpw.out (t + 1)
          have HFj := Lib.hid (show (List.range (t + 1)).flatMap (pcJ ln ws gs i) = (List.range t).flatMap (pcJ ln ws gs i) ++ pcJ ln ws gs i t by rw [List.range_succ, List.flatMap_append]; simp)
          have HPJ := Lib.hid (show pcJ ln ws gs i t = (List.range x.toNat).map (pcA ln ws gs i t) by unfold pcJ; rw [HGd.out])
          have HPc := Lib.hid (fun q : Nat => show pcA ln ws gs i t q = (ln * (spT gs i + q) + spT ws t, ln * (spT gs i + q) + spT ws (t + 1)) from rfl)
          have PF := Lib.hid (fun q (hq : q < x.toNat) => PFi.out t hlt2 q (by rw [HGd.out]; exact hq))
          generalize spT ws (t + 1) = to at *
          generalize spT ws t = fr at *
          obtain ⟨W5, hW5⟩ : ∃ W5, W5 = wr.alloc (.cells #[.int .i64 fr, .int .i64 to] 66) := ⟨_, rfl⟩
          have u5 : Upd NoB wr W5 := by rw [hW5]; exact (Upd.refl _ _).alloc _
          have n5 : W5.heap[wr.heap.size]? = some (.cells #[.int .i64 fr, .int .i64 to] 66 (0, 0)) := by rw [hW5]; exact heap_alloc_new wr _
          have J5 := HJ.out _ wr W5 none HJt.out ⟨u5.os, u5.tape, u5.output, u5.size, fun k hk _ => u5.block k hk (noB k)⟩ (fun r e => by cases e)
          have K5 := Lib.hid (HKt.out.trans (u5.kpC (R := R) (fun _ h => h.elim)))
          have hnR5 := Lib.hid (show ¬ R wr.heap.size from fun h => by have := HRl.out _ h; have := HBs.out; have := HKi.out.1; have := K4.out.1; have := HKt.out.1; omega)
          have N5 := Lib.hid n5; have HJ5 := Lib.hid J5; have HW5 := Lib.hid hW5
          obtain ⟨bx, hbx⟩ : ∃ bx, wr.heap.size = bx := ⟨_, rfl⟩
          have HBx := Lib.hid hbx
          rw [hbx] at N5 hnR5
          clear s1 s2 u5 n5 J5 hj hk hnR hg4 hW5 hbx
          gi_wp2
          rw [← HW5.out, HBx.out]
          obtain ⟨xn, rfl⟩ := Int.eq_ofNat_of_zero_le x0
          rw [Int.toNat_natCast] at HPJ PF
          gi_loopw [26] (fun q' wr => ∃ q : Nat, q ≤ xn ∧ q' = .int .i64 q ∧ J (PI ++ ((List.range t).flatMap (pcJ ln ws gs i) ++ (List.range q).map (pcA ln ws gs i t))) wr ∧ KpC R W5 wr) (fun q' _ => xn - (intOf q').toNat)
          case atStart => exact ⟨0, Nat.zero_le _, rfl, by simpa using HJ5.out, KpC.refl _ _⟩
          case round =>
            obtain ⟨q, hq, rfl, hj, hk⟩ := hrel
            have HJq := Lib.hid hj; have HKq := Lib.hid hk
            by_cases hlt3 : q < xn
            · have n5 := hk.2 _ _ _ _ hnR5.out N5.out
              have e0 : wr.cell? ⟨bx, 0, none⟩ = some (.int .i64 fr) := blk_cell n5 0
              have e1 : wr.cell? ⟨bx, 1, none⟩ = some (.int .i64 to) := blk_cell n5 1
              have hB := (K5.out.trans hk).2 _ _ _ _ HRB.out (K4.out.2 _ _ _ _ HRB.out HB.out)
              have c0 : wr.cell? ⟨B, 0, none⟩ = some (.int .i64 ln) := blk_cell hB 0
              have HMq := Lib.hid (show (List.range (q + 1)).map (pcA ln ws gs i t) = (List.range q).map (pcA ln ws gs i t) ++ [pcA ln ws gs i t q] by rw [List.range_succ, List.map_append]; rfl)
              have PFq := Lib.hid (PF.out q hlt3)
              have HPq := Lib.hid (HPc.out q)
              have HVs := Lib.hid (show W.heap.size ≤ wr.heap.size from (K4.out.trans (K5.out.trans hk)).1)
              generalize pcA ln ws gs i t q = px at *
              obtain ⟨l0, l1⟩ := HLn.out
              obtain ⟨S, hS⟩ : ∃ S, ln * (spT gs i + (q : Int)) = S := ⟨_, rfl⟩
              have hSb : 0 ≤ S ∧ S ≤ 128 * 2000 := by
                have hs0 : 0 ≤ spT gs i + (q : Int) := by omega
                rw [← hS]; exact ⟨Int.mul_nonneg l0 hs0, Int.mul_le_mul l1 (by omega) hs0 (by omega)⟩
              have hw1 : wrap64 (ln * (spT gs i + (q : Int))) = S := by rw [hS]; exact IntWalk.wrap64_in _ (by omega)
              have hw2 : IntKind.i64.wrap (ln * (spT gs i + (q : Int))) = S := by rw [hS]; exact IntWalk.i64_in _ (by omega)
              rw [hS] at HPq
              have HYq := Lib.hid (HY.out _ (S + fr, S + to) wr HJq.out (by rw [← HPq.out, List.append_assoc, List.append_assoc]; exact PFq.out) HVs.out)
              clear hS hj hk n5 hB
              obtain ⟨fn, tmps, assign, body, hy0, hR⟩ := HYq.out
              simp only [encP] at hy0
              gi_wp2
              refine ⟨(fun h => by cases h), hR.mono ?_⟩
              rintro e W9 ⟨rfl, hJ9, hk9⟩
              have HJ9 := Lib.hid hJ9; have HK9 := Lib.hid (HKq.out.trans hk9)
              clear hJ9 hk9
              gi_wp2
              go_roundw
              case rel => exact ⟨q + 1, by omega, by go_num, by rw [HMq.out, HPq.out, ← List.append_assoc (List.flatMap _ _), ← List.append_assoc PI]; exact HJ9.out, HK9.out⟩
              case measure => simp [intOf]; omega
            · obtain rfl : q = xn := by omega
              clear hj hk
              gi_wp2
              go_roundw
              case rel => exact ⟨t + 1, by omega, by go_num, by rw [HFj.out, HPJ.out]; exact HJq.out, K5.out.trans HKq.out⟩
              case measure => simp [intOf]; omega
        · obtain rfl : t = N := by omega
          clear hj hk
          gi_wp2
          go_roundw
          case rel => exact ⟨i + 1, by omega, by go_num, by rw [HSu.out], by rw [HFm.out, HPI.out]; exact HJt.out, K4.out.trans HKt.out⟩
          case measure => simp [intOf]; omega
    · obtain rfl : i = M := by omega
      clear hj hk
      gi_wp2
      go_end0
      exact ⟨⟨_, rfl⟩, by rw [← HEnd.out]; exact HJi.out⟩
end Go.Proofs.YtgdndcbcdoogpaaDoor
