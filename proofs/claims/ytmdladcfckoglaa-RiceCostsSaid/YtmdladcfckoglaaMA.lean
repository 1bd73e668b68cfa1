/- Plain facts for the contracts of package bits: what a call may change in memory (Upd), and bits packed into bytes (pack) | (*bits.Writer).add | between: the bits of bytes by an iterator | the writer: numbers of several bits, fields | slices.Clone of bytes; Bytes of the writer | the writer: fields | the writer: write -/
import Derived.WalkKit
import Derived.WalkSpells
import Derived.WalkLawsBesides
import Derived.Handy
import Derived.Lib.Hide
import Derived.Test.YtmdladcfckoglaaRows
import Derived.StillTailTactics
import Derived.RangeFuncNested
import Derived.RangeFuncBound
import Derived.RangeFuncCalls
import Derived.RangeFuncLeaves
import Derived.Shelf.Abstract
import Derived.Shelf.RegionOpen
import Derived.OwnWalkIn
import Derived.TacticsInMore
import Derived.LoopNIn
import Derived.LoopIn
import Derived.Lib.SliceRun
namespace Go.Proofs.Ytmdladcfckoglaa
open Go.RowKit

/-- All blocks of w but those of S lie in w' as they lay. -/
structure Upd (S : Nat → Prop) (w w' : World) : Prop where
  os : w'.os = w.os
  tape : w'.tape = w.tape
  output : w'.output = w.output
  size : w.heap.size ≤ w'.heap.size
  block : ∀ k, k < w.heap.size → ¬ S k → w'.heap[k]? = w.heap[k]?

def NoB : Nat → Prop := fun _ => False
theorem noB (k : Nat) : ¬ NoB k := fun h => h

theorem Upd.refl (S : Nat → Prop) (w : World) : Upd S w w := ⟨rfl, rfl, rfl, Nat.le_refl _, fun _ _ _ => rfl⟩
theorem Upd.trans {S T : Nat → Prop} {a b c : World} (h : Upd S a b) (k : Upd T b c) (hs : ∀ i, i < a.heap.size → T i → S i) : Upd S a c :=
  ⟨k.os.trans h.os, k.tape.trans h.tape, k.output.trans h.output, Nat.le_trans h.size k.size,
   fun i hi hn => (k.block i (Nat.lt_of_lt_of_le hi h.size) (fun ht => hn (hs i hi ht))).trans (h.block i hi hn)⟩
theorem Upd.mono {S T : Nat → Prop} {a b : World} (h : Upd S a b) (hs : ∀ i, i < a.heap.size → S i → T i) : Upd T a b :=
  ⟨h.os, h.tape, h.output, h.size, fun i hi hn => h.block i hi (fun hS => hn (hs i hi hS))⟩
theorem Upd.then {S : Nat → Prop} {a b c : World} (h : Upd S a b) (k : Upd NoB b c) : Upd S a c := h.trans k (fun _ _ h => h.elim)
theorem Upd.drew {S : Nat → Prop} {a w : World} (h : Upd S a w) : Upd S a w.drew := ⟨h.os, h.tape, h.output, h.size, h.block⟩
theorem Upd.alloc {S : Nat → Prop} {a w : World} (h : Upd S a w) (o : Obj) : Upd S a (w.alloc o) :=
  h.then ⟨rfl, rfl, rfl, by simp, fun k hk _ => Below.heap_alloc _ _ _ hk⟩
theorem Upd.setCell {S : Nat → Prop} {a w : World} (h : Upd S a w) {p : Addr} (u : Value) (hp : p.block < a.heap.size → S p.block) : Upd S a (w.setCell p u) :=
  h.trans (T := fun k => k = p.block) ⟨rfl, rfl, rfl, by simp [World.setCell], fun k _ hn => Below.heap_setCell _ _ _ _ hn⟩ (fun i hi e => by subst e; exact hp hi)
theorem Upd.grown {S : Nat → Prop} {a w w' : World} {row : Option Nat} (h : Upd S a w) (hg : w.grownBy w' row) (hr : ∀ k, row = some k → k < a.heap.size → S k) : Upd S a w' :=
  h.trans (T := fun k => row = some k) ⟨hg.os, hg.tape, hg.output, hg.size, fun k hk hn => hg.block k hk (fun e => hn e.symm)⟩ (fun i hi e => hr i e hi)
theorem Upd.heap {S : Nat → Prop} {w w' : World} (h : Upd S w w') {k : Nat} {o : Obj} (hk : w.heap[k]? = some o) (hn : ¬ S k) : w'.heap[k]? = some o :=
  (h.block k (lt_of_block hk) hn).trans hk
theorem Upd.cell {S : Nat → Prop} {w w' : World} (h : Upd S w w') {p : Addr} {v : Value} (hc : w.cell? p = some v) (hn : ¬ S p.block) : w'.cell? p = some v :=
  (World.cell?_of_block (w := w) (h.block p.block (World.block_lt_of_cell? w p hc) hn)).trans hc
theorem Upd.row {S : Nat → Prop} {w w' : World} (h : Upd S w w') {base : Nat} {e : TypeId} {size : Nat} {v : Value} {n : Nat} {xs : List Value} (hr : w.ownsRow base e size v n xs) (hn : ∀ k, v.ownBlock = some k → ¬ S k) : w'.ownsRow base e size v n xs := by
  refine ⟨hr.1, ?_⟩
  rcases hr.2 with hn' | ⟨g, cap, cur, rfl, hb, hgg, rest⟩
  · exact .inl hn'
  · exact .inr ⟨g, cap, cur, rfl, hb, h.heap hgg (hn g rfl), rest⟩
theorem Upd.below {w w' : World} (h : Upd NoB w w') : Below w.heap.size w w' := ⟨h.os, h.tape, h.output, h.size, fun k hk => h.block k hk (noB k)⟩
theorem Upd.ofBelow {w w' : World} (h : Below w.heap.size w w') : Upd NoB w w' := ⟨h.os, h.tape, h.output, h.size, fun k hk _ => h.block k hk⟩

theorem block_set {w : World} {b i : Nat} {c : Array Value} {t : TypeId} {fr : Nat × Nat} (h : w.heap[b]? = some (.cells c t fr)) (u : Value) :
    (w.setCell ⟨b, i, none⟩ u).heap[b]? = some (.cells (c.setIfInBounds i u) t fr) := by
  have hlt := lt_of_block h
  have h' : w.heap[b] = .cells c t fr := by simpa [Array.getElem?_eq_getElem hlt] using h
  show (w.heap.modify b _)[b]? = _
  rw [Array.getElem?_eq_getElem (by simpa using hlt), Array.getElem_modify_self, h']
  rfl
theorem block_keep {w : World} {b : Nat} {o : Obj} (h : w.heap[b]? = some o) {p : Addr} (hp : p.block ≠ b) (u : Value) : (w.setCell p u).heap[b]? = some o :=
  (Below.heap_setCell w p u b (fun e => hp e.symm)).trans h
theorem row_ne {w : World} {base : Nat} {e e' : TypeId} {size : Nat} {v : Value} {n : Nat} {xs : List Value} {b : Nat} {c : Array Value} {fr : Nat × Nat}
    (h : w.ownsRow base e size v n xs) (hb : w.heap[b]? = some (.cells c e' fr)) (he : e ≠ e') : v.ownBlock ≠ some b := by
  rcases h.2 with ⟨rfl, _⟩ | ⟨g, cap, cur, rfl, _, hg, _⟩
  · simp [Value.ownBlock]
  · intro hh
    have : g = b := by simpa [Value.ownBlock] using hh
    subst this
    rw [hg] at hb
    simp at hb
    exact he hb.2.1
theorem row_slice {w : World} {base : Nat} {e : TypeId} {size : Nat} {v : Value} {n : Nat} {xs : List Value} (h : w.ownsRow base e size v n xs) (hn : 0 < n) :
    ∃ g cap, v = .slice (some ⟨g, 0, none⟩) n cap := by
  rcases h.2 with ⟨_, rfl⟩ | ⟨g, cap, cur, rfl, _⟩
  · omega
  · exact ⟨g, cap, rfl⟩
theorem row_cap {w : World} {base : Nat} {e : TypeId} {size : Nat} {a : Option Addr} {n cap : Nat} {xs : List Value} (h : w.ownsRow base e size (.slice a n cap) n xs) : n ≤ cap := by
  rcases h.2 with ⟨h1, rfl⟩ | ⟨g, cap', cur, h1, _, _, hnc, _⟩
  · exact Nat.zero_le _
  · cases h1; exact hnc
/-- The block of an appended row is the old one or a new one. -/
def newOr (w : World) (v v' : Value) : Prop := ∀ k, v'.ownBlock = some k → v.ownBlock = some k ∨ w.heap.size ≤ k
theorem newOr.refl (w : World) (v : Value) : newOr w v v := fun _ h => .inl h
theorem newOr.trans {w w1 : World} {v v1 v2 : Value} (h : newOr w v v1) (k : newOr w1 v1 v2) (hs : w.heap.size ≤ w1.heap.size) : newOr w v v2 := fun i hi => by
  rcases k i hi with h1 | h1
  · exact h i h1
  · exact .inr (by omega)

theorem row_base {w : World} {base base' : Nat} {e : TypeId} {size : Nat} {v : Value} {n : Nat} {xs : List Value} (h : w.ownsRow base e size v n xs) (hb : base' ≤ base) : w.ownsRow base' e size v n xs := by
  refine ⟨h.1, ?_⟩
  rcases h.2 with h1 | ⟨g, cap, cur, hv, hbg, r⟩
  · exact .inl h1
  · exact .inr ⟨g, cap, cur, hv, by omega, r⟩
theorem grownBy_any {w w' : World} (h : w.grownBy w' none) (row : Option Nat) : w.grownBy w' row := ⟨h.os, h.tape, h.output, h.size, fun k hk _ => h.block k hk (by simp)⟩
/-- append of some elements to a row of the call's own: besides, the new row's block is the old one or a new one. -/
theorem wpList_append_mine {P : Program} {w : World} {ops : Array Oper} {rest : List Oper} {o : Oper} {a : Act} {Q : Exit → Act → World → Prop}
    (hg : o.guard = none) (s x : Operand) (t : TypeId) (hop : o.op = Op.call { callee := Callee.builtin Builtin.append, args := #[s, x], argTypes := #[t, t] })
    (e : TypeId) (i : TypeInfo) (z : Value) (size bytes : Nat) (h1 : P.underlying t = some (.slice e)) (h2 : P.info? e = some i) (h3 : i.zero = some z) (h4 : i.size = size) (h5 : i.bytes = bytes) (h6 : z.cells.size = size) (h7 : 0 < size)
    (v : Value) (n : Nat) (xs : List Value) (hs : a.eval s = v) (hown : w.ownsRow 0 e size v n xs)
    (ad : Addr) (m c : Nat) (news : List Value) (hx : a.eval x = .slice (some ad) m c) (hm : 0 < m) (hn : news.length = m * size) (hc : ∀ j u, news[j]? = some u → w.cell? (ad.add j) = some u) (h1c : ∀ u ∈ news, u.oneCell' = true)
    (b1 : n + m ≤ maxLen) (b2 : (n + m) * bytes ≤ 140737488355328)
    (hK : ∀ v' w', w'.ownsRow 0 e size v' (n + m) (xs ++ news) → w.grownBy w' v.ownBlock → newOr w v v' → wpList P ops Q rest (a.put o.dst v') w') :
    wpList P ops Q (o :: rest) a w := by
  rcases hown.2 with ⟨rfl, rfl⟩ | ⟨g, cap, cur, rfl, hb, hgg, hnc, _⟩
  · have hx0 : xs = [] := List.eq_nil_of_length_eq_zero (by simpa using hown.1)
    subst hx0
    refine wpList_append_grows w hg s x t hop e i z size bytes h1 h2 h3 h4 h5 h6 h7 none 0 0 [] hs (fun _ => ⟨rfl, rfl⟩) (by simp) (fun b hb => by simp at hb) ad m c news hx hn hc h1c (by omega) b1 b2 ?_
    intro v' w' ho hgr
    exact hK v' w' (row_base ho (Nat.zero_le _)) (grownBy_any hgr _) (fun k hk => .inr (ho.lt k hk).1)
  · by_cases hr : n + m ≤ cap
    · refine wpList_append_fits w hg s x t hop 0 e i size h1 h2 h4 g n cap xs hs hown ad m c news hx hn hc h1c hr ?_
      intro w' ho hgr
      exact hK _ w' ho hgr (fun k hk => .inl hk)
    · refine wpList_append_grows w hg s x t hop e i z size bytes h1 h2 h3 h4 h5 h6 h7 (some ⟨g, 0, none⟩) n cap xs hs (fun h => by simp at h) hown.1
        (fun b hb j u hu => by cases hb; exact hown.cells (g := g) rfl j u hu) ad m c news hx hn hc h1c (by omega) b1 b2 ?_
      intro v' w' ho hgr
      exact hK v' w' (row_base ho (Nat.zero_le _)) (grownBy_any hgr _) (fun k hk => .inr (ho.lt k hk).1)

theorem addr_add (b off j : Nat) : (⟨b, off, none⟩ : Addr).add j = ⟨b, off + j, none⟩ := by unfold Addr.add; split <;> simp_all

/-! bits in bytes -/
def packByte (l : List Nat) (j : Nat) : Nat :=
  128 * l.getD (8 * j) 0 + 64 * l.getD (8 * j + 1) 0 + 32 * l.getD (8 * j + 2) 0 + 16 * l.getD (8 * j + 3) 0 + 8 * l.getD (8 * j + 4) 0 + 4 * l.getD (8 * j + 5) 0 + 2 * l.getD (8 * j + 6) 0 + l.getD (8 * j + 7) 0
def pack (l : List Nat) : List Nat := (List.range ((l.length + 7) / 8)).map (packByte l)
def bit01 (l : List Nat) : Prop := ∀ k, l.getD k 0 ≤ 1

theorem pack_length (l : List Nat) : (pack l).length = (l.length + 7) / 8 := by simp [pack]
theorem getD_snoc (l : List Nat) (x k : Nat) : (l ++ [x]).getD k 0 = l.getD k 0 + (if k = l.length then x else 0) := by
  simp only [List.getD_eq_getElem?_getD]
  rcases Nat.lt_trichotomy k l.length with h | h | h
  · rw [List.getElem?_append_left h, if_neg (by omega)]; rfl
  · subst h; simp
  · rw [List.getElem?_append_right (by omega), if_neg (by omega), List.getElem?_eq_none (by simp; omega), List.getElem?_eq_none (by omega)]; rfl
theorem bit01_nil : bit01 [] := by intro k; simp
theorem bit01_snoc {l : List Nat} (h : bit01 l) {x : Nat} (hx : x ≤ 1) : bit01 (l ++ [x]) := by
  intro k; rw [getD_snoc]; have := h k
  by_cases e : k = l.length
  · subst e; simp; exact hx
  · rw [if_neg e]; omega
theorem packByte_le {l : List Nat} (h : bit01 l) (j : Nat) : packByte l j ≤ 255 := by
  have a0 := h (8 * j); have a1 := h (8 * j + 1); have a2 := h (8 * j + 2); have a3 := h (8 * j + 3)
  have a4 := h (8 * j + 4); have a5 := h (8 * j + 5); have a6 := h (8 * j + 6); have a7 := h (8 * j + 7)
  unfold packByte; omega
theorem packByte_other (l : List Nat) (x j : Nat) (h : j ≠ l.length / 8) : packByte (l ++ [x]) j = packByte l j := by
  unfold packByte
  simp only [getD_snoc]
  rw [if_neg (by omega), if_neg (by omega), if_neg (by omega), if_neg (by omega), if_neg (by omega), if_neg (by omega), if_neg (by omega), if_neg (by omega)]
  simp
theorem packByte_here (l : List Nat) (x : Nat) : packByte (l ++ [x]) (l.length / 8) = packByte l (l.length / 8) + x * 2 ^ (7 - l.length % 8) := by
  unfold packByte
  simp only [getD_snoc]
  have hr : l.length % 8 < 8 := Nat.mod_lt _ (by omega)
  have hd := Nat.div_add_mod l.length 8
  generalize hq : l.length / 8 = q at *
  generalize hm : l.length % 8 = r at *
  generalize hlen : l.length = n at *
  match r, hr with
  | 0, _ => rw [if_pos (by omega), if_neg (by omega), if_neg (by omega), if_neg (by omega), if_neg (by omega), if_neg (by omega), if_neg (by omega), if_neg (by omega)]; simp; omega
  | 1, _ => rw [if_neg (by omega), if_pos (by omega), if_neg (by omega), if_neg (by omega), if_neg (by omega), if_neg (by omega), if_neg (by omega), if_neg (by omega)]; simp; omega
  | 2, _ => rw [if_neg (by omega), if_neg (by omega), if_pos (by omega), if_neg (by omega), if_neg (by omega), if_neg (by omega), if_neg (by omega), if_neg (by omega)]; simp; omega
  | 3, _ => rw [if_neg (by omega), if_neg (by omega), if_neg (by omega), if_pos (by omega), if_neg (by omega), if_neg (by omega), if_neg (by omega), if_neg (by omega)]; simp; omega
  | 4, _ => rw [if_neg (by omega), if_neg (by omega), if_neg (by omega), if_neg (by omega), if_pos (by omega), if_neg (by omega), if_neg (by omega), if_neg (by omega)]; simp; omega
  | 5, _ => rw [if_neg (by omega), if_neg (by omega), if_neg (by omega), if_neg (by omega), if_neg (by omega), if_pos (by omega), if_neg (by omega), if_neg (by omega)]; simp; omega
  | 6, _ => rw [if_neg (by omega), if_neg (by omega), if_neg (by omega), if_neg (by omega), if_neg (by omega), if_neg (by omega), if_pos (by omega), if_neg (by omega)]; simp; omega
  | 7, _ => rw [if_neg (by omega), if_neg (by omega), if_neg (by omega), if_neg (by omega), if_neg (by omega), if_neg (by omega), if_neg (by omega), if_pos (by omega)]; simp; omega
/-- The bits of the last byte that were not yet written are zeros. -/
theorem packByte_free (l : List Nat) : packByte l (l.length / 8) % 2 ^ (8 - l.length % 8) = 0 := by
  have z : ∀ k, l.length ≤ k → l.getD k 0 = 0 := fun k hk => by simp [List.getD_eq_getElem?_getD, List.getElem?_eq_none hk]
  unfold packByte
  have hr : l.length % 8 < 8 := Nat.mod_lt _ (by omega)
  have hd := Nat.div_add_mod l.length 8
  generalize hq : l.length / 8 = q at *
  generalize hm : l.length % 8 = r at *
  match r, hr with
  | 0, _ => rw [z (8 * q) (by omega), z (8 * q + 1) (by omega), z (8 * q + 2) (by omega), z (8 * q + 3) (by omega), z (8 * q + 4) (by omega), z (8 * q + 5) (by omega), z (8 * q + 6) (by omega), z (8 * q + 7) (by omega)]
  | 1, _ => rw [z (8 * q + 1) (by omega), z (8 * q + 2) (by omega), z (8 * q + 3) (by omega), z (8 * q + 4) (by omega), z (8 * q + 5) (by omega), z (8 * q + 6) (by omega), z (8 * q + 7) (by omega)]; simp
  | 2, _ => rw [z (8 * q + 2) (by omega), z (8 * q + 3) (by omega), z (8 * q + 4) (by omega), z (8 * q + 5) (by omega), z (8 * q + 6) (by omega), z (8 * q + 7) (by omega)]; simp; omega
  | 3, _ => rw [z (8 * q + 3) (by omega), z (8 * q + 4) (by omega), z (8 * q + 5) (by omega), z (8 * q + 6) (by omega), z (8 * q + 7) (by omega)]; simp; omega
  | 4, _ => rw [z (8 * q + 4) (by omega), z (8 * q + 5) (by omega), z (8 * q + 6) (by omega), z (8 * q + 7) (by omega)]; simp; omega
  | 5, _ => rw [z (8 * q + 5) (by omega), z (8 * q + 6) (by omega), z (8 * q + 7) (by omega)]; simp; omega
  | 6, _ => rw [z (8 * q + 6) (by omega), z (8 * q + 7) (by omega)]; simp; omega
  | 7, _ => rw [z (8 * q + 7) (by omega)]; simp; omega
theorem pack_get (l : List Nat) (j : Nat) : (pack l)[j]? = if j < (l.length + 7) / 8 then some (packByte l j) else none := by
  unfold pack
  by_cases h : j < (l.length + 7) / 8
  · rw [if_pos h]; simp [h]
  · rw [if_neg h]; exact List.getElem?_eq_none (by simp; omega)
theorem pack_snoc_new {l : List Nat} (x : Nat) (h : l.length % 8 = 0) : pack (l ++ [x]) = pack l ++ [128 * x] := by
  refine List.ext_getElem? fun j => ?_
  rw [pack_get]
  simp only [List.length_append, List.length_cons, List.length_nil]
  rcases Nat.lt_trichotomy j (l.length / 8) with hj | hj | hj
  · rw [if_pos (by omega), List.getElem?_append_left (by rw [pack_length]; omega), pack_get, if_pos (by omega), packByte_other _ _ _ (by omega)]
  · subst hj
    rw [if_pos (by omega), List.getElem?_append_right (by rw [pack_length]; omega), packByte_here, h]
    have hf := packByte_free l
    rw [h] at hf
    have hz : packByte l (l.length / 8) = 0 := by
      have z : ∀ k, l.length ≤ k → l.getD k 0 = 0 := fun k hk => by simp [List.getD_eq_getElem?_getD, List.getElem?_eq_none hk]
      unfold packByte
      rw [z _ (by omega), z _ (by omega), z _ (by omega), z _ (by omega), z _ (by omega), z _ (by omega), z _ (by omega), z _ (by omega)]
    rw [hz, pack_length]
    simp [show (l.length + 7) / 8 = l.length / 8 by omega]
    omega
  · rw [if_neg (by omega), List.getElem?_eq_none (by simp [pack_length]; omega)]
theorem pack_snoc_in {l : List Nat} (x : Nat) (h : 0 < l.length % 8) : pack (l ++ [x]) = (pack l).set (l.length / 8) (packByte l (l.length / 8) + x * 2 ^ (7 - l.length % 8)) := by
  refine List.ext_getElem? fun j => ?_
  rw [pack_get, List.getElem?_set, pack_get]
  simp only [List.length_append, List.length_cons, List.length_nil, pack_length]
  by_cases hj : l.length / 8 = j
  · subst hj
    rw [if_pos (by omega), if_pos rfl, if_pos (by omega), packByte_here]
  · rw [if_neg hj]
    by_cases hk : j < (l.length + 7) / 8
    · rw [if_pos (by omega), if_pos hk, packByte_other _ _ _ (by omega)]
    · rw [if_neg (by omega), if_neg hk]
theorem or_add {old x r : Nat} (hr : r < 8) (h : old % 2 ^ (8 - r) = 0) (hx : x ≤ 1) : old ||| (x * 2 ^ (7 - r)) = old + x * 2 ^ (7 - r) := by
  have hlt : x * 2 ^ (7 - r) < 2 ^ (8 - r) := by
    have : 2 ^ (8 - r) = 2 * 2 ^ (7 - r) := by rw [show 8 - r = (7 - r) + 1 by omega, Nat.pow_succ]; omega
    have hp : 0 < 2 ^ (7 - r) := Nat.two_pow_pos _
    rw [this]
    rcases (show x = 0 ∨ x = 1 by omega) with rfl | rfl <;> omega
  obtain ⟨q, rfl⟩ := Nat.dvd_of_mod_eq_zero h
  exact (Nat.two_pow_add_eq_or_of_lt hlt q).symm
/-! shifts -/
theorem run_shl {P : Program} (w : World) (k yk : IntKind) (x y : Int) (h0 : 0 ≤ y) (h1 : y ≤ k.bits) : (Op.shift .shl k x yk y).run P w = .ok (.int k (k.wrap (x * 2 ^ y.toNat))) w := by
  unfold Op.shift
  rw [if_neg (by omega), show min y.toNat k.bits = y.toNat by omega]
  rfl
theorem run_shr {P : Program} (w : World) (k yk : IntKind) (x y : Int) (h0 : 0 ≤ y) (h1 : y ≤ k.bits) : (Op.shift .shr k x yk y).run P w = .ok (.int k (x / 2 ^ y.toNat)) w := by
  unfold Op.shift
  rw [if_neg (by omega), show min y.toNat k.bits = y.toNat by omega]
  have : x.fdiv (2 ^ y.toNat) = x / 2 ^ y.toNat := Int.fdiv_eq_ediv_of_nonneg _ (Int.le_of_lt (Int.pow_pos (by decide)))
  simp only [this]
  rfl
theorem and_one {z x s : Nat} (hz : z ≤ 255) (hx : x = z / 2 ^ s % 2) : Go.bits .and .u8 ((z : Int) / 2 ^ s) 1 = (x : Int) := by
  have e : ((z : Int) / 2 ^ s) = ((z / 2 ^ s : Nat) : Int) := by simp
  have hle : z / 2 ^ s ≤ 255 := Nat.le_trans (Nat.div_le_self _ _) hz
  rw [e]
  have := u8_and_nat (z / 2 ^ s) 1 (by omega) (by omega)
  simp only [Nat.and_one_is_mod] at this
  rw [hx]
  exact this
theorem or_val {n x old : Nat} (ho : old ≤ 255) (hx : x ≤ 1) : Go.bits .or .u8 (old : Int) (wrap64 ((x : Int) * 2 ^ (7 - n % 8)) % 256) = ((old ||| (x * 2 ^ (7 - n % 8)) : Nat) : Int) := by
  have h2 : 2 ^ (7 - n % 8) ≤ 2 ^ 7 := Nat.pow_le_pow_right (by omega) (by omega)
  have h3 := Nat.mul_le_mul hx h2
  have e : ((x : Int) * 2 ^ (7 - n % 8)) = ((x * 2 ^ (7 - n % 8) : Nat) : Int) := by simp
  rw [e]
  generalize x * 2 ^ (7 - n % 8) = y at *
  rw [show wrap64 (y : Int) % 256 = (y : Int) by unfold wrap64; omega]
  exact u8_or_nat _ _ (by omega) (by omega)
end Go.Proofs.Ytmdladcfckoglaa

namespace Go.Proofs.Ytmdladcfckoglaa
open Go.RowKit

set_option maxRecDepth 100000 in
set_option maxHeartbeats 400000 in
theorem add_in (b g cap n : Nat) (x old : Nat) (w : World) (hn : n ≤ 1099511627776) (h8 : 0 < n % 8) (hx : x ≤ 1) (ho : old ≤ 255)
   (h0 : w.cell? ⟨b, 0, none⟩ = some (.slice (some ⟨g, 0, none⟩) ((n + 7) / 8) cap)) (h1 : w.cell? ⟨b, 1, none⟩ = some (.int .i64 n))
   (f1 : w.frozen? ⟨b, 1, none⟩ = false) (fg : w.frozen? ⟨g, n / 8, none⟩ = false)
   (hg : w.cell? ⟨g, n / 8, none⟩ = some (.int .u8 old)) (hbg : b ≠ g) :
    Calls Try.prog 65 #[.pointer (some ⟨b, 0, none⟩), .int .i64 x] w fun e w' => e = .returned (.tuple #[]) ∧
      w' = (w.drew.setCell ⟨g, n / 8, none⟩ (.int .u8 ((old ||| (x * 2 ^ (7 - n % 8)) : Nat)))).setCell ⟨b, 1, none⟩ (.int .i64 (n + 1 : Nat)) := by
  have t8 : ((n : Int) % 8 == 0) = false := by simp; omega
  have hidx : n / 8 < (n + 7) / 8 := by omega
  have hidx' : (n : Int) / 8 < ((n : Int) + 7) / 8 := by omega
  have hidx0 : 0 ≤ (n : Int) / 8 := by omega
  have q0 : ((n : Int) / 8).toNat = n / 8 := by omega
  go_enter Try.func65, Try.ntmps65
  go_wp2
  have q1 : (7 - (n : Int) % 8).toNat = 7 - n % 8 := by omega
  have hs0 : 0 ≤ 7 - (n : Int) % 8 := by omega
  have hs1 : 7 - (n : Int) % 8 < 64 := by omega
  have k0 : (n : Int).tmod 8 = (n : Int) % 8 := Int.tmod_eq_emod_of_nonneg (by omega)
  have k1 : IntKind.i64.wrap ((n : Int) / 8) = (n : Int) / 8 := IntWalk.i64_in _ (by omega)
  have k2 : IntKind.i64.wrap (7 - (n : Int) % 8) = 7 - (n : Int) % 8 := IntWalk.i64_in _ (by omega)
  refine wp_region_still_tail 22 (by kernel_rfl) (by kernel_rfl) ?_
  simp only [List.take_succ_cons, List.take_zero, List.drop_succ_cons, List.drop_zero]
  repeat still_step
  refine wpStill_nil ?_
  change wpList _ _ _ _ _ w.drew
  go_wp2
  go_end0
  refine ⟨rfl, ?_⟩
  rw [or_val ho hx]
  rfl

theorem Try.info5 : (Try.prog.info? 5).map (fun i => (i.zero, i.size, i.bytes)) = some (some (.int .u8 0), 1, 1) := by kernel_rfl

set_option maxRecDepth 100000 in
set_option maxHeartbeats 400000 in
theorem add_new (b n : Nat) (v : Value) (x : Nat) (zs : List Value) (w : World) (hn : n ≤ 1099511627776) (h8 : n % 8 = 0) (hx : x ≤ 1)
   (hb : w.heap[b]? = some (.cells #[v, .int .i64 n] 79 (0, 0)))
   (hown : w.ownsRow 0 5 1 v (n / 8) zs) :
    Calls Try.prog 65 #[.pointer (some ⟨b, 0, none⟩), .int .i64 x] w fun e w' => e = .returned (.tuple #[]) ∧
      ∃ g cap w1, w1.ownsRow 0 5 1 (.slice (some ⟨g, 0, none⟩) (n / 8 + 1) cap) (n / 8 + 1) (zs ++ [.int .u8 0]) ∧ (w.alloc (.cells #[.int .u8 0] 5)).grownBy w1 v.ownBlock ∧ (v.ownBlock = some g ∨ w.heap.size ≤ g) ∧ b ≠ g ∧
      w' = (((w1.setCell ⟨b, 0, none⟩ (.slice (some ⟨g, 0, none⟩) (n / 8 + 1) cap)).drew.setCell ⟨g, n / 8, none⟩ (.int .u8 ((x * 128 : Nat)))).setCell ⟨b, 1, none⟩ (.int .i64 (n + 1 : Nat))) := by
  obtain ⟨i0, hi, hz0, hz1, hz2⟩ := info_parts Try.info5
  have t8 : ((n : Int) % 8 == 0) = true := by simp; omega
  have h0 : w.cell? ⟨b, 0, none⟩ = some v := by simp [World.cell?, hb]
  have h1 : w.cell? ⟨b, 1, none⟩ = some (.int .i64 n) := by simp [World.cell?, hb]
  have f0 : w.frozen? ⟨b, 0, none⟩ = false := by simp [World.frozen?, hb]
  have hbs : b < w.heap.size := lt_of_block hb
  have hne := row_ne hown hb (by decide)
  have hl : zs.length = n / 8 := by simpa using hown.1
  have Hb := Lib.hid hb; clear hb
  go_enter Try.func65, Try.ntmps65
  go_wp2_with (at_builtin; refine wpList_append_mine rfl _ _ 32 rfl 5 i0 (.int .u8 0) 1 1 Try.underlying32 hi hz0 hz1 hz2 rfl (by decide) _ _ _ rfl (hown.alloc _) ⟨w.heap.size, 0, none⟩ 1 1 [.int .u8 0] rfl (by decide) rfl ?c1 ?c2 ?c3 ?c4 ?_)
  case c1 => exact cell_one_new _ _ _
  case c2 => simp [Value.oneCell']
  case c3 => unfold maxLen; omega
  case c4 => omega
  intro v' w1 hown' hgrow hnew
  obtain ⟨g, cap, rfl⟩ := row_slice hown' (by omega)
  have hb1 : w1.heap[b]? = some (.cells #[v, .int .i64 n] 79 (0, 0)) :=
    (hgrow.block b (by simp; omega) (fun e => hne e.symm)).trans ((Below.heap_alloc _ _ _ hbs).trans Hb.out)
  have hbg : b ≠ g := fun e => row_ne hown' hb1 (by decide) (by simp [Value.ownBlock, e])
  have g0 : w1.cell? ⟨b, 0, none⟩ = some v := by simp [World.cell?, hb1]
  have g1 : w1.cell? ⟨b, 1, none⟩ = some (.int .i64 n) := by simp [World.cell?, hb1]
  have gf : w1.frozen? ⟨b, 0, none⟩ = false := by simp [World.frozen?, hb1]
  have gf1 : w1.frozen? ⟨b, 1, none⟩ = false := by simp [World.frozen?, hb1]
  have gg : w1.cell? ⟨g, n / 8, none⟩ = some (.int .u8 0) := by
    rw [hown'.cellAt _ (by omega), ← hl]; simp
  have ggf : w1.frozen? ⟨g, n / 8, none⟩ = false := hown'.frozenAt _
  have hidx : n / 8 < n / 8 + 1 := by omega
  have hidx' : (n : Int) / 8 < (n : Int) / 8 + 1 := by omega
  have hidx0 : 0 ≤ (n : Int) / 8 := by omega
  have q0 : ((n : Int) / 8).toNat = n / 8 := by omega
  have Hb1 := Lib.hid hb1; clear hb1
  have Hl := Lib.hid hl; clear hl
  go_wp2
  obtain ⟨W, hW⟩ : ∃ W, W = w1.setCell ⟨b, 0, none⟩ (.slice (some ⟨g, 0, none⟩) (n / 8 + 1) cap) := ⟨_, rfl⟩
  rw [← hW]
  have c0 : W.cell? ⟨b, 0, none⟩ = some (.slice (some ⟨g, 0, none⟩) (n / 8 + 1) cap) := by rw [hW]; exact World.cell?_setCell_same _ _ _ g0
  have c1 : W.cell? ⟨b, 1, none⟩ = some (.int .i64 n) := by rw [hW, World.cell?_setCell_other _ _ _ _ (by simp)]; exact g1
  have cf1 : W.frozen? ⟨b, 1, none⟩ = false := by rw [hW, World.frozen?_setCell]; exact gf1
  have cg : W.cell? ⟨g, n / 8, none⟩ = some (.int .u8 0) := by rw [hW, World.cell?_setCell_other _ _ _ _ (by simp)]; exact gg
  have cgf : W.frozen? ⟨g, n / 8, none⟩ = false := by rw [hW, World.frozen?_setCell]; exact ggf
  have HW := Lib.hid hW; clear hW
  clear g0 g1 gf gf1 gg ggf
  have q1 : (7 - (n : Int) % 8).toNat = 7 - n % 8 := by omega
  have hs0 : 0 ≤ 7 - (n : Int) % 8 := by omega
  have hs1 : 7 - (n : Int) % 8 < 64 := by omega
  have k0 : (n : Int).tmod 8 = (n : Int) % 8 := Int.tmod_eq_emod_of_nonneg (by omega)
  have k1 : IntKind.i64.wrap ((n : Int) / 8) = (n : Int) / 8 := IntWalk.i64_in _ (by omega)
  have k2 : IntKind.i64.wrap (7 - (n : Int) % 8) = 7 - (n : Int) % 8 := IntWalk.i64_in _ (by omega)
  refine wp_region_still_tail 22 (by kernel_rfl) (by kernel_rfl) ?_
  simp only [List.take_succ_cons, List.take_zero, List.drop_succ_cons, List.drop_zero]
  repeat still_step
  refine wpStill_nil ?_
  go_wp2
  go_end0
  refine ⟨rfl, g, cap, w1, hown', hgrow, ?_, hbg, ?_⟩
  · rcases hnew g rfl with h | h
    · exact .inl h
    · simp at h; exact .inr (by omega)
  · have e : Go.bits .or .u8 0 ((x : Int) * 128) = ((x * 128 : Nat) : Int) := by
      have := u8_or_nat 0 (x * 128) (by omega) (by omega)
      simpa using this
    rw [e, ← HW.out]
    rfl

/-- A writer at block b: its bits are l, its bytes the slice v. -/
def WAt (w : World) (b : Nat) (l : List Nat) (v : Value) : Prop :=
  w.heap[b]? = some (.cells #[v, .int .i64 (l.length : Nat)] 79 (0, 0)) ∧ w.ownsRow 0 5 1 v ((l.length + 7) / 8) ((pack l).map fun z : Nat => Value.int .u8 z) ∧ bit01 l
def wfoot (b : Nat) (v : Value) : Nat → Prop := fun k => k = b ∨ v.ownBlock = some k

theorem WAt.upd {w w' : World} {b : Nat} {l : List Nat} {v : Value} (h : WAt w b l v) {S : Nat → Prop} (u : Upd S w w') (hs : ∀ k, wfoot b v k → ¬ S k) : WAt w' b l v :=
  ⟨u.heap h.1 (hs b (.inl rfl)), u.row h.2.1 (fun k hk => hs k (.inr hk)), h.2.2⟩
theorem WAt.len {w : World} {b : Nat} {l : List Nat} {v : Value} (h : WAt w b l v) : w.cell? ⟨b, 1, none⟩ = some (.int .i64 (l.length : Nat)) := by simp [World.cell?, h.1]

theorem add_any (b : Nat) (l : List Nat) (v : Value) (x : Nat) (w : World) (h : WAt w b l v) (hl : l.length < 1099511627776) (hx : x ≤ 1) :
    Calls Try.prog 65 #[.pointer (some ⟨b, 0, none⟩), .int .i64 x] w fun e w' => e = .returned (.tuple #[]) ∧
      ∃ v', WAt w' b (l ++ [x]) v' ∧ Upd (wfoot b v) w w' ∧ newOr w v v' := by
  obtain ⟨hb, hown, hbit⟩ := h
  have hbs := lt_of_block hb
  by_cases h8 : l.length % 8 = 0
  · rw [show (l.length + 7) / 8 = l.length / 8 by omega] at hown
    refine (add_new b l.length v x _ w (by omega) h8 hx hb hown).mono ?_
    rintro e w' ⟨rfl, g, cap, w1, hown', hgrow, hnew, hbg, rfl⟩
    have hne := row_ne hown hb (by decide)
    have hb1 : w1.heap[b]? = some (.cells #[v, .int .i64 (l.length : Nat)] 79 (0, 0)) :=
      (hgrow.block b (by simp; omega) (fun e => hne e.symm)).trans ((Below.heap_alloc _ _ _ hbs).trans hb)
    have hpl : (pack l).length = l.length / 8 := by rw [pack_length]; omega
    refine ⟨rfl, .slice (some ⟨g, 0, none⟩) (l.length / 8 + 1) cap, ⟨?_, ?_, bit01_snoc hbit hx⟩, ?_, ?_⟩
    · have e1 := block_set (i := 0) hb1 (.slice (some ⟨g, 0, none⟩) (l.length / 8 + 1) cap)
      have e2 : ((w1.setCell ⟨b, 0, none⟩ (.slice (some ⟨g, 0, none⟩) (l.length / 8 + 1) cap)).drew.setCell ⟨g, l.length / 8, none⟩ (.int .u8 ((x * 128 : Nat)))).heap[b]? = _ :=
        block_keep (w := (w1.setCell ⟨b, 0, none⟩ (.slice (some ⟨g, 0, none⟩) (l.length / 8 + 1) cap)).drew) e1 (p := ⟨g, l.length / 8, none⟩) (fun e => hbg e.symm) _
      rw [block_set e2]
      simp
    · have r1 := ownsRow_setCell_other hown' (a := ⟨b, 0, none⟩) (by simp [Value.ownBlock]; exact fun e => hbg e.symm) (.slice (some ⟨g, 0, none⟩) (l.length / 8 + 1) cap)
      have r2 := (World.ownsRow.stored (w := (w1.setCell ⟨b, 0, none⟩ (.slice (some ⟨g, 0, none⟩) (l.length / 8 + 1) cap)).drew) r1 (l.length / 8) (.int .u8 ((x * 128 : Nat)))).1
      have r3 := ownsRow_setCell_other r2 (a := ⟨b, 1, none⟩) (by simp [Value.ownBlock]; exact fun e => hbg e.symm) (.int .i64 (l.length + 1 : Nat))
      have e3 : ((l ++ [x]).length + 7) / 8 = l.length / 8 + 1 := by simp; omega
      rw [e3, pack_snoc_new x h8]
      simpa [List.set_append, hpl, Nat.mul_comm] using r3
    · refine Upd.setCell (Upd.setCell (Upd.drew (Upd.setCell (Upd.grown ((Upd.refl _ w).alloc _) hgrow ?_) _ ?_)) _ ?_) _ ?_
      · intro k hk _; exact .inr hk
      · intro _; exact .inl rfl
      · intro hg
        rcases hnew with h | h
        · exact .inr h
        · exact absurd hg (by simp; omega)
      · intro _; exact .inl rfl
    · intro k hk
      have : g = k := by simpa [Value.ownBlock] using hk
      subst this
      exact hnew
  · have h8' : 0 < l.length % 8 := by omega
    obtain ⟨g, cap, rfl⟩ := row_slice hown (by omega)
    have hbg : b ≠ g := fun e => row_ne hown hb (by decide) (by simp [Value.ownBlock, e])
    have hpl := pack_length l
    have hcell : w.cell? ⟨g, l.length / 8, none⟩ = some (.int .u8 (packByte l (l.length / 8) : Nat)) := by
      rw [hown.cellAt _ (by omega), List.getElem?_map, pack_get, if_pos (by omega)]; rfl
    refine (add_in b g cap l.length x (packByte l (l.length / 8)) w (by omega) h8' hx (packByte_le hbit _) (by simp [World.cell?, hb]) (by simp [World.cell?, hb]) (by simp [World.frozen?, hb]) (hown.frozenAt _) hcell hbg).mono ?_
    rintro e w' ⟨rfl, rfl⟩
    refine ⟨rfl, .slice (some ⟨g, 0, none⟩) ((l.length + 7) / 8) cap, ⟨?_, ?_, bit01_snoc hbit hx⟩, ?_, newOr.refl _ _⟩
    · have e2 : (w.drew.setCell ⟨g, l.length / 8, none⟩ (.int .u8 ((packByte l (l.length / 8) ||| (x * 2 ^ (7 - l.length % 8)) : Nat)))).heap[b]? = _ :=
        block_keep (w := w.drew) hb (p := ⟨g, l.length / 8, none⟩) (fun e => hbg e.symm) _
      rw [block_set e2]
      simp
    · have r2 := (World.ownsRow.stored (w := w.drew) hown (l.length / 8) (.int .u8 ((packByte l (l.length / 8) ||| (x * 2 ^ (7 - l.length % 8)) : Nat)))).1
      have r3 := ownsRow_setCell_other r2 (a := ⟨b, 1, none⟩) (by simp [Value.ownBlock]; exact fun e => hbg e.symm) (.int .i64 (l.length + 1 : Nat))
      have e3 : ((l ++ [x]).length + 7) / 8 = (l.length + 7) / 8 := by simp; omega
      rw [e3, pack_snoc_in x h8', List.map_set, ← or_add (by omega) (packByte_free l) hx]
      exact r3
    · refine Upd.setCell (Upd.setCell (Upd.drew (Upd.refl _ w)) _ ?_) _ ?_
      · intro _; exact .inr rfl
      · intro _; exact .inl rfl
end Go.Proofs.Ytmdladcfckoglaa

namespace Go.Proofs.Ytmdladcfckoglaa
open Go.RowKit Go.Shelf
attribute [local go_sem] Oper.semAt_some

abbrev Bit := { x : Nat // x ≤ 1 }
def KeepD (D : Nat → Prop) (A B : World) : Prop := ∀ k, D k → B.heap[k]? = A.heap[k]?
theorem KeepD.trans {D : Nat → Prop} {A B C : World} (h : KeepD D A B) (k : KeepD D B C) : KeepD D A C := fun i hi => (k i hi).trans (h i hi)
theorem KeepD.refl (D : Nat → Prop) (A : World) : KeepD D A A := fun _ _ => rfl
theorem KeepD.cell {D : Nat → Prop} {A B : World} (h : KeepD D A B) {p : Addr} (hp : D p.block) : B.cell? p = A.cell? p := World.cell?_of_block (w := A) (h p.block hp)
theorem Upd.keepD {S D : Nat → Prop} {A B : World} (h : Upd S A B) (hd : ∀ k, D k → k < A.heap.size ∧ ¬ S k) : KeepD D A B := fun k hk => h.block k (hd k hk).1 (hd k hk).2

/-- The slice sv holds the bytes zs. -/
def Bytes (W : World) (sv : Value) (zs : List Nat) : Prop :=
  (∀ j, zs.getD j 0 ≤ 255) ∧ ∃ a cap, sv = .slice a zs.length cap ∧ zs.length ≤ cap ∧ (zs = [] ∨ ∃ b off, a = some ⟨b, off, none⟩ ∧ ∀ j, j < zs.length → W.cell? ⟨b, off + j, none⟩ = some (.int .u8 (zs.getD j 0 : Nat)))
theorem Bytes.keep {W W' : World} {sv : Value} {zs : List Nat} (h : Bytes W sv zs) {D : Nat → Prop} (k : KeepD D W W') (hd : zs ≠ [] → ∀ b, sv.ownBlock = some b → D b) : Bytes W' sv zs := by
  obtain ⟨h1, a, cap, rfl, hlc, h2⟩ := h
  refine ⟨h1, a, cap, rfl, hlc, ?_⟩
  rcases h2 with h2 | ⟨b, off, rfl, h2⟩
  · exact .inl h2
  · exact .inr ⟨b, off, rfl, fun j hj => (k.cell (p := ⟨b, off + j, none⟩) (hd (by rintro rfl; simp at hj) b rfl)).trans (h2 j hj)⟩
def bitOf (zs : List Nat) (k : Nat) : Nat := zs.getD (k / 8) 0 / 2 ^ (7 - k % 8) % 2
def bitsOf (zs : List Nat) (s n : Nat) : List Nat := (List.range n).map fun i => bitOf zs (s + i)
theorem bitOf_le (zs : List Nat) (k : Nat) : bitOf zs k ≤ 1 := by unfold bitOf; omega
theorem bitsOf_succ (zs : List Nat) (s n : Nat) : bitsOf zs s (n + 1) = bitsOf zs s n ++ [bitOf zs (s + n)] := by simp [bitsOf, List.range_succ]
theorem bitsOf_take (zs : List Nat) (s : Nat) {k n : Nat} (h : k ≤ n) : bitsOf zs s k <+: bitsOf zs s n := by
  obtain ⟨d, rfl⟩ := Nat.exists_eq_add_of_le h
  induction d with
  | zero => exact List.prefix_refl _
  | succ d ih => rw [← Nat.add_assoc, bitsOf_succ]; exact (ih (by omega)).trans (List.prefix_append _ _)

theorem between_in (a : Option Addr) (len cap : Nat) (s t : Int) (w : World) :
    Calls Try.prog 64 #[.slice a len cap, .int .i64 s, .int .i64 t] w fun e w' =>
      e = .returned (.func (.func 94) #[] #[.pointer (some ⟨w.heap.size + 1, 0, none⟩), .pointer (some ⟨w.heap.size + 2, 0, none⟩), .pointer (some ⟨w.heap.size, 0, none⟩)]) ∧
      w' = ((w.alloc (.cells #[.slice a len cap] 32)).alloc (.cells #[.int .i64 s] 3)).alloc (.cells #[.int .i64 t] 3) := by
  go_enter Try.func64, Try.ntmps64
  go_wp2
  go_ret
  exact ⟨rfl, rfl⟩

set_option maxRecDepth 100000 in
set_option maxHeartbeats 1000000 in
theorem between1_in (l Bf Bt Bb : Nat) (sv : Value) (zs : List Nat) (s n N : Nat) (hN : n ≤ N) (hle : s + n ≤ 8 * zs.length) (hreach : zs.length ≤ 140737488355328)
    (J Jx : List Bit → World → Prop) (D : Nat → Prop) (hDf : D Bf) (hDt : D Bt) (hDb : D Bb) (hDs : zs ≠ [] → ∀ b, sv.ownBlock = some b → D b)
    (hY : ∀ pre x W, J pre W → pre.length < N → YieldAt Fence.wide 0 Try.prog l #[.int .i64 (x.1 : Nat)] W fun e W' =>
      (e = .returned (.bool true) ∧ J (pre ++ [x]) W' ∧ KeepD D W W') ∨ (e = .returned (.bool false) ∧ Jx (pre ++ [x]) W'))
    (W : World) (hf : W.cell? ⟨Bf, 0, none⟩ = some (.int .i64 s)) (ht : W.cell? ⟨Bt, 0, none⟩ = some (.int .i64 (s + n : Nat))) (hb : W.cell? ⟨Bb, 0, none⟩ = some sv)
    (hs : Bytes W sv zs) (h0 : J [] W) :
    CallsIn Fence.wide 1 Try.prog 94 #[.func (.yield l) #[] #[], .pointer (some ⟨Bf, 0, none⟩), .pointer (some ⟨Bt, 0, none⟩), .pointer (some ⟨Bb, 0, none⟩)] W fun e W' => (∃ v, e = .returned v) ∧
      ((∃ ys, ys.map Subtype.val = bitsOf zs s n ∧ J ys W') ∨ (∃ pre, pre.map Subtype.val <+: bitsOf zs s n ∧ Jx pre W')) := by
  refine callsIn_of_wp Try.func94 rfl trivial ?_ rfl
  simp only [Try.ntmps94, List.size_toArray, List.length_cons, List.length_nil, Nat.reduceAdd, Nat.reduceSub, Array.replicate_succ, Array.replicate_zero, List.push_toArray, List.append_toArray, List.nil_append, List.cons_append]
  gi_wp2
  gi_loopw [5] (fun i wr => ∃ (k : Nat) (ys : List Bit), k ≤ n ∧ i = .int .i64 (s + k : Nat) ∧ ys.map Subtype.val = bitsOf zs s k ∧ J ys wr ∧ KeepD D W wr)
    (fun i _ => s + n - (intOf i).toNat)
  case atStart => exact ⟨0, [], Nat.zero_le _, rfl, rfl, h0, KeepD.refl _ _⟩
  case round =>
    obtain ⟨k, ys, hk, rfl, hys, hJs, hkd⟩ := hrel
    have Hys := Lib.hid hys; clear hys
    have ef : wr.cell? ⟨Bf, 0, none⟩ = some (.int .i64 s) := (hkd.cell (p := ⟨Bf, 0, none⟩) hDf).trans hf
    have et : wr.cell? ⟨Bt, 0, none⟩ = some (.int .i64 (s + n : Nat)) := (hkd.cell (p := ⟨Bt, 0, none⟩) hDt).trans ht
    have eb : wr.cell? ⟨Bb, 0, none⟩ = some sv := (hkd.cell (p := ⟨Bb, 0, none⟩) hDb).trans hb
    have es := hs.keep hkd hDs
    by_cases hlt : k < n
    · obtain ⟨q, hq⟩ : ∃ q, q = s + k := ⟨_, rfl⟩
      obtain ⟨⟨x, hx⟩, hxb⟩ : ∃ xb : Bit, xb.1 = bitOf zs q := ⟨⟨_, bitOf_le _ _⟩, rfl⟩
      have hy0 := hY ys ⟨x, hx⟩ wr hJs (by have := congrArg List.length Hys.out; simp [bitsOf] at this; omega)
      obtain ⟨h255, a, cap, rfl, _, hz⟩ := es
      have hz' : zs ≠ [] := by rintro rfl; simp at hle; omega
      rcases hz with hz | ⟨b, off, rfl, hz⟩
      · exact absurd hz hz'
      have hz0 := hz (q / 8) (by omega)
      have hz1 := h255 (q / 8)
      rw [← hq]
      have hy1 : x = zs.getD (q / 8) 0 / 2 ^ (7 - q % 8) % 2 := hxb
      have hnext : (ys ++ [(⟨x, hx⟩ : Bit)]).map Subtype.val = bitsOf zs s (k + 1) := by
        rw [List.map_append, Hys.out, bitsOf_succ, ← hq, ← hxb]; rfl
      have Hnext := Lib.hid hnext; clear hnext
      have Hxb := Lib.hid hxb; clear hxb
      have hqn : q < s + n := by omega
      have hqz : q / 8 < zs.length := by omega
      obtain ⟨fn, tmps, assign, body, hy, hR⟩ := hy0
      dsimp only at hy
      have Hq := Lib.hid hq; clear hq
      generalize zs.getD (q / 8) 0 = z at *
      have hbit : Go.bits .and .u8 ((z : Int) / 2 ^ (7 - q % 8)) 1 = (x : Int) := and_one hz1 hy1
      have Hy1 := Lib.hid hy1; clear hy1
      have Hs := Lib.hid hs
      have Hz := Lib.hid hz
      have H2 := Lib.hid h255
      clear hs hz h255 hY
      gi_wp2
      refine hR.mono ?_
      rintro e W3 (⟨rfl, hJ3, hk3⟩ | ⟨rfl, hJx3⟩)
      · gi_wp2
        go_roundw
        case rel => exact ⟨k + 1, ys ++ [⟨x, hx⟩], by omega, by rw [Hq.out]; simp; omega, Hnext.out, hJ3, hkd.trans hk3⟩
        case measure => simp [intOf]; omega
      · gi_wp2
        refine bodyPost_ret (results_none rfl _ _ _) rfl ?_
        refine ⟨⟨_, rfl⟩, .inr ⟨ys ++ [⟨x, hx⟩], ?_, hJx3⟩⟩
        rw [Hnext.out]
        exact bitsOf_take zs s (show k + 1 ≤ n by omega)
    · obtain rfl : k = n := by omega
      clear hY
      gi_wp2
      go_end0
      exact ⟨⟨_, rfl⟩, .inl ⟨ys, Hys.out, hJs⟩⟩

abbrev encBit (x : Bit) : Array Value := #[.int .i64 (x.1 : Nat)]
def betweenLb (B : Nat) : Array Value := #[.pointer (some ⟨B + 1, 0, none⟩), .pointer (some ⟨B + 2, 0, none⟩), .pointer (some ⟨B, 0, none⟩)]
/-- The blocks that the iterator reads: its three boxes, and the bytes. -/
def betweenD (B : Nat) (sv : Value) (zs : List Nat) : Nat → Prop := fun k => k = B ∨ k = B + 1 ∨ k = B + 2 ∨ (zs ≠ [] ∧ sv.ownBlock = some k)
theorem between_seq (B : Nat) (sv : Value) (zs : List Nat) (s n : Nat) (w : World) (hle : s + n ≤ 8 * zs.length) (hreach : zs.length ≤ 140737488355328)
    (hf : w.cell? ⟨B + 1, 0, none⟩ = some (.int .i64 s)) (ht : w.cell? ⟨B + 2, 0, none⟩ = some (.int .i64 (s + n : Nat))) (hb : w.cell? ⟨B, 0, none⟩ = some sv)
    (hs : Bytes w sv zs) (hD : ∀ k, betweenD B sv zs k → k < w.heap.size) :
    SeqStopsK Fence.wide 1 Try.prog 94 (betweenLb B) encBit (KeepD (betweenD B sv zs)) (fun ys => ys.map Subtype.val = bitsOf zs s n) (fun pre => pre.map Subtype.val <+: bitsOf zs s n) n w := fun l J Jx W hW _ _ hY h0 => by
  have hk : KeepD (betweenD B sv zs) w W := fun k hk => hW.block k (hD k hk)
  refine between1_in l (B + 1) (B + 2) B sv zs s n n (Nat.le_refl _) hle hreach J Jx (betweenD B sv zs) (.inr (.inl rfl)) (.inr (.inr (.inl rfl))) (.inl rfl) (fun hz b h => .inr (.inr (.inr ⟨hz, h⟩))) hY W
    ((hk.cell (p := ⟨B + 1, 0, none⟩) (.inr (.inl rfl))).trans hf) ((hk.cell (p := ⟨B + 2, 0, none⟩) (.inr (.inr (.inl rfl)))).trans ht) ((hk.cell (p := ⟨B, 0, none⟩) (.inl rfl)).trans hb) ?_ h0
  exact hs.keep hk (fun hz b h => .inr (.inr (.inr ⟨hz, h⟩)))

theorem keepD_putObj {D : Nat → Prop} {W : World} {l : Nat} {o' : Obj} (hl : ¬ D l) : KeepD D W (W.putObj l o') := fun k hk => World.putObj_heap_other (fun e => hl (by rw [← e]; exact hk))

set_option maxRecDepth 100000 in
set_option maxHeartbeats 1000000 in
/-- feed: each item is handed to take. -/
theorem feed_in {gf K : Nat} {lb first cap : Array Value} {Kp : World → World → Prop} {S Sp : List Bit → Prop} {N : Nat} (w : World)
    (eg : ∀ args w, (callFunc gf args).run Try.prog w = .ok (.enter gf args) w) (eK : ∀ args w, (callFunc K args).run Try.prog w = .ok (.enter K args) w)
    (hseq : SeqStopsK Fence.wide 1 Try.prog gf lb encBit Kp S Sp N w)
    (hKt : ∀ {A B C : World}, Kp A B → Kp B C → Kp A C) (hKb : ∀ (W : World) (l : Nat) (o' : Obj), w.heap.size ≤ l → Kp W (W.putObj l o'))
    (I : List Bit → World → Prop) (hI : OwnFrom w.heap.size I) (h0 : I [] w)
    (hK : ∀ pre x W, I pre W → pre.length < N → W.heap[w.heap.size]? = some (.cells #[.func (.func K) first cap] 84 (0, 0)) → Calls Try.prog K (first.push (.int .i64 (x.1 : Nat)) ++ cap) W fun e W' => (∃ v, e = .returned v) ∧ I (pre ++ [x]) W' ∧ Kp W W' ∧ KeepsFrom w.heap.size W W' ∧ KeepD (fun k => k = w.heap.size) W W') :
    Calls Try.prog 63 #[.func (.func gf) #[] lb, .func (.func K) first cap] w fun e W' => e = .returned (.tuple #[]) ∧ ∃ ys, S ys ∧ I ys W' := by
  refine (callsIn_wide (n := 2)).1 ?_
  refine callsIn_of_wp_marks Try.func63 rfl trivial ?_ rfl
  simp only [Try.ntmps63, List.size_toArray, List.length_cons, List.length_nil, Nat.reduceAdd, Nat.reduceSub, Array.replicate_succ, Array.replicate_zero, List.push_toArray, List.append_toArray, List.nil_append, List.cons_append]
  have Hseq := Lib.hid hseq; clear hseq
  have HK := Lib.hid @hK; clear hK
  gi_wp2
  refine wpIn_rangeFunc_ownG rfl (by omega) (gf := gf) (lb := lb) rfl trivial eg Hseq.out hKt (fun W l o o' hl _ _ _ => hKb W l o' (by simp at hl; omega))
    ((Below.refl _ w).alloc (Nat.le_refl _) _) (fun _ => rfl)
    (fun pre W => I pre W ∧ W.heap[w.heap.size]? = some (.cells #[.func (.func K) first cap] 84 (0, 0)))
    (fun _ _ _ => False)
    (fun s A B row hs hg hr => ⟨hI s A B row hs.1 hg (fun r e => ⟨by have := (hr r e).1; simp at this; omega, (hr r e).2⟩), (hg.block _ (lt_of_block hs.2) (fun e => by have := (hr _ e.symm).1; simp at this; omega)).trans hs.2⟩)
    (fun _ _ _ _ _ hs _ _ => hs)
    ⟨hI.alloc _ h0, heap_alloc_new w _⟩
    (fun x => { tmps := #[.func (.func gf) #[] lb, .func (.func K) first cap, undef, .pointer (some ⟨w.heap.size, 0, none⟩), .int .i64 (x.1 : Nat), .func (.func gf) #[] lb, .int .i64 (x.1 : Nat), undef, undef, undef], defers := [] }) ?assign ?body ?done ?stop
  case assign =>
    intro l x W K hK
    gi_wp2
    exact hK
  case body =>
    rintro l pre x W ⟨hi, hb⟩ hN
    have hc : W.cell? ⟨w.heap.size, 0, none⟩ = some (.func (.func K) first cap) := cell_of_one hb
    have Hb := Lib.hid hb; clear hb
    gi_wp2
    refine ⟨trivial, rfl, ((callsIn_wide.2 (HK.out pre x W hi hN Hb.out)).inRound l).mono ?_⟩
    rintro e W' ⟨⟨v, rfl⟩, hi', hkp, hkf, hkd⟩
    gi_wp2
    exact ⟨⟨hkf.size, fun k o hk => hkf.same k o (by simp at hk; omega)⟩, hkp, hi', (hkd _ rfl).trans Hb.out⟩
  case done =>
    rintro D ys W hD hS ⟨hi, _⟩ hK
    gi_wp2
    refine ⟨by simp, .inl ⟨_, _, rfl, run_takeDeferred hK, ?_⟩⟩
    exact ⟨_, results_none rfl _ _ _, rfl, ys, hS, hI.putObj _ hi (by simp at hD; omega) hK rfl⟩
  case stop =>
    rintro D c pre W _ _ h _
    exact h.elim
end Go.Proofs.Ytmdladcfckoglaa

namespace Go.Proofs.Ytmdladcfckoglaa
open Go.RowKit Go.Shelf

theorem i64_and1 (n : Int) : Go.bits .and .i64 n 1 = n % 2 := by
  have h1 : (BitVec.ofInt 64 1).toNat = 2 ^ 1 - 1 := by decide
  have key : (BitVec.ofInt 64 n &&& BitVec.ofInt 64 1).toNat = (n % ((2 ^ 64 : Nat) : Int)).toNat % 2 ^ 1 := by
    rw [BitVec.toNat_and, BitVec.toNat_ofInt, h1, Nat.and_two_pow_sub_one_eq_mod]
  show IntKind.i64.wrap ((BitVec.ofInt 64 n &&& BitVec.ofInt 64 1).toNat : Nat) = n % 2
  rw [key, IntKind.wrap_i64]
  omega

theorem ediv_neg_one {x d : Int} (h1 : x < 0) (h2 : -d ≤ x) : x / d = -1 := by
  have hd : 0 < d := by omega
  have h3 := Int.ediv_mul_le x (show d ≠ 0 by omega)
  have h4 := Int.lt_ediv_add_one_mul_self x hd
  have h5 : x / d < 0 := Int.ediv_neg_of_neg_of_pos h1 hd
  have h6 : -1 ≤ x / d := by
    rcases Int.lt_or_le (x / d) (-1) with h | h
    · have : (x / d + 1) * d ≤ (-1) * d := Int.mul_le_mul_of_nonneg_right (by omega) (by omega)
      omega
    · exact h
  omega
theorem shr_min {x : Int} (m : Nat) (h0 : -9223372036854775808 ≤ x) (h1 : x ≤ 9223372036854775807) : x / 2 ^ min m 64 = x / 2 ^ m := by
  rcases Nat.lt_or_ge 64 m with h | h
  · have e : min m 64 = 64 := by omega
    rw [e]
    have hp : (2 : Int) ^ 64 ≤ 2 ^ m := by
      have := Nat.pow_le_pow_right (n := 2) (by decide) (show 64 ≤ m by omega)
      exact_mod_cast this
    have hp' : (2 : Int) ^ 64 = 18446744073709551616 := by decide
    rw [hp'] at hp ⊢
    rcases Int.lt_or_le x 0 with hx | hx
    · rw [ediv_neg_one hx (by omega), ediv_neg_one hx (by omega)]
    · rw [Int.ediv_eq_zero_of_lt hx (by omega), Int.ediv_eq_zero_of_lt hx (by omega)]
  · rw [show min m 64 = m by omega]

/-- The first k of the n bits of v, from the highest one on. -/
def numTo (v : Int) (n k : Nat) : List Nat := (List.range k).map fun i => (v / 2 ^ (n - 1 - i) % 2).toNat
def numBits (v : Int) (n : Nat) : List Nat := numTo v n n
theorem numTo_succ (v : Int) (n k : Nat) : numTo v n (k + 1) = numTo v n k ++ [(v / 2 ^ (n - 1 - k) % 2).toNat] := by simp [numTo, List.range_succ]
theorem numTo_length (v : Int) (n k : Nat) : (numTo v n k).length = k := by simp [numTo]
theorem numBits_length (v : Int) (n : Nat) : (numBits v n).length = n := by simp [numBits, numTo]

/-- What a call of the writer at b leaves. -/
def WPost (b : Nat) (v0 : Value) (w : World) (l : List Nat) (w' : World) : Prop := ∃ v, WAt w' b l v ∧ Upd (wfoot b v0) w w' ∧ newOr w v0 v
theorem WPost.next {b : Nat} {v0 v1 : Value} {w w1 w2 : World} {l : List Nat} (u : Upd (wfoot b v0) w w1) (n1 : newOr w v0 v1) (h : WPost b v1 w1 l w2) : WPost b v0 w l w2 := by
  obtain ⟨v, ha, hu, hn⟩ := h
  refine ⟨v, ha, u.trans hu ?_, n1.trans hn u.size⟩
  rintro i hi (rfl | hi')
  · exact .inl rfl
  · rcases n1 i hi' with h | h
    · exact .inr h
    · omega

theorem room_any (b : Nat) (n : Nat) (w : World) (h : w.cell? ⟨b, 1, none⟩ = some (.int .i64 n)) (hn : n ≤ 1099511627776) :
    Calls Try.prog 62 #[.pointer (some ⟨b, 0, none⟩)] w fun e w' => e = .returned (.int .i64 (1048576 - (n : Int))) ∧ w = w' := by
  go_enter Try.func62, Try.ntmps62
  go_wp2
  go_ret
  exact ⟨rfl, rfl⟩

theorem wlen_some (b : Nat) (n : Int) (w : World) (h : w.cell? ⟨b, 1, none⟩ = some (.int .i64 n)) :
    Calls Try.prog 28 #[.pointer (some ⟨b, 0, none⟩)] w fun e w' => e = .returned (.int .i64 n) ∧ w = w' := by
  go_enter Try.func28, Try.ntmps28
  go_wp2
  go_ret
  exact ⟨rfl, rfl⟩
theorem wlen_nil (w : World) :
    Calls Try.prog 28 #[.pointer none] w fun e w' => e = .returned (.int .i64 0) ∧ w = w' := by
  go_enter Try.func28, Try.ntmps28
  go_wp2
  go_ret
  exact ⟨rfl, rfl⟩

set_option maxRecDepth 100000 in
set_option maxHeartbeats 1000000 in
theorem number_any (b : Nat) (l : List Nat) (v : Value) (x : Int) (n : Nat) (w : World) (h : WAt w b l v) (hl : l.length + n < 1099511627776) (hn : n ≤ 2000) (hx0 : -9223372036854775808 ≤ x) (hx1 : x ≤ 9223372036854775807) :
    Calls Try.prog 109 #[.pointer (some ⟨b, 0, none⟩), .agg #[.int .i64 x, .int .i64 n]] w fun e w' => e = .returned (.tuple #[]) ∧ WPost b v w (l ++ numBits x n) w' := by
  have hbs := lt_of_block h.1
  obtain ⟨w1, hw1⟩ : ∃ w1, w1 = w.alloc (.cells #[.int .i64 x, .int .i64 n] 113) := ⟨_, rfl⟩
  have b1 : w1.heap[w.heap.size]? = some (.cells #[.int .i64 x, .int .i64 n] 113 (0, 0)) := by rw [hw1]; exact heap_alloc_new w _
  have u1 : Upd (wfoot b v) w w1 := by rw [hw1]; exact (Upd.refl _ _).alloc _
  have a1 : WAt w1 b l v := by
    rw [hw1]; exact h.upd ((Upd.refl NoB _).alloc _) (fun _ _ h => h)
  have hne : b ≠ w.heap.size := by omega
  have hrow : ∀ k, v.ownBlock = some k → k < w.heap.size := fun k hk => (h.2.1.lt k hk).2
  have c0 : w1.cell? ⟨w.heap.size, 0, none⟩ = some (.int .i64 x) := by simp [World.cell?, b1]
  have c1 : w1.cell? ⟨w.heap.size, 1, none⟩ = some (.int .i64 n) := by simp [World.cell?, b1]
  go_enter Try.func109, Try.ntmps109
  go_wp2_with fail
  rw [← hw1]
  have Hw1 := Lib.hid hw1; clear hw1
  have B1 := Lib.hid b1; clear b1
  have A1 := Lib.hid a1; clear a1
  have Hne := Lib.hid hne; clear hne
  clear h
  go_loopw [4] (fun i wr => ∃ (k : Nat) (vk : Value), k ≤ n ∧ i = .int .i64 ((n : Int) - 1 - k) ∧ WAt wr b (l ++ numTo x n k) vk ∧ Upd (wfoot b v) w wr ∧ newOr w v vk ∧ wr.heap[w.heap.size]? = some (.cells #[.int .i64 x, .int .i64 n] 113 (0, 0)))
    (fun i _ => (intOf i + 1).toNat)
  case atStart => exact ⟨0, v, Nat.zero_le _, by go_num, by simpa [numTo] using A1.out, u1, newOr.refl _ _, B1.out⟩
  case round =>
    obtain ⟨k, vk, hk, rfl, ha, hu, hnw, hB⟩ := hrel
    have hc : wr.cell? ⟨w.heap.size, 0, none⟩ = some (.int .i64 x) := by simp [World.cell?, hB]
    have HB := Lib.hid hB; clear hB
    clear c0 c1 u1
    by_cases hlt : k < n
    · obtain ⟨m, hm⟩ : ∃ m : Nat, m = n - 1 - k := ⟨_, rfl⟩
      have em : (n : Int) - 1 - k = (m : Int) := by omega
      rw [em]
      obtain ⟨y, hy⟩ : ∃ y : Nat, y = (x / 2 ^ m % 2).toNat := ⟨_, rfl⟩
      have hbit : Go.bits .and .i64 (x / 2 ^ min m 64) 1 = (y : Int) := by rw [i64_and1, shr_min m hx0 hx1, hy]; omega
      have hsnoc : l ++ numTo x n (k + 1) = (l ++ numTo x n k) ++ [y] := by rw [numTo_succ, ← hm, ← hy, List.append_assoc]
      have hy1 : y ≤ 1 := by omega
      have hm1 : m < 2000 := by omega
      have hll : (l ++ numTo x n k).length < 1099511627776 := by rw [List.length_append, numTo_length]; omega
      have Hy := Lib.hid hy; clear hy
      have Hm := Lib.hid hm; clear hm
      have Hem := Lib.hid em; clear em
      have Hs := Lib.hid hsnoc; clear hsnoc
      have Ha := Lib.hid ha; clear ha
      go_wp2_with (go_at_call 65; refine (add_any b _ vk y _ Ha.out hll hy1).mono ?_; rintro e w2 ⟨rfl, v2, ha2, hu2, hn2⟩)
      go_roundw
      case rel =>
        refine ⟨k + 1, v2, by omega, ?_, by rw [Hs.out]; exact ha2, ?_, hnw.trans hn2 hu.size, hu2.heap HB.out ?_⟩
        · rw [← Hem.out]; go_num
        · refine hu.trans hu2 ?_
          rintro i hi (rfl | hi')
          · exact .inl rfl
          · rcases hnw i hi' with h | h
            · exact .inr h
            · omega
        · rintro (h | h)
          · exact Hne.out h.symm
          · exact row_ne Ha.out.2.1 HB.out (by decide) h
      case measure => simp [intOf] <;> omega
    · obtain rfl : k = n := by omega
      have Ha := Lib.hid ha; clear ha
      go_wp2
      go_end0
      exact ⟨rfl, vk, Ha.out, hu, hnw⟩
end Go.Proofs.Ytmdladcfckoglaa

namespace Go.Proofs.Ytmdladcfckoglaa
open Go.RowKit Go.Shelf

def u8s (zs : List Nat) : List Value := zs.map fun z : Nat => Value.int .u8 z
theorem u8s_length (zs : List Nat) : (u8s zs).length = zs.length := by simp [u8s]
theorem u8s_one (zs : List Nat) : ∀ u ∈ u8s zs, u.oneCell' = true := by
  intro u hu
  simp only [u8s, List.mem_map] at hu
  obtain ⟨z, _, rfl⟩ := hu
  rfl
theorem u8s_get (zs : List Nat) (j : Nat) : (u8s zs)[j]? = if j < zs.length then some (.int .u8 (zs.getD j 0 : Nat)) else none := by
  unfold u8s
  by_cases h : j < zs.length
  · rw [if_pos h]; simp [List.getD_eq_getElem?_getD, h]
  · rw [if_neg h]; simp; omega
/-- A slice of the call's own with the bytes zs. -/
def Row8 (w : World) (v : Value) (zs : List Nat) : Prop := w.ownsRow 0 5 1 v zs.length (u8s zs) ∧ ∀ j, zs.getD j 0 ≤ 255
theorem Row8.bytes {w : World} {v : Value} {zs : List Nat} (h : Row8 w v zs) : Bytes w v zs := by
  refine ⟨h.2, ?_⟩
  by_cases hz : zs = []
  · subst hz
    rcases h.1.2 with ⟨rfl, _⟩ | ⟨g, cap, cur, rfl, _, _, hnc, _⟩
    · exact ⟨none, 0, rfl, Nat.le_refl _, .inl rfl⟩
    · exact ⟨_, _, rfl, hnc, .inl rfl⟩
  · obtain ⟨g, cap, rfl⟩ := row_slice h.1 (List.length_pos_iff.2 hz)
    refine ⟨_, _, rfl, row_cap h.1, .inr ⟨g, 0, rfl, fun j hj => ?_⟩⟩
    rw [Nat.zero_add, h.1.cellAt _ (by omega), u8s_get, if_pos hj]
def newB (w : World) (v : Value) : Prop := ∀ k, v.ownBlock = some k → w.heap.size ≤ k

set_option maxRecDepth 100000 in
set_option maxHeartbeats 1000000 in
theorem clone_any (sv : Value) (zs : List Nat) (w : World) (h : Bytes w sv zs) (hl : zs.length ≤ 140737488355328) :
    Calls Try.prog 76 #[sv] w fun e w' => ∃ v, e = .returned v ∧ Row8 w' v zs ∧ Upd NoB w w' ∧ newB w v := by
  obtain ⟨i0, hi, hz0, hz1, hz2⟩ := info_parts Try.info5
  obtain ⟨h255, a, cap, rfl, _, hc⟩ := h
  have hnil := fun (w : World) (a : Option Addr) (n c : Nat) => Lib.run_eql_slice_nil (P := Try.prog) w 32 5 a n c 0 0 Try.underlying32
  cases a with
  | none =>
    have hz : zs = [] := by
      rcases hc with h | ⟨b, off, h, _⟩
      · exact h
      · cases h
    subst hz
    go_enter Try.func76, Try.ntmps76
    go_wp2
    go_ret
    exact ⟨_, rfl, ⟨World.ownsRow_nil _ _ _ _, h255⟩, Upd.refl _ _, fun k hk => by simp [Value.ownBlock] at hk⟩
  | some ad =>
    have hl0 := World.ownsRow_lit (base := 0) (size := 1) (e := 5) w #[] 0 (Nat.zero_le _) (Nat.zero_le _) rfl
    by_cases hz : zs = []
    · subst hz
      go_enter Try.func76, Try.ntmps76
      go_wp2_with fail
      go_ret
      refine ⟨_, rfl, ⟨hl0, h255⟩, (Upd.refl _ _).alloc _, fun k hk => ?_⟩
      simp [Value.ownBlock] at hk; omega
    · rcases hc with h | ⟨b, off, h, hc⟩
      · exact absurd h hz
      · cases h
        have hpos := List.length_pos_iff.2 hz
        have hcell : ∀ j u, (u8s zs)[j]? = some u → (w.alloc (.cells #[] 5)).cell? ((⟨b, off, none⟩ : Addr).add j) = some u := by
          intro j u hu
          rw [u8s_get] at hu
          by_cases hj : j < zs.length
          · rw [if_pos hj] at hu
            rw [addr_add]
            have := hc j hj
            rw [World.cell?_alloc_past _ _ _ (World.block_lt_of_cell? w _ this), this, hu]
          · rw [if_neg hj] at hu; cases hu
        have H2 := Lib.hid h255; clear h255
        have Hc := Lib.hid hc; clear hc
        have hz' : (zs.length == 0) = false := by simp; exact hz
        go_enter Try.func76, Try.ntmps76
        go_wp2_with (at_builtin; refine wpList_append_mine rfl _ _ 32 rfl 5 i0 (.int .u8 0) 1 1 Try.underlying32 hi hz0 hz1 hz2 rfl (by decide) _ _ _ rfl hl0 ⟨b, off, none⟩ zs.length cap (u8s zs) rfl hpos ?c1 hcell (u8s_one zs) ?c3 ?c4 ?_)
        case c1 => simp [u8s_length]
        case c3 => unfold maxLen; omega
        intro v' w1 hown hgr hnew
        go_wp2
        go_ret
        refine ⟨_, rfl, ⟨hown, H2.out⟩, Upd.grown ((Upd.refl _ _).alloc _) hgr ?_, fun k hk => ?_⟩
        · intro k hk hlt
          simp [Value.ownBlock] at hk; omega
        · rcases hnew k hk with h | h
          · simp [Value.ownBlock] at h; omega
          · simp at h; omega

/-- Bytes of the writer. -/
theorem wbytes_any (b : Nat) (l : List Nat) (v : Value) (w : World) (h : WAt w b l v) (hl : l.length ≤ 1099511627776) :
    Calls Try.prog 31 #[.pointer (some ⟨b, 0, none⟩)] w fun e w' => ∃ v', e = .returned v' ∧ Row8 w' v' (pack l) ∧ Upd NoB w w' ∧ newB w v' := by
  have hb : Row8 w v (pack l) := ⟨by rw [pack_length]; exact h.2.1, fun j => by
    simp only [List.getD_eq_getElem?_getD, pack_get]
    by_cases hj : j < (l.length + 7) / 8
    · rw [if_pos hj]; exact packByte_le h.2.2 j
    · rw [if_neg hj]; simp⟩
  have h0 : w.cell? ⟨b, 0, none⟩ = some v := by simp [World.cell?, h.1]
  have hlen : (pack l).length ≤ 140737488355328 := by rw [pack_length]; omega
  have Hb := Lib.hid hb; clear hb
  have H := Lib.hid h; clear h
  go_enter Try.func31, Try.ntmps31
  go_wp2_with (go_at_call 76; refine (clone_any _ _ _ Hb.out.bytes hlen).mono ?_; rintro e w2 ⟨v2, rfl, hr, hu, hn⟩)
  go_ret
  exact ⟨_, rfl, hr, hu, hn⟩
theorem wbytes_nil (w : World) :
    Calls Try.prog 31 #[.pointer none] w fun e w' => e = .returned (.slice none 0 0) ∧ w = w' := by
  go_enter Try.func31, Try.ntmps31
  go_wp2
  go_ret
  exact ⟨rfl, rfl⟩
end Go.Proofs.Ytmdladcfckoglaa

namespace Go.Proofs.Ytmdladcfckoglaa
open Go.RowKit Go.Shelf
attribute [local go_sem] Oper.semAt_some

abbrev Fld := { p : Int × Nat // p.2 ≤ 1001 ∧ -9223372036854775808 ≤ p.1 ∧ p.1 ≤ 9223372036854775807 }
def fldSum (fs : List Fld) : Nat := (fs.map fun p => p.1.2).sum
def fldBits (fs : List Fld) : List Nat := (fs.map fun p => numBits p.1.1 p.1.2).flatten
theorem fldBits_length (fs : List Fld) : (fldBits fs).length = fldSum fs := by
  induction fs with
  | nil => rfl
  | cons p fs ih => simp only [fldBits, fldSum, List.map_cons, List.flatten_cons, List.length_append, List.sum_cons, numBits_length] at ih ⊢; rw [ih]
theorem fldSum_snoc (fs : List Fld) (p : Fld) : fldSum (fs ++ [p]) = fldSum fs + p.1.2 := by simp [fldSum]
theorem fldBits_snoc (fs : List Fld) (p : Fld) : fldBits (fs ++ [p]) = fldBits fs ++ numBits p.1.1 p.1.2 := by simp [fldBits]
theorem fldSum_take (fs : List Fld) (k : Nat) : fldSum (fs.take k) ≤ 1001 * k := by
  induction k generalizing fs with
  | zero => simp [fldSum]
  | succ k ih =>
    cases fs with
    | nil => simp [fldSum]
    | cons p fs =>
      have := ih fs
      have := p.2.1
      simp only [fldSum, List.take_succ_cons, List.map_cons, List.sum_cons] at *
      omega
/-- The slice sv holds the fields fs. -/
def Flds (W : World) (sv : Value) (fs : List Fld) : Prop :=
  ∃ b cap, sv = .slice (some ⟨b, 0, none⟩) fs.length cap ∧ (∃ c fr, W.heap[b]? = some (.cells c 113 fr)) ∧ ∀ j p, fs[j]? = some p → W.cell? ⟨b, j * 2, none⟩ = some (.int .i64 p.1.1) ∧ W.cell? ⟨b, j * 2 + 1, none⟩ = some (.int .i64 (p.1.2 : Nat))
theorem Flds.keep {W W' : World} {sv : Value} {fs : List Fld} (h : Flds W sv fs) {D : Nat → Prop} (k : KeepD D W W') (hd : ∀ b, sv.ownBlock = some b → D b) : Flds W' sv fs := by
  obtain ⟨b, cap, rfl, ⟨c, fr, hcf⟩, h⟩ := h
  exact ⟨b, cap, rfl, ⟨c, fr, (k b (hd b rfl)).trans hcf⟩, fun j p hj => ⟨(k.cell (p := ⟨b, j * 2, none⟩) (hd b rfl)).trans (h j p hj).1, (k.cell (p := ⟨b, j * 2 + 1, none⟩) (hd b rfl)).trans (h j p hj).2⟩⟩

theorem KeepD.alloc {D : Nat → Prop} {W wr : World} (h : KeepD D W wr) (hlt : ∀ k, D k → k < W.heap.size) (o : Obj) : KeepD D W (wr.alloc o) := fun k hk => by
  have h1 := h k hk
  have h2 : k < wr.heap.size := by
    rw [Array.getElem?_eq_getElem (hlt k hk)] at h1
    exact (Array.getElem?_eq_some_iff.1 h1).1
  exact (Below.heap_alloc _ _ _ h2).trans h1
theorem values_in (sv : Value) (w : World) (hsv : ∃ a n c, sv = .slice a n c) :
    Calls Try.prog 108 #[sv] w fun e w' =>
      e = .returned (.func (.func 113) #[] #[.pointer (some ⟨w.heap.size, 0, none⟩)]) ∧ w' = w.alloc (.cells #[sv] 122) := by
  obtain ⟨a, n, c, rfl⟩ := hsv
  go_enter Try.func108, Try.ntmps108
  go_wp2
  go_ret
  exact ⟨rfl, rfl⟩

set_option maxRecDepth 100000 in
set_option maxHeartbeats 1000000 in
theorem values1_in (l Bs : Nat) (sv : Value) (fs : List Fld) (N : Nat) (hN : fs.length ≤ N) (hreach : fs.length ≤ 1000)
    (J Jx : List Fld → World → Prop) (D : Nat → Prop) (hDs : D Bs) (hDv : ∀ b, sv.ownBlock = some b → D b)
    (hJ : ∀ s W W', J s W → W.grownBy W' none → J s W')
    (hY : ∀ pre x W, J pre W → pre.length < N → YieldAt Fence.wide 0 Try.prog l #[.agg #[.int .i64 x.1.1, .int .i64 (x.1.2 : Nat)]] W fun e W' =>
      (e = .returned (.bool true) ∧ J (pre ++ [x]) W' ∧ KeepD D W W') ∨ (e = .returned (.bool false) ∧ Jx (pre ++ [x]) W'))
    (W : World) (hDlt : ∀ k, D k → k < W.heap.size) (hb : W.cell? ⟨Bs, 0, none⟩ = some sv) (hs : Flds W sv fs) (h0 : J [] W) :
    CallsIn Fence.wide 1 Try.prog 113 #[.func (.yield l) #[] #[], .pointer (some ⟨Bs, 0, none⟩)] W fun e W' => (∃ v, e = .returned v) ∧
      ((∃ ys, ys = fs ∧ J ys W') ∨ (∃ pre, pre <+: fs ∧ Jx pre W')) := by
  refine callsIn_of_wp Try.func113 rfl trivial ?_ rfl
  simp only [Try.ntmps113, List.size_toArray, List.length_cons, List.length_nil, Nat.reduceAdd, Nat.reduceSub, Array.replicate_succ, Array.replicate_zero, List.push_toArray, List.append_toArray, List.nil_append, List.cons_append]
  obtain ⟨b, cap, rfl, _, hc⟩ := hs
  have Hc := Lib.hid @hc; clear hc
  have HJ := Lib.hid @hJ; clear hJ
  have HY := Lib.hid @hY; clear hY
  gi_wp2
  gi_loopw [7] (fun i wr => ∃ (k : Nat), k ≤ fs.length ∧ i = .int .i64 k ∧ J (fs.take k) wr ∧ KeepD D W wr)
    (fun i _ => fs.length - (intOf i).toNat)
  case atStart => exact ⟨0, Nat.zero_le _, rfl, h0, KeepD.refl _ _⟩
  case round =>
    obtain ⟨k, hk, rfl, hJs, hkd⟩ := hrel
    have eb := (hkd.cell (p := ⟨Bs, 0, none⟩) hDs).trans hb
    by_cases hlt : k < fs.length
    · obtain ⟨⟨⟨x, n⟩, hx⟩, hp⟩ : ∃ p : Fld, fs[k]? = some p := ⟨fs[k], List.getElem?_eq_getElem hlt⟩
      have ⟨c0, c1⟩ := Hc.out k _ hp
      have d0 : wr.cell? ⟨b, k * 2, none⟩ = some (.int .i64 x) := (hkd.cell (p := ⟨b, k * 2, none⟩) (hDv b rfl)).trans c0
      have d1 : wr.cell? ⟨b, k * 2 + 1, none⟩ = some (.int .i64 n) := (hkd.cell (p := ⟨b, k * 2 + 1, none⟩) (hDv b rfl)).trans c1
      clear c0 c1
      have Hp := Lib.hid hp; clear hp
      have hJa := HJ.out _ _ _ hJs (World.grownBy_alloc wr (.cells #[.int .i64 x, .int .i64 n] 113) none)
      have hka := hkd.alloc hDlt (.cells #[.int .i64 x, .int .i64 n] 113)
      obtain ⟨fn, tmps, assign, body, hy, hR⟩ := HY.out _ ⟨(x, n), hx⟩ _ hJa (by simp; omega)
      dsimp only at hy
      have htk : fs.take k ++ [(⟨(x, n), hx⟩ : Fld)] = fs.take (k + 1) := by
        rw [List.take_add_one, Hp.out]; rfl
      rw [htk] at hR
      clear htk
      gi_wp2
      refine hR.mono ?_
      rintro e W3 (⟨rfl, hJ3, hk3⟩ | ⟨rfl, hJx3⟩)
      · gi_wp2
        go_roundw
        case rel => exact ⟨k + 1, by omega, by go_num, hJ3, hka.trans hk3⟩
        case measure => simp [intOf]; omega
      · gi_wp2
        refine bodyPost_ret (results_none rfl _ _ _) rfl ?_
        exact ⟨⟨_, rfl⟩, .inr ⟨fs.take (k + 1), List.take_prefix _ _, hJx3⟩⟩
    · obtain rfl : k = fs.length := by omega
      rw [List.take_length] at hJs
      gi_wp2
      go_end0
      exact ⟨⟨_, rfl⟩, .inl ⟨fs, rfl, hJs⟩⟩

abbrev encFld (x : Fld) : Array Value := #[.agg #[.int .i64 x.1.1, .int .i64 (x.1.2 : Nat)]]
def valD (B : Nat) (sv : Value) : Nat → Prop := fun k => k = B ∨ sv.ownBlock = some k
theorem values_seq (B : Nat) (sv : Value) (fs : List Fld) (w : World) (hreach : fs.length ≤ 1000) (hb : w.cell? ⟨B, 0, none⟩ = some sv) (hs : Flds w sv fs) (hD : ∀ k, valD B sv k → k < w.heap.size) :
    SeqStopsK Fence.wide 1 Try.prog 113 #[.pointer (some ⟨B, 0, none⟩)] encFld (KeepD (valD B sv)) (fun ys => ys = fs) (fun pre => pre <+: fs) fs.length w := fun l J Jx W hW hJ _ hY h0 => by
  have hk : KeepD (valD B sv) w W := fun k hk => hW.block k (hD k hk)
  exact values1_in l B sv fs fs.length (Nat.le_refl _) hreach J Jx (valD B sv) (.inl rfl) (fun b h => .inr h) (fun s A A' hs hg => hJ s A A' none hs hg (fun r e => by cases e)) hY W (fun k hk' => Nat.lt_of_lt_of_le (hD k hk') hW.size)
    ((hk.cell (p := ⟨B, 0, none⟩) (.inl rfl)).trans hb) (hs.keep hk (fun b h => .inr h)) h0

set_option maxRecDepth 100000 in
set_option maxHeartbeats 1000000 in
/-- feed of fields. -/
theorem feedf_in {gf K : Nat} {lb first cap : Array Value} {Kp : World → World → Prop} {S Sp : List Fld → Prop} {N : Nat} (w : World)
    (eg : ∀ args w, (callFunc gf args).run Try.prog w = .ok (.enter gf args) w) (eK : ∀ args w, (callFunc K args).run Try.prog w = .ok (.enter K args) w)
    (hseq : SeqStopsK Fence.wide 1 Try.prog gf lb encFld Kp S Sp N w)
    (hKt : ∀ {A B C : World}, Kp A B → Kp B C → Kp A C) (hKb : ∀ (W : World) (l : Nat) (o' : Obj), w.heap.size ≤ l → Kp W (W.putObj l o'))
    (hKa : ∀ (W : World) (o' : Obj), w.heap.size ≤ W.heap.size → Kp W (W.alloc o'))
    (I : List Fld → World → Prop) (hI : OwnFrom w.heap.size I) (hIs : ∀ pre W, I pre W → w.heap.size ≤ W.heap.size) (h0 : I [] w)
    (hK : ∀ pre x W, I pre W → pre.length < N → W.heap[w.heap.size]? = some (.cells #[.func (.func K) first cap] 127 (0, 0)) → Calls Try.prog K (first.push (.agg #[.int .i64 x.1.1, .int .i64 (x.1.2 : Nat)]) ++ cap) W fun e W' => (∃ v, e = .returned v) ∧ I (pre ++ [x]) W' ∧ Kp W W' ∧ KeepsFrom w.heap.size W W' ∧ KeepD (fun k => k = w.heap.size) W W') :
    Calls Try.prog 107 #[.func (.func gf) #[] lb, .func (.func K) first cap] w fun e W' => e = .returned (.tuple #[]) ∧ ∃ ys, S ys ∧ I ys W' := by
  refine (callsIn_wide (n := 2)).1 ?_
  refine callsIn_of_wp_marks Try.func107 rfl trivial ?_ rfl
  simp only [Try.ntmps107, List.size_toArray, List.length_cons, List.length_nil, Nat.reduceAdd, Nat.reduceSub, Array.replicate_succ, Array.replicate_zero, List.push_toArray, List.append_toArray, List.nil_append, List.cons_append]
  have Hseq := Lib.hid hseq; clear hseq
  have HK := Lib.hid @hK; clear hK
  have HKa := Lib.hid @hKa; clear hKa
  have HIs := Lib.hid @hIs; clear hIs
  gi_wp2
  refine wpIn_rangeFunc_ownH rfl (by omega) (gf := gf) (lb := lb) rfl trivial eg Hseq.out hKt (fun W l o o' hl _ _ _ => hKb W l o' (by simp at hl; omega))
    ((Below.refl _ w).alloc (Nat.le_refl _) _) (fun _ => rfl)
    (fun pre W => I pre W ∧ W.heap[w.heap.size]? = some (.cells #[.func (.func K) first cap] 127 (0, 0)))
    (fun _ _ _ => False)
    (fun s A B row hs hg hr => ⟨hI s A B row hs.1 hg (fun r e => ⟨by have := (hr r e).1; simp at this; omega, (hr r e).2⟩), (hg.block _ (lt_of_block hs.2) (fun e => by have := (hr _ e.symm).1; simp at this; omega)).trans hs.2⟩)
    (fun _ _ _ _ _ hs _ _ => hs)
    ⟨hI.alloc _ h0, heap_alloc_new w _⟩
    (fun x a' W => ∃ Bx, w.heap.size < Bx ∧ W.heap[Bx]? = some (.cells #[.int .i64 x.1.1, .int .i64 (x.1.2 : Nat)] 113 (0, 0)) ∧
      a' = { tmps := #[.func (.func gf) #[] lb, .func (.func K) first cap, undef, .pointer (some ⟨w.heap.size, 0, none⟩), .pointer (some ⟨Bx, 0, none⟩), .func (.func gf) #[] lb, .agg #[.int .i64 x.1.1, .int .i64 (x.1.2 : Nat)], undef, undef, undef], defers := [] })
    (fun x a' s A B row hs hg hr => by
      obtain ⟨Bx, h1, h2, h3⟩ := hs
      refine ⟨Bx, h1, (hg.block _ (lt_of_block h2) (fun e => ?_)).trans h2, h3⟩
      obtain ⟨_, o, ho, hc⟩ := hr _ e.symm
      rw [h2] at ho
      cases ho
      cases hc) ?assign ?body ?done ?stop
  case assign =>
    rintro l pre x W K ⟨hi, hb⟩ hK
    have hsz := HIs.out _ _ hi
    gi_wp2
    refine hK _ _ ((KeepsOthers.alloc _ _).from _) (HKa.out _ _ hsz) ⟨hI.alloc _ hi, (Below.heap_alloc _ _ _ (lt_of_block hb)).trans hb⟩ ⟨W.heap.size, lt_of_block hb, heap_alloc_new W _, rfl⟩
  case body =>
    rintro l pre x a' W _ _ ⟨hi, hb⟩ ⟨Bx, hx1, hx2, rfl⟩ hN
    have hc : W.cell? ⟨w.heap.size, 0, none⟩ = some (.func (.func K) first cap) := cell_of_one hb
    have d0 : W.cell? ⟨Bx, 0, none⟩ = some (.int .i64 x.1.1) := by simp [World.cell?, hx2]
    have d1 : W.cell? ⟨Bx, 1, none⟩ = some (.int .i64 (x.1.2 : Nat)) := by simp [World.cell?, hx2]
    have Hb := Lib.hid hb; clear hb
    have Hx2 := Lib.hid hx2; clear hx2
    gi_wp2
    refine ⟨trivial, rfl, ((callsIn_wide.2 (HK.out pre x W hi hN Hb.out)).inRound l).mono ?_⟩
    rintro e W' ⟨⟨v, rfl⟩, hi', hkp, hkf, hkd⟩
    gi_wp2
    exact ⟨⟨hkf.size, fun k o hk => hkf.same k o (by simp at hk; omega)⟩, hkp, hi', (hkd _ rfl).trans Hb.out⟩
  case done =>
    rintro D ys W hD hS ⟨hi, _⟩ hK
    gi_wp2
    refine ⟨by simp, .inl ⟨_, _, rfl, run_takeDeferred hK, ?_⟩⟩
    exact ⟨_, results_none rfl _ _ _, rfl, ys, hS, hI.putObj _ hi (by simp at hD; omega) hK rfl⟩
  case stop =>
    rintro D c pre W _ _ h _
    exact h.elim
end Go.Proofs.Ytmdladcfckoglaa

namespace Go.Proofs.Ytmdladcfckoglaa
open Go.RowKit Go.Shelf

theorem wloop_val (fs : List Fld) (k : Nat) (hk : k ≤ fs.length) (hf : fs.length ≤ 1000) : fldSum (fs.take k) ≤ 1001000 := by
  have := fldSum_take fs k
  omega
theorem fldSum_next {fs : List Fld} {k : Nat} {p : Fld} (h : fs[k]? = some p) : fldSum (fs.take (k + 1)) = fldSum (fs.take k) + p.1.2 := by
  rw [List.take_add_one, h, Option.toList_some, fldSum_snoc]

/-- What Values and number share: nothing. -/
theorem notcells_grown {S : Nat → Prop} {W W' : World} (h : Upd S W W') (hs : ∀ k, S k → ∃ c t fr, W.heap[k]? = some (.cells c t fr)) (B : Nat) : KeepsFrom B W W' :=
  ⟨h.size, fun k o _ hk ho => h.heap hk (fun hS => by
    obtain ⟨c, t, fr, hc⟩ := hs k hS
    rw [hc] at hk; cases hk; cases ho)⟩
theorem WAt.cells {w : World} {b : Nat} {l : List Nat} {v : Value} (h : WAt w b l v) : ∀ k, wfoot b v k → ∃ c t fr, w.heap[k]? = some (.cells c t fr) := by
  rintro k (rfl | hk)
  · exact ⟨_, _, _, h.1⟩
  · rcases h.2.1.2 with ⟨rfl, _⟩ | ⟨g, cap, cur, rfl, _, hg, _⟩
    · simp [Value.ownBlock] at hk
    · have : g = k := by simpa [Value.ownBlock] using hk
      subst this
      exact ⟨_, _, _, hg⟩
theorem WAt.lt {w : World} {b : Nat} {l : List Nat} {v : Value} (h : WAt w b l v) : ∀ k, wfoot b v k → k < w.heap.size := fun k hk => by
  obtain ⟨c, t, fr, hc⟩ := h.cells k hk
  exact lt_of_block hc
theorem WAt.grown {w w' : World} {b : Nat} {l : List Nat} {v : Value} (h : WAt w b l v) {row : Option Nat} (hg : w.grownBy w' row) (hr : ∀ r, row = some r → ∃ o : Obj, w.heap[r]? = some o ∧ o.isCells = false) : WAt w' b l v :=
  h.upd (S := fun k => row = some k) (Upd.grown (Upd.refl _ w) hg (fun k hk _ => hk)) (fun k hk hrow => by
    obtain ⟨o, ho, hc⟩ := hr k hrow
    obtain ⟨c, t, fr, hcc⟩ := h.cells k hk
    rw [hcc] at ho; cases ho; cases hc)

set_option maxRecDepth 100000 in
set_option maxHeartbeats 1000000 in
theorem write_full (b : Nat) (l : List Nat) (v sv : Value) (fs : List Fld) (w : World) (h : WAt w b l v) (hl : l.length ≤ 1099511627776) (hs : Flds w sv fs) (hf : fs.length ≤ 1000)
    (hfull : 1048576 < l.length + fldSum fs) :
    Calls Try.prog 95 #[.pointer (some ⟨b, 0, none⟩), sv] w fun e w' => e = .returned (.int .i64 2) ∧ Upd NoB w w' := by
  have hw1 := h.len
  have hbs := lt_of_block h.1
  obtain ⟨g, cap, rfl, _, hc⟩ := hs
  have Hc := Lib.hid @hc; clear hc
  go_enter Try.func95, Try.ntmps95
  go_wp2_with fail
  go_loopw [5, 10] (fun n i wr => ∃ k : Nat, k ≤ fs.length ∧ i = .int .i64 k ∧ n = .int .i64 (fldSum (fs.take k) : Nat) ∧ Upd NoB w wr) (fun _ i _ => fs.length - (intOf i).toNat)
  case atStart => exact ⟨0, Nat.zero_le _, rfl, rfl, Upd.refl _ _⟩
  case round =>
    obtain ⟨k, hk, rfl, rfl, hu⟩ := hrel
    have hsum := wloop_val fs k hk hf
    by_cases hlt : k < fs.length
    · obtain ⟨⟨⟨x, n⟩, hx⟩, hp⟩ : ∃ p : Fld, fs[k]? = some p := ⟨fs[k], List.getElem?_eq_getElem hlt⟩
      have ⟨c0, c1⟩ := Hc.out k _ hp
      have hn := fldSum_next hp
      dsimp only at c0 c1 hn hx
      have d0 := hu.cell c0 (noB _)
      have d1 := hu.cell c1 (noB _)
      have Hn := Lib.hid hn; clear hn
      have Hp := Lib.hid hp; clear hp
      clear c0 c1
      go_wp2
      go_roundw
      case rel => exact ⟨k + 1, by omega, by go_num, by rw [Hn.out]; go_num, hu.alloc _⟩
      case measure => simp [intOf] <;> omega
    · obtain rfl : k = fs.length := by omega
      rw [List.take_length] at hsum ⊢
      have hw2 := hu.cell hw1 (noB _)
      have hgt : (1048576 : Int) - l.length < fldSum fs := by omega
      go_wp2_with (go_at_call 62; refine (room_any b l.length _ hw2 hl).mono ?_; rintro e w2 ⟨rfl, rfl⟩)
      go_ret
      exact ⟨rfl, hu⟩

theorem row_ne' {w : World} {base : Nat} {e e' : TypeId} {size : Nat} {v : Value} {n : Nat} {xs : List Value} {b : Nat} {c : Array Value} {fr : Nat × Nat}
    (h : w.ownsRow base e size v n xs) (hb : w.heap[b]? = some (.cells c e' fr)) (he : e ≠ e') : ∀ k, v.ownBlock = some k → k ≠ b := fun k hk e => row_ne h hb he (by rw [hk, e])
/-- A block of another element type is none of a writer's. -/
theorem WAt.not {w : World} {b : Nat} {l : List Nat} {v : Value} (h : WAt w b l v) {k : Nat} {c : Array Value} {t : TypeId} {fr : Nat × Nat} (hk : w.heap[k]? = some (.cells c t fr)) (h1 : t ≠ 79) (h2 : t ≠ 5) : ¬ wfoot b v k := by
  rintro (rfl | hv)
  · rw [h.1] at hk; cases hk; exact h1 rfl
  · exact row_ne h.2.1 hk (fun e => h2 e.symm) hv

set_option maxRecDepth 100000 in
set_option maxHeartbeats 1000000 in
theorem feedw (b : Nat) (l : List Nat) (v sv : Value) (fs : List Fld) (w : World) (h : WAt w b l v) (hl : l.length ≤ 1048576) (hf : fs.length ≤ 1000) (B : Nat) (hB : w.heap[B]? = some (.cells #[sv] 122 (0, 0))) (hs : Flds w sv fs) :
    Calls Try.prog 107 #[.func (.func 113) #[] #[.pointer (some ⟨B, 0, none⟩)], .func (.func 109) #[.pointer (some ⟨b, 0, none⟩)] #[]] w fun e w' =>
      e = .returned (.tuple #[]) ∧ WPost b v w (l ++ fldBits fs) w' := by
  obtain ⟨g, cap, rfl, ⟨cg, frg, hg⟩, hc⟩ := hs
  have hD : ∀ k, valD B (.slice (some ⟨g, 0, none⟩) fs.length cap) k → k < w.heap.size := by
    rintro k (rfl | hk)
    · exact lt_of_block hB
    · have : g = k := by simpa [Value.ownBlock] using hk
      subst this; exact lt_of_block hg
  refine (feedf_in (first := #[.pointer (some ⟨b, 0, none⟩)]) (cap := #[]) (Sp := fun pre => pre <+: fs) (N := fs.length) w (enters_of Try.func113 (by kernel_rfl) rfl) (enters_of Try.func109 (by kernel_rfl) rfl)
    (values_seq B _ fs w hf (by simp [World.cell?, hB]) ⟨g, cap, rfl, ⟨cg, frg, hg⟩, hc⟩ hD) (fun h k => h.trans k) ?_ ?_
    (fun pre W => (∃ v', WAt W b (l ++ fldBits pre) v' ∧ Upd (wfoot b v) w W ∧ newOr w v v') ∧ W.heap[B]? = some (.cells #[.slice (some ⟨g, 0, none⟩) fs.length cap] 122 (0, 0)) ∧ W.heap[g]? = some (.cells cg 113 frg)) ?_ ?_ ?_ ?_).mono ?_
  · intro W k o' hk
    exact keepD_putObj (fun hd => by have := hD _ hd; omega)
  · intro W o' hsz k hk
    exact Below.heap_alloc _ _ _ (Nat.lt_of_lt_of_le (hD k hk) hsz)
  · rintro s W W' row ⟨⟨v', ha, hu, hn⟩, h1, h2⟩ hgr hr
    have hne : ∀ k c t fr, W.heap[k]? = some (.cells c t fr) → some k ≠ row := fun k c t fr hk e => by
      obtain ⟨o, ho, hco⟩ := (hr k e.symm).2
      rw [hk] at ho; cases ho; cases hco
    refine ⟨⟨v', ha.grown hgr (fun r e => (hr r e).2), hu.grown hgr (fun k e hk => ?_), hn⟩, (hgr.block _ (lt_of_block h1) (hne _ _ _ _ h1)).trans h1, (hgr.block _ (lt_of_block h2) (hne _ _ _ _ h2)).trans h2⟩
    have := (hr k e).1; omega
  · rintro pre W ⟨⟨v', ha, hu, hn⟩, h1, h2⟩
    exact hu.size
  · exact ⟨⟨v, by simpa [fldBits] using h, Upd.refl _ _, newOr.refl _ _⟩, hB, hg⟩
  · rintro pre x W ⟨⟨v', ha, hu, hn⟩, h1, h2⟩ hN hbox
    have hsum := fldSum_take pre pre.length
    rw [List.take_length] at hsum
    have hx := x.2
    refine (number_any b (l ++ fldBits pre) v' x.1.1 x.1.2 W ha (by rw [List.length_append, fldBits_length]; omega) (by omega) hx.2.1 hx.2.2).mono ?_
    rintro e W' ⟨rfl, v2, ha2, hu2, hn2⟩
    have k1 : W'.heap[B]? = _ := hu2.heap h1 (ha.not h1 (by decide) (by decide))
    have k2 : W'.heap[g]? = _ := hu2.heap h2 (ha.not h2 (by decide) (by decide))
    have k3 := hu2.heap hbox (ha.not hbox (by decide) (by decide))
    refine ⟨⟨_, rfl⟩, ⟨⟨v2, ?_, ?_, hn.trans hn2 hu.size⟩, k1, k2⟩, ?_, notcells_grown hu2 ha.cells _, ?_⟩
    · rw [fldBits_snoc, ← List.append_assoc]; exact ha2
    · refine hu.trans hu2 ?_
      rintro i hi (rfl | hi')
      · exact .inl rfl
      · rcases hn i hi' with h | h
        · exact .inr h
        · omega
    · rintro k (rfl | hk)
      · exact k1.trans h1.symm
      · have : g = k := by simpa [Value.ownBlock] using hk
        subst this
        exact k2.trans h2.symm
    · rintro k rfl
      exact k3.trans hbox.symm
  · rintro e W' ⟨rfl, ys, rfl, ⟨hp, _, _⟩⟩
    exact ⟨rfl, hp⟩

set_option maxRecDepth 100000 in
set_option maxHeartbeats 1000000 in
theorem write_ok (b : Nat) (l : List Nat) (v sv : Value) (fs : List Fld) (w : World) (h : WAt w b l v) (hl : l.length ≤ 1099511627776) (hs : Flds w sv fs) (hf : fs.length ≤ 1000)
    (hfit : l.length + fldSum fs ≤ 1048576) :
    Calls Try.prog 95 #[.pointer (some ⟨b, 0, none⟩), sv] w fun e w' => e = .returned (.int .i64 0) ∧ WPost b v w (l ++ fldBits fs) w' := by
  have hw1 := h.len
  have hbs := lt_of_block h.1
  have hl1 : l.length ≤ 1048576 := by omega
  have hs0 := Lib.hid hs
  obtain ⟨g, cap, rfl, ⟨cg, frg, hg⟩, hc⟩ := hs
  have Hg := Lib.hid hg; clear hg
  have H := Lib.hid h; clear h
  have hown : ∀ k, wfoot b v k → ¬ NoB k := fun k _ => noB k
  have Hc := Lib.hid @hc; clear hc
  go_enter Try.func95, Try.ntmps95
  go_wp2_with fail
  go_loopw [5, 10] (fun n i wr => ∃ k : Nat, k ≤ fs.length ∧ i = .int .i64 k ∧ n = .int .i64 (fldSum (fs.take k) : Nat) ∧ Upd NoB w wr) (fun _ i _ => fs.length - (intOf i).toNat)
  case atStart => exact ⟨0, Nat.zero_le _, rfl, rfl, Upd.refl _ _⟩
  case round =>
    obtain ⟨k, hk, rfl, rfl, hu⟩ := hrel
    have hsum := wloop_val fs k hk hf
    by_cases hlt : k < fs.length
    · obtain ⟨⟨⟨x, n⟩, hx⟩, hp⟩ : ∃ p : Fld, fs[k]? = some p := ⟨fs[k], List.getElem?_eq_getElem hlt⟩
      have ⟨c0, c1⟩ := Hc.out k _ hp
      have hn := fldSum_next hp
      dsimp only at c0 c1 hn hx
      have d0 := hu.cell c0 (noB _)
      have d1 := hu.cell c1 (noB _)
      have Hn := Lib.hid hn; clear hn
      have Hp := Lib.hid hp; clear hp
      clear c0 c1
      go_wp2
      go_roundw
      case rel => exact ⟨k + 1, by omega, by go_num, by rw [Hn.out]; go_num, hu.alloc _⟩
      case measure => simp [intOf] <;> omega
    · obtain rfl : k = fs.length := by omega
      rw [List.take_length] at hsum ⊢
      have hw2 := hu.cell hw1 (noB _)
      have hgt : ¬ (1048576 : Int) - l.length < fldSum fs := by omega
      have ha2 := H.out.upd hu hown
      have hd : ∀ k, valD g (.slice (some ⟨g, 0, none⟩) fs.length cap) k → k < w.heap.size := by
        rintro k (rfl | hk)
        · exact lt_of_block Hg.out
        · have : g = k := by simpa [Value.ownBlock] using hk
          subst this; exact lt_of_block Hg.out
      have hk2 := hu.keepD (D := fun k => k = g) (fun k hk => ⟨by subst hk; exact lt_of_block Hg.out, noB k⟩)
      have hs2 := hs0.out.keep hk2 (fun k hk => by simpa [Value.ownBlock] using hk.symm)
      have hg2 : g < wr.heap.size := Nat.lt_of_lt_of_le (lt_of_block Hg.out) hu.size
      have Ha2 := Lib.hid ha2; clear ha2
      have Hd := Lib.hid hd; clear hd
      have Hk2 := Lib.hid hk2; clear hk2
      have Hs2 := Lib.hid hs2; clear hs2
      have hk3 : KeepD (fun k => k = g) wr (wr.alloc (.cells #[.slice (some ⟨g, 0, none⟩) fs.length cap] 122)) := fun k hk => by subst hk; exact Below.heap_alloc _ _ _ hg2
      have hs3 := Hs2.out.keep hk3 (fun k hk => by simpa [Value.ownBlock] using hk.symm)
      have ha3 := Ha2.out.upd (w' := wr.alloc (.cells #[.slice (some ⟨g, 0, none⟩) fs.length cap] 122)) ((Upd.refl NoB wr).alloc _) hown
      have hB3 := heap_alloc_new wr (.cells #[.slice (some ⟨g, 0, none⟩) fs.length cap] 122)
      have Hs3 := Lib.hid hs3; clear hs3
      have Ha3 := Lib.hid ha3; clear ha3
      have HB3 := Lib.hid hB3; clear hB3
      have Hk3 := Lib.hid hk3; clear hk3
      go_wp2_with (first | (go_at_call 62; refine (room_any b l.length _ hw2 hl).mono ?_; rintro e w2 ⟨rfl, rfl⟩) | (go_at_call 108; refine (values_in _ _ ⟨_, _, _, rfl⟩).mono ?_; rintro e w2 ⟨rfl, rfl⟩) | (go_at_call 107; refine (feedw b l v _ fs _ Ha3.out hl1 hf _ HB3.out Hs3.out).mono ?_; rintro e w3 ⟨rfl, hp⟩))
      go_ret
      refine ⟨rfl, ?_⟩
      obtain ⟨v2, hv1, hv2, hv3⟩ := hp
      refine ⟨v2, hv1, ?_, fun k hk => ?_⟩
      · exact ((hu.alloc _).mono (fun k _ hk => (noB k hk).elim)).trans hv2 (fun _ _ h => h)
      · rcases hv3 k hk with h | h
        · exact .inl h
        · have := hu.size; simp at h; exact .inr (by omega)
end Go.Proofs.Ytmdladcfckoglaa
