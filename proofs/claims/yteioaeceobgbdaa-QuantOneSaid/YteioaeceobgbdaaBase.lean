/- Plain facts for the contracts of package bits: what a call may change in memory (Upd), and bits packed into bytes (pack). -/
import Derived.WalkKit
import Derived.WalkSpells
import Derived.WalkLawsBesides
import Derived.Handy
import Derived.Lib.Hide
namespace Go.Proofs.Yteioaeceobgbdaa
open Go.RowKit

/-- All blocks of w but those of S lie in w' as they lay. -/
structure Upd (S : Nat → Prop) (w w' : World) : Prop where
  os : w'.os = w.os
  tape : w'.tape = w.tape
  output : w'.output = w.output
  size : w.heap.size ≤ w'.heap.size
  block : ∀ k, k < w.heap.size → ¬ S k → w'.heap[k]? = w.heap[k]?

def NoB : Nat → Prop := fun _ => False
theorem noB (k : Nat) : ¬ NoB k := fun h => h

theorem Upd.refl (S : Nat → Prop) (w : World) : Upd S w w := ⟨rfl, rfl, rfl, Nat.le_refl _, fun _ _ _ => rfl⟩
theorem Upd.trans {S T : Nat → Prop} {a b c : World} (h : Upd S a b) (k : Upd T b c) (hs : ∀ i, i < a.heap.size → T i → S i) : Upd S a c :=
  ⟨k.os.trans h.os, k.tape.trans h.tape, k.output.trans h.output, Nat.le_trans h.size k.size,
   fun i hi hn => (k.block i (Nat.lt_of_lt_of_le hi h.size) (fun ht => hn (hs i hi ht))).trans (h.block i hi hn)⟩
theorem Upd.mono {S T : Nat → Prop} {a b : World} (h : Upd S a b) (hs : ∀ i, i < a.heap.size → S i → T i) : Upd T a b :=
  ⟨h.os, h.tape, h.output, h.size, fun i hi hn => h.block i hi (fun hS => hn (hs i hi hS))⟩
theorem Upd.then {S : Nat → Prop} {a b c : World} (h : Upd S a b) (k : Upd NoB b c) : Upd S a c := h.trans k (fun _ _ h => h.elim)
theorem Upd.drew {S : Nat → Prop} {a w : World} (h : Upd S a w) : Upd S a w.drew := ⟨h.os, h.tape, h.output, h.size, h.block⟩
theorem Upd.alloc {S : Nat → Prop} {a w : World} (h : Upd S a w) (o : Obj) : Upd S a (w.alloc o) :=
  h.then ⟨rfl, rfl, rfl, by simp, fun k hk _ => Below.heap_alloc _ _ _ hk⟩
theorem Upd.setCell {S : Nat → Prop} {a w : World} (h : Upd S a w) {p : Addr} (u : Value) (hp : p.block < a.heap.size → S p.block) : Upd S a (w.setCell p u) :=
  h.trans (T := fun k => k = p.block) ⟨rfl, rfl, rfl, by simp [World.setCell], fun k _ hn => Below.heap_setCell _ _ _ _ hn⟩ (fun i hi e => by subst e; exact hp hi)
theorem Upd.grown {S : Nat → Prop} {a w w' : World} {row : Option Nat} (h : Upd S a w) (hg : w.grownBy w' row) (hr : ∀ k, row = some k → k < a.heap.size → S k) : Upd S a w' :=
  h.trans (T := fun k => row = some k) ⟨hg.os, hg.tape, hg.output, hg.size, fun k hk hn => hg.block k hk (fun e => hn e.symm)⟩ (fun i hi e => hr i e hi)
theorem Upd.heap {S : Nat → Prop} {w w' : World} (h : Upd S w w') {k : Nat} {o : Obj} (hk : w.heap[k]? = some o) (hn : ¬ S k) : w'.heap[k]? = some o :=
  (h.block k (lt_of_block hk) hn).trans hk
theorem Upd.cell {S : Nat → Prop} {w w' : World} (h : Upd S w w') {p : Addr} {v : Value} (hc : w.cell? p = some v) (hn : ¬ S p.block) : w'.cell? p = some v :=
  (World.cell?_of_block (w := w) (h.block p.block (World.block_lt_of_cell? w p hc) hn)).trans hc
theorem Upd.row {S : Nat → Prop} {w w' : World} (h : Upd S w w') {base : Nat} {e : TypeId} {size : Nat} {v : Value} {n : Nat} {xs : List Value} (hr : w.ownsRow base e size v n xs) (hn : ∀ k, v.ownBlock = some k → ¬ S k) : w'.ownsRow base e size v n xs := by
  refine ⟨hr.1, ?_⟩
  rcases hr.2 with hn' | ⟨g, cap, cur, rfl, hb, hgg, rest⟩
  · exact .inl hn'
  · exact .inr ⟨g, cap, cur, rfl, hb, h.heap hgg (hn g rfl), rest⟩
theorem Upd.below {w w' : World} (h : Upd NoB w w') : Below w.heap.size w w' := ⟨h.os, h.tape, h.output, h.size, fun k hk => h.block k hk (noB k)⟩
theorem Upd.ofBelow {w w' : World} (h : Below w.heap.size w w') : Upd NoB w w' := ⟨h.os, h.tape, h.output, h.size, fun k hk _ => h.block k hk⟩

theorem block_set {w : World} {b i : Nat} {c : Array Value} {t : TypeId} {fr : Nat × Nat} (h : w.heap[b]? = some (.cells c t fr)) (u : Value) :
    (w.setCell ⟨b, i, none⟩ u).heap[b]? = some (.cells (c.setIfInBounds i u) t fr) := by
  have hlt := lt_of_block h
  have h' : w.heap[b] = .cells c t fr := by simpa [Array.getElem?_eq_getElem hlt] using h
  show (w.heap.modify b _)[b]? = _
  rw [Array.getElem?_eq_getElem (by simpa using hlt), Array.getElem_modify_self, h']
  rfl
theorem block_keep {w : World} {b : Nat} {o : Obj} (h : w.heap[b]? = some o) {p : Addr} (hp : p.block ≠ b) (u : Value) : (w.setCell p u).heap[b]? = some o :=
  (Below.heap_setCell w p u b (fun e => hp e.symm)).trans h
theorem row_ne {w : World} {base : Nat} {e e' : TypeId} {size : Nat} {v : Value} {n : Nat} {xs : List Value} {b : Nat} {c : Array Value} {fr : Nat × Nat}
    (h : w.ownsRow base e size v n xs) (hb : w.heap[b]? = some (.cells c e' fr)) (he : e ≠ e') : v.ownBlock ≠ some b := by
  rcases h.2 with ⟨rfl, _⟩ | ⟨g, cap, cur, rfl, _, hg, _⟩
  · simp [Value.ownBlock]
  · intro hh
    have : g = b := by simpa [Value.ownBlock] using hh
    subst this
    rw [hg] at hb
    simp at hb
    exact he hb.2.1
theorem row_slice {w : World} {base : Nat} {e : TypeId} {size : Nat} {v : Value} {n : Nat} {xs : List Value} (h : w.ownsRow base e size v n xs) (hn : 0 < n) :
    ∃ g cap, v = .slice (some ⟨g, 0, none⟩) n cap := by
  rcases h.2 with ⟨_, rfl⟩ | ⟨g, cap, cur, rfl, _⟩
  · omega
  · exact ⟨g, cap, rfl⟩
theorem row_cap {w : World} {base : Nat} {e : TypeId} {size : Nat} {a : Option Addr} {n cap : Nat} {xs : List Value} (h : w.ownsRow base e size (.slice a n cap) n xs) : n ≤ cap := by
  rcases h.2 with ⟨h1, rfl⟩ | ⟨g, cap', cur, h1, _, _, hnc, _⟩
  · exact Nat.zero_le _
  · cases h1; exact hnc
/-- The block of an appended row is the old one or a new one. -/
def newOr (w : World) (v v' : Value) : Prop := ∀ k, v'.ownBlock = some k → v.ownBlock = some k ∨ w.heap.size ≤ k
theorem newOr.refl (w : World) (v : Value) : newOr w v v := fun _ h => .inl h
theorem newOr.trans {w w1 : World} {v v1 v2 : Value} (h : newOr w v v1) (k : newOr w1 v1 v2) (hs : w.heap.size ≤ w1.heap.size) : newOr w v v2 := fun i hi => by
  rcases k i hi with h1 | h1
  · exact h i h1
  · exact .inr (by omega)

theorem row_base {w : World} {base base' : Nat} {e : TypeId} {size : Nat} {v : Value} {n : Nat} {xs : List Value} (h : w.ownsRow base e size v n xs) (hb : base' ≤ base) : w.ownsRow base' e size v n xs := by
  refine ⟨h.1, ?_⟩
  rcases h.2 with h1 | ⟨g, cap, cur, hv, hbg, r⟩
  · exact .inl h1
  · exact .inr ⟨g, cap, cur, hv, by omega, r⟩
theorem grownBy_any {w w' : World} (h : w.grownBy w' none) (row : Option Nat) : w.grownBy w' row := ⟨h.os, h.tape, h.output, h.size, fun k hk _ => h.block k hk (by simp)⟩
/-- append of some elements to a row of the call's own: besides, the new row's block is the old one or a new one. -/
theorem wpList_append_mine {P : Program} {w : World} {ops : Array Oper} {rest : List Oper} {o : Oper} {a : Act} {Q : Exit → Act → World → Prop}
    (hg : o.guard = none) (s x : Operand) (t : TypeId) (hop : o.op = Op.call { callee := Callee.builtin Builtin.append, args := #[s, x], argTypes := #[t, t] })
    (e : TypeId) (i : TypeInfo) (z : Value) (size bytes : Nat) (h1 : P.underlying t = some (.slice e)) (h2 : P.info? e = some i) (h3 : i.zero = some z) (h4 : i.size = size) (h5 : i.bytes = bytes) (h6 : z.cells.size = size) (h7 : 0 < size)
    (v : Value) (n : Nat) (xs : List Value) (hs : a.eval s = v) (hown : w.ownsRow 0 e size v n xs)
    (ad : Addr) (m c : Nat) (news : List Value) (hx : a.eval x = .slice (some ad) m c) (hm : 0 < m) (hn : news.length = m * size) (hc : ∀ j u, news[j]? = some u → w.cell? (ad.add j) = some u) (h1c : ∀ u ∈ news, u.oneCell' = true)
    (b1 : n + m ≤ maxLen) (b2 : (n + m) * bytes ≤ 140737488355328)
    (hK : ∀ v' w', w'.ownsRow 0 e size v' (n + m) (xs ++ news) → w.grownBy w' v.ownBlock → newOr w v v' → wpList P ops Q rest (a.put o.dst v') w') :
    wpList P ops Q (o :: rest) a w := by
  rcases hown.2 with ⟨rfl, rfl⟩ | ⟨g, cap, cur, rfl, hb, hgg, hnc, _⟩
  · have hx0 : xs = [] := List.eq_nil_of_length_eq_zero (by simpa using hown.1)
    subst hx0
    refine wpList_append_grows w hg s x t hop e i z size bytes h1 h2 h3 h4 h5 h6 h7 none 0 0 [] hs (fun _ => ⟨rfl, rfl⟩) (by simp) (fun b hb => by simp at hb) ad m c news hx hn hc h1c (by omega) b1 b2 ?_
    intro v' w' ho hgr
    exact hK v' w' (row_base ho (Nat.zero_le _)) (grownBy_any hgr _) (fun k hk => .inr (ho.lt k hk).1)
  · by_cases hr : n + m ≤ cap
    · refine wpList_append_fits w hg s x t hop 0 e i size h1 h2 h4 g n cap xs hs hown ad m c news hx hn hc h1c hr ?_
      intro w' ho hgr
      exact hK _ w' ho hgr (fun k hk => .inl hk)
    · refine wpList_append_grows w hg s x t hop e i z size bytes h1 h2 h3 h4 h5 h6 h7 (some ⟨g, 0, none⟩) n cap xs hs (fun h => by simp at h) hown.1
        (fun b hb j u hu => by cases hb; exact hown.cells (g := g) rfl j u hu) ad m c news hx hn hc h1c (by omega) b1 b2 ?_
      intro v' w' ho hgr
      exact hK v' w' (row_base ho (Nat.zero_le _)) (grownBy_any hgr _) (fun k hk => .inr (ho.lt k hk).1)

theorem addr_add (b off j : Nat) : (⟨b, off, none⟩ : Addr).add j = ⟨b, off + j, none⟩ := by unfold Addr.add; split <;> simp_all

/-! bits in bytes -/
def packByte (l : List Nat) (j : Nat) : Nat :=
  128 * l.getD (8 * j) 0 + 64 * l.getD (8 * j + 1) 0 + 32 * l.getD (8 * j + 2) 0 + 16 * l.getD (8 * j + 3) 0 + 8 * l.getD (8 * j + 4) 0 + 4 * l.getD (8 * j + 5) 0 + 2 * l.getD (8 * j + 6) 0 + l.getD (8 * j + 7) 0
def pack (l : List Nat) : List Nat := (List.range ((l.length + 7) / 8)).map (packByte l)
def bit01 (l : List Nat) : Prop := ∀ k, l.getD k 0 ≤ 1

theorem pack_length (l : List Nat) : (pack l).length = (l.length + 7) / 8 := by simp [pack]
theorem getD_snoc (l : List Nat) (x k : Nat) : (l ++ [x]).getD k 0 = l.getD k 0 + (if k = l.length then x else 0) := by
  simp only [List.getD_eq_getElem?_getD]
  rcases Nat.lt_trichotomy k l.length with h | h | h
  · rw [List.getElem?_append_left h, if_neg (by omega)]; rfl
  · subst h; simp
  · rw [List.getElem?_append_right (by omega), if_neg (by omega), List.getElem?_eq_none (by simp; omega), List.getElem?_eq_none (by omega)]; rfl
theorem bit01_nil : bit01 [] := by intro k; simp
theorem bit01_snoc {l : List Nat} (h : bit01 l) {x : Nat} (hx : x ≤ 1) : bit01 (l ++ [x]) := by
  intro k; rw [getD_snoc]; have := h k
  by_cases e : k = l.length
  · subst e; simp; exact hx
  · rw [if_neg e]; omega
theorem packByte_le {l : List Nat} (h : bit01 l) (j : Nat) : packByte l j ≤ 255 := by
  have a0 := h (8 * j); have a1 := h (8 * j + 1); have a2 := h (8 * j + 2); have a3 := h (8 * j + 3)
  have a4 := h (8 * j + 4); have a5 := h (8 * j + 5); have a6 := h (8 * j + 6); have a7 := h (8 * j + 7)
  unfold packByte; omega
theorem packByte_other (l : List Nat) (x j : Nat) (h : j ≠ l.length / 8) : packByte (l ++ [x]) j = packByte l j := by
  unfold packByte
  simp only [getD_snoc]
  rw [if_neg (by omega), if_neg (by omega), if_neg (by omega), if_neg (by omega), if_neg (by omega), if_neg (by omega), if_neg (by omega), if_neg (by omega)]
  simp
theorem packByte_here (l : List Nat) (x : Nat) : packByte (l ++ [x]) (l.length / 8) = packByte l (l.length / 8) + x * 2 ^ (7 - l.length % 8) := by
  unfold packByte
  simp only [getD_snoc]
  have hr : l.length % 8 < 8 := Nat.mod_lt _ (by omega)
  have hd := Nat.div_add_mod l.length 8
  generalize hq : l.length / 8 = q at *
  generalize hm : l.length % 8 = r at *
  generalize hlen : l.length = n at *
  match r, hr with
  | 0, _ => rw [if_pos (by omega), if_neg (by omega), if_neg (by omega), if_neg (by omega), if_neg (by omega), if_neg (by omega), if_neg (by omega), if_neg (by omega)]; simp; omega
  | 1, _ => rw [if_neg (by omega), if_pos (by omega), if_neg (by omega), if_neg (by omega), if_neg (by omega), if_neg (by omega), if_neg (by omega), if_neg (by omega)]; simp; omega
  | 2, _ => rw [if_neg (by omega), if_neg (by omega), if_pos (by omega), if_neg (by omega), if_neg (by omega), if_neg (by omega), if_neg (by omega), if_neg (by omega)]; simp; omega
  | 3, _ => rw [if_neg (by omega), if_neg (by omega), if_neg (by omega), if_pos (by omega), if_neg (by omega), if_neg (by omega), if_neg (by omega), if_neg (by omega)]; simp; omega
  | 4, _ => rw [if_neg (by omega), if_neg (by omega), if_neg (by omega), if_neg (by omega), if_pos (by omega), if_neg (by omega), if_neg (by omega), if_neg (by omega)]; simp; omega
  | 5, _ => rw [if_neg (by omega), if_neg (by omega), if_neg (by omega), if_neg (by omega), if_neg (by omega), if_pos (by omega), if_neg (by omega), if_neg (by omega)]; simp; omega
  | 6, _ => rw [if_neg (by omega), if_neg (by omega), if_neg (by omega), if_neg (by omega), if_neg (by omega), if_neg (by omega), if_pos (by omega), if_neg (by omega)]; simp; omega
  | 7, _ => rw [if_neg (by omega), if_neg (by omega), if_neg (by omega), if_neg (by omega), if_neg (by omega), if_neg (by omega), if_neg (by omega), if_pos (by omega)]; simp; omega
/-- The bits of the last byte that were not yet written are zeros. -/
theorem packByte_free (l : List Nat) : packByte l (l.length / 8) % 2 ^ (8 - l.length % 8) = 0 := by
  have z : ∀ k, l.length ≤ k → l.getD k 0 = 0 := fun k hk => by simp [List.getD_eq_getElem?_getD, List.getElem?_eq_none hk]
  unfold packByte
  have hr : l.length % 8 < 8 := Nat.mod_lt _ (by omega)
  have hd := Nat.div_add_mod l.length 8
  generalize hq : l.length / 8 = q at *
  generalize hm : l.length % 8 = r at *
  match r, hr with
  | 0, _ => rw [z (8 * q) (by omega), z (8 * q + 1) (by omega), z (8 * q + 2) (by omega), z (8 * q + 3) (by omega), z (8 * q + 4) (by omega), z (8 * q + 5) (by omega), z (8 * q + 6) (by omega), z (8 * q + 7) (by omega)]
  | 1, _ => rw [z (8 * q + 1) (by omega), z (8 * q + 2) (by omega), z (8 * q + 3) (by omega), z (8 * q + 4) (by omega), z (8 * q + 5) (by omega), z (8 * q + 6) (by omega), z (8 * q + 7) (by omega)]; simp
  | 2, _ => rw [z (8 * q + 2) (by omega), z (8 * q + 3) (by omega), z (8 * q + 4) (by omega), z (8 * q + 5) (by omega), z (8 * q + 6) (by omega), z (8 * q + 7) (by omega)]; simp; omega
  | 3, _ => rw [z (8 * q + 3) (by omega), z (8 * q + 4) (by omega), z (8 * q + 5) (by omega), z (8 * q + 6) (by omega), z (8 * q + 7) (by omega)]; simp; omega
  | 4, _ => rw [z (8 * q + 4) (by omega), z (8 * q + 5) (by omega), z (8 * q + 6) (by omega), z (8 * q + 7) (by omega)]; simp; omega
  | 5, _ => rw [z (8 * q + 5) (by omega), z (8 * q + 6) (by omega), z (8 * q + 7) (by omega)]; simp; omega
  | 6, _ => rw [z (8 * q + 6) (by omega), z (8 * q + 7) (by omega)]; simp; omega
  | 7, _ => rw [z (8 * q + 7) (by omega)]; simp; omega
theorem pack_get (l : List Nat) (j : Nat) : (pack l)[j]? = if j < (l.length + 7) / 8 then some (packByte l j) else none := by
  unfold pack
  by_cases h : j < (l.length + 7) / 8
  · rw [if_pos h]; simp [h]
  · rw [if_neg h]; exact List.getElem?_eq_none (by simp; omega)
theorem pack_snoc_new {l : List Nat} (x : Nat) (h : l.length % 8 = 0) : pack (l ++ [x]) = pack l ++ [128 * x] := by
  refine List.ext_getElem? fun j => ?_
  rw [pack_get]
  simp only [List.length_append, List.length_cons, List.length_nil]
  rcases Nat.lt_trichotomy j (l.length / 8) with hj | hj | hj
  · rw [if_pos (by omega), List.getElem?_append_left (by rw [pack_length]; omega), pack_get, if_pos (by omega), packByte_other _ _ _ (by omega)]
  · subst hj
    rw [if_pos (by omega), List.getElem?_append_right (by rw [pack_length]; omega), packByte_here, h]
    have hf := packByte_free l
    rw [h] at hf
    have hz : packByte l (l.length / 8) = 0 := by
      have z : ∀ k, l.length ≤ k → l.getD k 0 = 0 := fun k hk => by simp [List.getD_eq_getElem?_getD, List.getElem?_eq_none hk]
      unfold packByte
      rw [z _ (by omega), z _ (by omega), z _ (by omega), z _ (by omega), z _ (by omega), z _ (by omega), z _ (by omega), z _ (by omega)]
    rw [hz, pack_length]
    simp [show (l.length + 7) / 8 = l.length / 8 by omega]
    omega
  · rw [if_neg (by omega), List.getElem?_eq_none (by simp [pack_length]; omega)]
theorem pack_snoc_in {l : List Nat} (x : Nat) (h : 0 < l.length % 8) : pack (l ++ [x]) = (pack l).set (l.length / 8) (packByte l (l.length / 8) + x * 2 ^ (7 - l.length % 8)) := by
  refine List.ext_getElem? fun j => ?_
  rw [pack_get, List.getElem?_set, pack_get]
  simp only [List.length_append, List.length_cons, List.length_nil, pack_length]
  by_cases hj : l.length / 8 = j
  · subst hj
    rw [if_pos (by omega), if_pos rfl, if_pos (by omega), packByte_here]
  · rw [if_neg hj]
    by_cases hk : j < (l.length + 7) / 8
    · rw [if_pos (by omega), if_pos hk, packByte_other _ _ _ (by omega)]
    · rw [if_neg (by omega), if_neg hk]
theorem or_add {old x r : Nat} (hr : r < 8) (h : old % 2 ^ (8 - r) = 0) (hx : x ≤ 1) : old ||| (x * 2 ^ (7 - r)) = old + x * 2 ^ (7 - r) := by
  have hlt : x * 2 ^ (7 - r) < 2 ^ (8 - r) := by
    have : 2 ^ (8 - r) = 2 * 2 ^ (7 - r) := by rw [show 8 - r = (7 - r) + 1 by omega, Nat.pow_succ]; omega
    have hp : 0 < 2 ^ (7 - r) := Nat.two_pow_pos _
    rw [this]
    rcases (show x = 0 ∨ x = 1 by omega) with rfl | rfl <;> omega
  obtain ⟨q, rfl⟩ := Nat.dvd_of_mod_eq_zero h
  exact (Nat.two_pow_add_eq_or_of_lt hlt q).symm
/-! shifts -/
theorem run_shl {P : Program} (w : World) (k yk : IntKind) (x y : Int) (h0 : 0 ≤ y) (h1 : y ≤ k.bits) : (Op.shift .shl k x yk y).run P w = .ok (.int k (k.wrap (x * 2 ^ y.toNat))) w := by
  unfold Op.shift
  rw [if_neg (by omega), show min y.toNat k.bits = y.toNat by omega]
  rfl
theorem run_shr {P : Program} (w : World) (k yk : IntKind) (x y : Int) (h0 : 0 ≤ y) (h1 : y ≤ k.bits) : (Op.shift .shr k x yk y).run P w = .ok (.int k (x / 2 ^ y.toNat)) w := by
  unfold Op.shift
  rw [if_neg (by omega), show min y.toNat k.bits = y.toNat by omega]
  have : x.fdiv (2 ^ y.toNat) = x / 2 ^ y.toNat := Int.fdiv_eq_ediv_of_nonneg _ (Int.le_of_lt (Int.pow_pos (by decide)))
  simp only [this]
  rfl
theorem and_one {z x s : Nat} (hz : z ≤ 255) (hx : x = z / 2 ^ s % 2) : Go.bits .and .u8 ((z : Int) / 2 ^ s) 1 = (x : Int) := by
  have e : ((z : Int) / 2 ^ s) = ((z / 2 ^ s : Nat) : Int) := by simp
  have hle : z / 2 ^ s ≤ 255 := Nat.le_trans (Nat.div_le_self _ _) hz
  rw [e]
  have := u8_and_nat (z / 2 ^ s) 1 (by omega) (by omega)
  simp only [Nat.and_one_is_mod] at this
  rw [hx]
  exact this
theorem or_val {n x old : Nat} (ho : old ≤ 255) (hx : x ≤ 1) : Go.bits .or .u8 (old : Int) (wrap64 ((x : Int) * 2 ^ (7 - n % 8)) % 256) = ((old ||| (x * 2 ^ (7 - n % 8)) : Nat) : Int) := by
  have h2 : 2 ^ (7 - n % 8) ≤ 2 ^ 7 := Nat.pow_le_pow_right (by omega) (by omega)
  have h3 := Nat.mul_le_mul hx h2
  have e : ((x : Int) * 2 ^ (7 - n % 8)) = ((x * 2 ^ (7 - n % 8) : Nat) : Int) := by simp
  rw [e]
  generalize x * 2 ^ (7 - n % 8) = y at *
  rw [show wrap64 (y : Int) % 256 = (y : Int) by unfold wrap64; omega]
  exact u8_or_nat _ _ (by omega) (by omega)
end Go.Proofs.Yteioaeceobgbdaa
