/- lists of integers in memory: Ints; shawmref02.Ints; slices.Clone -/
import Derived.Test.YteioaeceobgbdaaBase
import Derived.Test.YteioaeceobgbdaaRows
import Derived.Shelf.Abstract
import Derived.Deep.QuietTactic
import Derived.BigQuiet
import Derived.Lib.SliceRun
import Derived.Laws.AppendOwnNone
import Derived.Laws.OwnMore
namespace Go.Proofs.Yteioaeceobgbdaa
open Go.RowKit Go.Shelf

theorem blk_cell {w : World} {b : Nat} {c : Array Value} {t : TypeId} {fr : Nat × Nat} (h : w.heap[b]? = some (.cells c t fr)) (i : Nat) : w.cell? ⟨b, i, none⟩ = c[i]? := by
  unfold World.cell?
  rw [h]
  rfl
theorem blk_free {w : World} {b : Nat} {c : Array Value} {t : TypeId} (h : w.heap[b]? = some (.cells c t (0, 0))) (i : Nat) : w.frozen? ⟨b, i, none⟩ = false := by
  unfold World.frozen?
  rw [h]
  simp

theorem upd_drewN {S : Nat → Prop} {a w : World} (h : Upd S a w) (n : Nat) : Upd S a (w.drewN n) := ⟨h.os, h.tape, h.output, h.size, h.block⟩
theorem row_form {w : World} {base : Nat} {e : TypeId} {size : Nat} {v : Value} {n : Nat} {xs : List Value} (h : w.ownsRow base e size v n xs) : ∃ a c, v = .slice a n c := by
  rcases h.2 with ⟨rfl, rfl⟩ | ⟨g, cap, cur, rfl, _⟩
  · exact ⟨none, 0, rfl⟩
  · exact ⟨_, _, rfl⟩
theorem upd_grown_new {w w1 w2 : World} {row : Option Nat} (u : Upd NoB w w1) (hg : w1.grownBy w2 row) (h : ∀ k, row = some k → w.heap.size ≤ k) : Upd NoB w w2 := u.grown hg (fun k hk hlt => by have := h k hk; omega)
theorem size_alloc (w : World) (o : Obj) : (w.alloc o).heap.size = w.heap.size + 1 := Array.size_push ..

def i64s (xs : List Int) : List Value := xs.map (Value.int .i64)
theorem i64s_length (xs : List Int) : (i64s xs).length = xs.length := by simp [i64s]
theorem i64s_append (xs ys : List Int) : i64s (xs ++ ys) = i64s xs ++ i64s ys := by simp [i64s]
theorem i64s_one (xs : List Int) : ∀ u ∈ i64s xs, u.oneCell' = true := by
  intro u hu
  simp only [i64s, List.mem_map] at hu
  obtain ⟨z, _, rfl⟩ := hu
  rfl
theorem i64s_get (xs : List Int) (j : Nat) : (i64s xs)[j]? = (xs[j]?).map (Value.int .i64) := by simp [i64s]
/-- The slice v holds the integers xs. -/
def Ints (w : World) (v : Value) (xs : List Int) : Prop :=
  xs.length ≤ 17592186044416 ∧ ∃ a cap, v = .slice a xs.length cap ∧ (xs.length ≤ cap ∧ (a = none → cap = 0)) ∧ (xs = [] ∨ ∃ b off, a = some ⟨b, off, none⟩ ∧ ∀ j x, xs[j]? = some x → w.cell? ⟨b, off + j, none⟩ = some (.int .i64 x))
theorem Ints.form {w : World} {v : Value} {xs : List Int} (h : Ints w v xs) : ∃ a cap, v = .slice a xs.length cap := by obtain ⟨_, a, cap, e, _⟩ := h; exact ⟨a, cap, e⟩
theorem Ints.lt {w : World} {v : Value} {xs : List Int} (h : Ints w v xs) (hx : xs ≠ []) : ∀ k, v.ownBlock = some k → k < w.heap.size := by
  obtain ⟨_, a, cap, rfl, _, h3⟩ := h
  intro k hk
  rcases h3 with h3 | ⟨b, off, rfl, h3⟩
  · exact absurd h3 hx
  · obtain ⟨x, hx0⟩ : ∃ x, xs[0]? = some x := ⟨_, List.getElem?_eq_getElem (List.length_pos_iff.2 hx)⟩
    have := World.block_lt_of_cell? w _ (h3 0 x hx0)
    simp [Value.ownBlock] at hk
    subst hk; exact this
theorem Ints.upd {w w' : World} {v : Value} {xs : List Int} (h : Ints w v xs) {S : Nat → Prop} (u : Upd S w w') (hs : xs ≠ [] → ∀ k, v.ownBlock = some k → ¬ S k) : Ints w' v xs := by
  obtain ⟨hb, a, cap, rfl, hc, h3⟩ := h
  refine ⟨hb, a, cap, rfl, hc, ?_⟩
  rcases h3 with h3 | ⟨b, off, rfl, h3⟩
  · exact .inl h3
  · refine .inr ⟨b, off, rfl, fun j x hx => u.cell (h3 j x hx) (hs (by rintro rfl; simp at hx) b rfl)⟩
theorem Ints.later {w w' : World} {v : Value} {xs : List Int} (h : Ints w v xs) (u : Upd NoB w w') : Ints w' v xs := h.upd u (fun _ k _ => noB k)
theorem Ints.ofRow {w : World} {base : Nat} {v : Value} {xs : List Int} (h : w.ownsRow base 3 1 v xs.length (i64s xs)) (hb : xs.length ≤ 17592186044416) : Ints w v xs := by
  refine ⟨hb, ?_⟩
  by_cases hx : xs = []
  · subst hx
    rcases h.2 with ⟨rfl, _⟩ | ⟨g, cap, cur, rfl, _, _, hnc, _⟩
    · exact ⟨none, 0, rfl, ⟨Nat.le_refl _, fun _ => rfl⟩, .inl rfl⟩
    · exact ⟨_, _, rfl, ⟨hnc, fun e => by cases e⟩, .inl rfl⟩
  · obtain ⟨g, cap, rfl⟩ := row_slice h (List.length_pos_iff.2 hx)
    refine ⟨_, _, rfl, ⟨row_cap h, fun e => by cases e⟩, .inr ⟨g, 0, rfl, fun j x hj => ?_⟩⟩
    have hjl := (List.getElem?_eq_some_iff.1 hj).1
    rw [Nat.zero_add, h.cellAt _ (by omega), i64s_get, hj]; rfl
theorem Ints.nil (w : World) : Ints w (.slice none 0 0) [] := ⟨Nat.zero_le _, none, 0, rfl, ⟨Nat.zero_le _, fun _ => rfl⟩, .inl rfl⟩
def intsB (xs ys : List Int) : Bool := decide (xs = ys)
theorem intsB_self (xs : List Int) : intsB xs xs = true := decide_eq_true rfl
theorem intsB_iff {xs ys : List Int} : intsB xs ys = true ↔ xs = ys := decide_eq_true_iff
set_option maxRecDepth 100000 in
set_option maxHeartbeats 2000000 in
theorem qints_any (sa sb : Value) (xs ys : List Int) (w : World) (ha : Ints w sa xs) (hb : Ints w sb ys) :
    Calls Try.prog 26 #[sa, sb] w fun e w' => e = .returned (.bool (intsB xs ys)) ∧ ∃ n, w' = w.drewN n := by
  obtain ⟨a255, a, ca, rfl, _, ha⟩ := ha
  obtain ⟨b255, b, cb, rfl, _, hb⟩ := hb
  have HA := Lib.hid ha; clear ha
  have HB := Lib.hid hb; clear hb
  have B2 := Lib.hid b255; clear b255
  by_cases hlen : xs.length = ys.length
  · have hlb : ((xs.length : Int) != (ys.length : Int)) = false := by simp; omega
    have Hlen := Lib.hid hlen; clear hlen
    go_enter Try.func26, Try.ntmps26
    go_wp2_with fail
    go_loopw [13] (fun i wr => ∃ (k n : Nat), k ≤ xs.length ∧ i = .int .i64 k ∧ (∀ j, j < k → xs[j]? = ys[j]?) ∧ wr = w.drewN n) (fun i _ => xs.length - (intOf i).toNat)
    case atStart => exact ⟨0, 0, Nat.zero_le _, rfl, fun j hj => by omega, rfl⟩
    case round =>
      obtain ⟨k, n, hk, rfl, heq, rfl⟩ := hrel
      have Heq := Lib.hid heq; clear heq
      by_cases hlt : k < xs.length
      · have hltb : k < ys.length := by have := Hlen.out; omega
        rcases HA.out with hz | ⟨ba, oa, rfl, hca⟩
        · subst hz; simp at hlt
        rcases HB.out with hz | ⟨bb, ob, rfl, hcb⟩
        · subst hz; simp at hltb
        obtain ⟨x, g1⟩ : ∃ x, xs[k]? = some x := ⟨_, List.getElem?_eq_getElem hlt⟩
        obtain ⟨y, g2⟩ : ∃ y, ys[k]? = some y := ⟨_, List.getElem?_eq_getElem hltb⟩
        have d1 := hca k x g1
        have d2 := hcb k y g2
        have q1 : (k : Int) < xs.length := by omega
        have q2 : (k : Int) < ys.length := by omega
        have G1 := Lib.hid g1; clear g1
        have G2 := Lib.hid g2; clear g2
        clear hca hcb
        by_cases hxy : x = y
        · subst hxy
          have hne : (x != x) = false := by simp
          go_wp2
          go_quiet (fail)
          go_wp2
          go_roundw
          case rel =>
            refine ⟨k + 1, n + nq, by omega, by go_num, fun j hj => ?_, rfl⟩
            rcases Nat.lt_or_ge j k with h | h
            · exact Heq.out j h
            · obtain rfl : j = k := by omega
              rw [G1.out, G2.out]
          case measure => simp [intOf]; omega
        · have hne : (x != y) = true := by simp; omega
          have hf : intsB xs ys = false := decide_eq_false (fun e => by
            have h1 := G1.out; have h2 := G2.out
            rw [e, h2] at h1
            injection h1 with h1
            exact hxy h1.symm)
          have Hf := Lib.hid hf; clear hf
          go_wp2
          go_quiet (fail)
          go_wp2
          go_ret
          exact ⟨by rw [Hf.out]; rfl, n + nq, by first | rfl | rw [World.drewN_drewN]⟩
      · obtain rfl : k = xs.length := by omega
        have hf : intsB xs ys = true := decide_eq_true (List.ext_getElem? fun j => by
          rcases Nat.lt_or_ge j xs.length with h | h
          · exact Heq.out j h
          · rw [List.getElem?_eq_none h, List.getElem?_eq_none (by have := Hlen.out; omega)])
        have Hf := Lib.hid hf; clear hf
        go_wp2
        go_ret
        exact ⟨by rw [Hf.out]; rfl, n, rfl⟩
  · have hlb : ((xs.length : Int) != (ys.length : Int)) = true := by simp; omega
    have hf : intsB xs ys = false := decide_eq_false (fun e => hlen (by rw [e]))
    have Hf := Lib.hid hf; clear hf hlen
    go_enter Try.func26, Try.ntmps26
    go_wp2
    go_ret
    exact ⟨by rw [Hf.out]; rfl, 0, rfl⟩

theorem Try.infoInt : (Try.prog.info? 3).map (fun i => (i.zero, i.size, i.bytes)) = some (some (.int .i64 0), 1, 8) := by kernel_rfl
/-- What a function answers that makes a list. -/
def IRes (w : World) (xs : List Int) (e : Ending) (w' : World) : Prop := ∃ v, e = .returned v ∧ w'.ownsRow w.heap.size 3 1 v xs.length (i64s xs) ∧ Upd NoB w w'
theorem Ints.cellsOf {w : World} {ad : Addr} {cap : Nat} {xs : List Int} (h : Ints w (.slice (some ad) xs.length cap) xs) : ∀ j u, (i64s xs)[j]? = some u → w.cell? (ad.add j) = some u := by
  intro j u hu
  obtain ⟨_, a', c', e, _, h⟩ := h
  cases e
  rw [i64s_get] at hu
  cases hx : xs[j]? with
  | none => rw [hx] at hu; cases hu
  | some x =>
    rw [hx] at hu
    rcases h with rfl | ⟨b, off, e, h⟩
    · simp at hx
    · cases e
      rw [addr_add, h j x hx, ← hu]; rfl
theorem wpList_copyI {w : World} {ops : Array Oper} {rest : List Oper} {o : Oper} {a : Act} {Q : Exit → Act → World → Prop} (hgd : o.guard = none) (s x : Operand)
    (ho : o.op = .call { callee := .builtin .append, args := #[s, x], argTypes := #[28, 28] })
    (sv : Value) (xs : List Int) (hs : a.eval s = .slice (some ⟨w.heap.size, 0, none⟩) 0 0) (hx : a.eval x = sv) (hb : Ints w sv xs)
    (hK : ∀ v' w', w'.ownsRow w.heap.size 3 1 v' xs.length (i64s xs) → Upd NoB w w' → wpList Try.prog ops Q rest (a.put o.dst v') w') : wpList Try.prog ops Q (o :: rest) a (w.alloc (.cells #[] 3)) := by
  obtain ⟨i0, hi, hz0, hz1, hz2⟩ := info_parts Try.infoInt
  have hown := World.ownsRow_lit (base := w.heap.size) (size := 1) (e := 3) w #[] 0 (Nat.le_refl _) (Nat.zero_le _) rfl
  have u0 : Upd NoB w (w.alloc (.cells #[] 3)) := (Upd.refl _ _).alloc _
  have hb1 := hb.later u0
  have hl := hb.1
  obtain ⟨_, ad, cap, rfl, ⟨hcap, hnone⟩, hc⟩ := hb
  cases ad with
  | none =>
    have hz : xs = [] := by
      rcases hc with h | ⟨b, off, h, _⟩
      · exact h
      · cases h
    subst hz
    have hc0 := hnone rfl
    subst hc0
    refine wpList_append_own_none (w := w.alloc (.cells #[] 3)) hgd s x 28 ho w.heap.size 3 i0 1 Try.underlying28 hi _ 0 [] hs hown hx ?_
    exact hK _ _ hown u0
  | some ad =>
    refine wpList_append_own (w := w.alloc (.cells #[] 3)) hgd s x 28 ho w.heap.size 3 i0 (.int .i64 0) 1 8 Try.underlying28 hi hz0 hz1 hz2 rfl (by decide) _ 0 [] hs hown ad xs.length cap (i64s xs) hx (by simp [i64s_length]) hb1.cellsOf (i64s_one xs) (by unfold maxLen; omega) (by omega) u0.size ?_
    intro v' w' hown' hgr hnil
    rw [Nat.zero_add, List.nil_append] at hown'
    refine hK v' w' hown' (u0.grown hgr (fun k hk hlt => ?_))
    simp [Value.ownBlock] at hk
    omega
end Go.Proofs.Yteioaeceobgbdaa
