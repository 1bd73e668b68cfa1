/- block: lists of flags in memory; the laps, and what a sample hangs on -/
import Derived.Test.YtmkbpocibpjjaaaInt
namespace Go.Proofs.Ytmkbpocibpjjaaa
open Go.RowKit Go.Shelf

/-- The slice v holds the flags fs. -/
def Bls (w : World) (v : Value) (fs : List Bool) : Prop :=
  fs.length ≤ 140737488355328 ∧ ∃ a cap, v = .slice a fs.length cap ∧ (fs.length ≤ cap ∧ (a = none → cap = 0)) ∧ (fs = [] ∨ ∃ b off, a = some ⟨b, off, none⟩ ∧ ∀ j x, fs[j]? = some x → w.cell? ⟨b, off + j, none⟩ = some (.bool x))
theorem Bls.form {w : World} {v : Value} {fs : List Bool} (h : Bls w v fs) : ∃ a cap, v = .slice a fs.length cap := by obtain ⟨_, a, cap, e, _⟩ := h; exact ⟨a, cap, e⟩
theorem Bls.upd {w w' : World} {v : Value} {fs : List Bool} (h : Bls w v fs) {S : Nat → Prop} (u : Upd S w w') (hs : fs ≠ [] → ∀ k, v.ownBlock = some k → ¬ S k) : Bls w' v fs := by
  obtain ⟨hb, a, cap, rfl, hc, h3⟩ := h
  refine ⟨hb, a, cap, rfl, hc, ?_⟩
  rcases h3 with h3 | ⟨b, off, rfl, h3⟩
  · exact .inl h3
  · refine .inr ⟨b, off, rfl, fun j x hx => u.cell (h3 j x hx) (hs (by rintro rfl; simp at hx) b rfl)⟩
theorem Bls.later {w w' : World} {v : Value} {fs : List Bool} (h : Bls w v fs) (u : Upd NoB w w') : Bls w' v fs := h.upd u (fun _ k _ => noB k)
theorem Bls.lt {w : World} {v : Value} {fs : List Bool} (h : Bls w v fs) (hx : fs ≠ []) : ∀ k, v.ownBlock = some k → k < w.heap.size := by
  obtain ⟨_, a, cap, rfl, _, h3⟩ := h
  intro k hk
  rcases h3 with h3 | ⟨b, off, rfl, h3⟩
  · exact absurd h3 hx
  · obtain ⟨x, hx0⟩ : ∃ x, fs[0]? = some x := ⟨_, List.getElem?_eq_getElem (List.length_pos_iff.2 hx)⟩
    have := World.block_lt_of_cell? w _ (h3 0 x hx0)
    simp [Value.ownBlock] at hk
    subst hk; exact this
theorem Bls.cellAt {w : World} {a : Option Addr} {n cap : Nat} {fs : List Bool} (h : Bls w (.slice a n cap) fs) {k : Nat} {x : Bool} (hx : fs[k]? = some x) : ∃ b off, a = some ⟨b, off, none⟩ ∧ w.cell? ⟨b, off + k, none⟩ = some (.bool x) := by
  obtain ⟨_, a', cap', e, _, h3⟩ := h
  injection e with e1 e2 e3
  subst e1
  rcases h3 with h3 | ⟨b, off, rfl, h3⟩
  · subst h3; simp at hx
  · exact ⟨b, off, rfl, h3 k x hx⟩
theorem Bls.nil (w : World) : Bls w (.slice none 0 0) [] := ⟨Nat.zero_le _, none, 0, rfl, ⟨Nat.zero_le _, fun _ => rfl⟩, .inl rfl⟩
def bls (fs : List Bool) : List Value := fs.map Value.bool
theorem bls_length (fs : List Bool) : (bls fs).length = fs.length := by simp [bls]
theorem bls_append (xs ys : List Bool) : bls (xs ++ ys) = bls xs ++ bls ys := by simp [bls]
theorem bls_one (fs : List Bool) : ∀ u ∈ bls fs, u.oneCell' = true := by
  intro u hu
  simp only [bls, List.mem_map] at hu
  obtain ⟨z, _, rfl⟩ := hu
  rfl
theorem bls_get (fs : List Bool) (j : Nat) : (bls fs)[j]? = (fs[j]?).map Value.bool := by simp [bls]
theorem Bls.ofRow {w : World} {base : Nat} {v : Value} {fs : List Bool} (h : w.ownsRow base 4 1 v fs.length (bls fs)) (hb : fs.length ≤ 140737488355328) : Bls w v fs := by
  refine ⟨hb, ?_⟩
  by_cases hx : fs = []
  · subst hx
    rcases h.2 with ⟨rfl, _⟩ | ⟨g, cap, cur, rfl, _, _, hnc, _⟩
    · exact ⟨none, 0, rfl, ⟨Nat.le_refl _, fun _ => rfl⟩, .inl rfl⟩
    · exact ⟨_, _, rfl, ⟨hnc, fun e => by cases e⟩, .inl rfl⟩
  · obtain ⟨g, cap, rfl⟩ := row_slice h (List.length_pos_iff.2 hx)
    refine ⟨_, _, rfl, ⟨row_cap h, fun e => by cases e⟩, .inr ⟨g, 0, rfl, fun j x hj => ?_⟩⟩
    have hjl := (List.getElem?_eq_some_iff.1 hj).1
    rw [Nat.zero_add, h.cellAt _ (by omega), bls_get, hj]; rfl
theorem Ints.cellAt {w : World} {a : Option Addr} {n cap : Nat} {xs : List Int} (h : Ints w (.slice a n cap) xs) {k : Nat} {x : Int} (hx : xs[k]? = some x) : ∃ b off, a = some ⟨b, off, none⟩ ∧ w.cell? ⟨b, off + k, none⟩ = some (.int .i64 x) := by
  obtain ⟨_, a', cap', e, _, h3⟩ := h
  injection e with e1 e2 e3
  subst e1
  rcases h3 with h3 | ⟨b, off, rfl, h3⟩
  · subst h3; simp at hx
  · exact ⟨b, off, rfl, h3 k x hx⟩
/-- how long the lap ahead of a frame is -/
def lapN (fs : List Bool) (k : Nat) : Nat := if k = 0 ∨ fs.length ≤ k then 0 else if fs.getD (k - 1) false || fs.getD k false then 16 else 128
theorem lapN_le (fs : List Bool) (k : Nat) : lapN fs k ≤ 128 := by unfold lapN; split; omega; split <;> omega
theorem lapN_zero (fs : List Bool) : lapN fs 0 = 0 := if_pos (.inl rfl)
theorem lapN_end (fs : List Bool) {k : Nat} (h : fs.length ≤ k) : lapN fs k = 0 := if_pos (.inr h)
theorem lapsOf_any (v : Value) (w : World) (hv : ∃ a n c, v = .slice a n c) : Calls Try.prog 48 #[v] w fun e w' =>
    e = .returned (.func (.func 64) #[] #[.pointer (some ⟨w.heap.size, 0, none⟩)]) ∧ w' = w.alloc (.cells #[v] 27) := by
  obtain ⟨a, n, c, rfl⟩ := hv
  go_enter Try.func48, Try.ntmps48
  go_wp2
  go_ret
  exact ⟨rfl, rfl⟩
theorem getD_of {fs : List Bool} {k : Nat} {x : Bool} (h : fs[k]? = some x) : fs.getD k false = x := by rw [List.getD_eq_getElem?_getD, h]; rfl
set_option maxRecDepth 100000 in
set_option maxHeartbeats 1000000 in
theorem laps1_any (B : Nat) (v : Value) (fs : List Bool) (k : Nat) (w : World) (hb : w.cell? ⟨B, 0, none⟩ = some v) (h : Bls w v fs) (hk : k ≤ 1000000) (_hl : fs.length ≤ 64) :
    Calls Try.prog 64 #[.int .i64 (k : Int), .pointer (some ⟨B, 0, none⟩)] w fun e w' => e = .returned (.int .i64 (lapN fs k : Nat)) ∧ w = w' := by
  obtain ⟨a, cap, rfl⟩ := h.form
  have H := Lib.hid h
  obtain ⟨L, hL⟩ : ∃ L, fs.length = L := ⟨_, rfl⟩
  have HL := Lib.hid hL
  rw [hL] at hb H
  clear h hL
  by_cases h0 : k = 0
  · subst h0
    rw [lapN_zero]
    go_enter Try.func64, Try.ntmps64
    go_wp2
    go_ret
    exact ⟨rfl, rfl⟩
  have t0 : decide (k = 0) = false := decide_eq_false h0
  by_cases h1 : L ≤ k
  · rw [lapN_end fs (by rw [HL.out]; exact h1)]
    have t1 : decide ((L : Int) ≤ (k : Int)) = true := decide_eq_true (by omega)
    have t2 : decide (L ≤ k) = true := decide_eq_true h1
    clear h1 h0
    go_enter Try.func64, Try.ntmps64
    go_wp2
    go_ret
    exact ⟨rfl, rfl⟩
  have t1 : decide ((L : Int) ≤ (k : Int)) = false := decide_eq_false (by omega)
  have t2 : decide (L ≤ k) = false := decide_eq_false h1
  obtain ⟨m, rfl⟩ : ∃ m, k = m + 1 := ⟨k - 1, by omega⟩
  obtain ⟨x, hx⟩ : ∃ x, fs[m]? = some x := ⟨_, List.getElem?_eq_getElem (by rw [HL.out]; omega)⟩
  obtain ⟨y, hy⟩ : ∃ y, fs[m + 1]? = some y := ⟨_, List.getElem?_eq_getElem (by rw [HL.out]; omega)⟩
  obtain ⟨b, off, rfl, c0⟩ := H.out.cellAt hx
  obtain ⟨b', off', e, c1⟩ := H.out.cellAt hy
  cases e
  have hlap : lapN fs (m + 1) = if x || y then 16 else 128 := by
    unfold lapN
    rw [if_neg (by rw [HL.out]; omega), Nat.add_sub_cancel, getD_of hx, getD_of hy]
  have hlap' := Lib.hid hlap
  have es : ((m + 1 : Nat) : Int) - 1 = (m : Int) := by omega
  have q0 : (m : Int) < (L : Int) := by omega
  have q1 : ((m + 1 : Nat) : Int) < (L : Int) := by omega
  clear hlap hx hy h0 h1
  rw [hlap'.out]
  cases x with
  | true =>
    go_enter Try.func64, Try.ntmps64
    go_wp2
    go_ret
    exact ⟨rfl, rfl⟩
  | false =>
    cases y with
    | true =>
      go_enter Try.func64, Try.ntmps64
      go_wp2
      go_ret
      exact ⟨rfl, rfl⟩
    | false =>
      go_enter Try.func64, Try.ntmps64
      go_wp2
      go_ret
      exact ⟨rfl, rfl⟩
end Go.Proofs.Ytmkbpocibpjjaaa
