/- append([]byte{}, v...); a row overwritten -/
import Derived.Test.YtdjaileeklhkmaaBack
import Derived.Laws.AppendOwnNone
namespace Go.Proofs.Ytdjaileeklhkmaa
open Go.RowKit Go.Shelf

theorem row8_base {w : World} {base : Nat} {v : Value} {zs : List Nat} (h : w.ownsRow base 5 1 v zs.length (u8s zs)) (h255 : ∀ j, zs.getD j 0 ≤ 255) : Row8 w v zs := ⟨row_base h (Nat.zero_le _), h255⟩
theorem wpList_copy {w : World} {ops : Array Oper} {rest : List Oper} {o : Oper} {a : Act} {Q : Exit → Act → World → Prop} (hgd : o.guard = none) (s x : Operand)
    (ho : o.op = .call { callee := .builtin .append, args := #[s, x], argTypes := #[27, 27] })
    (sv : Value) (zs : List Nat) (hs : a.eval s = .slice (some ⟨w.heap.size, 0, none⟩) 0 0) (hx : a.eval x = sv) (hb : Bytes w sv zs) (hl : zs.length ≤ 140737488355328) (hnone : ∀ n c, sv = .slice none n c → c = 0)
    (hK : ∀ v' w', Row8 w' v' zs → newB w v' → Upd NoB w w' → wpList Try.prog ops Q rest (a.put o.dst v') w') : wpList Try.prog ops Q (o :: rest) a (w.alloc (.cells #[] 5)) := by
  obtain ⟨i0, hi, hz0, hz1, hz2⟩ := info_parts Try.info5
  have hown := World.ownsRow_lit (base := w.heap.size) (size := 1) (e := 5) w #[] 0 (Nat.le_refl _) (Nat.zero_le _) rfl
  have u0 : Upd NoB w (w.alloc (.cells #[] 5)) := (Upd.refl _ _).alloc _
  obtain ⟨h255, ad, cap, rfl, hcap, hc⟩ := hb
  cases ad with
  | none =>
    have hz : zs = [] := by
      rcases hc with h | ⟨b, off, h, _⟩
      · exact h
      · cases h
    subst hz
    have hc0 := hnone _ _ rfl
    subst hc0
    refine wpList_append_own_none (w := w.alloc (.cells #[] 5)) hgd s x 27 ho w.heap.size 5 i0 1 Try.underlying27 hi _ 0 [] hs hown hx ?_
    refine hK _ _ ⟨row_base hown (Nat.zero_le _), fun j => by simp⟩ (fun k hk => ?_) u0
    simp [Value.ownBlock] at hk; omega
  | some ad =>
    have hcell : ∀ j u, (u8s zs)[j]? = some u → (w.alloc (.cells #[] 5)).cell? (ad.add j) = some u := by
      intro j u hu
      rw [u8s_get] at hu
      by_cases hj : j < zs.length
      · rw [if_pos hj] at hu
        rcases hc with h | ⟨b, off, h, hc⟩
        · subst h; simp at hj
        · cases h
          rw [addr_add]
          have := hc j hj
          rw [World.cell?_alloc_past _ _ _ (World.block_lt_of_cell? w _ this), this, hu]
      · rw [if_neg hj] at hu; cases hu
    refine wpList_append_own (w := w.alloc (.cells #[] 5)) hgd s x 27 ho w.heap.size 5 i0 (.int .u8 0) 1 1 Try.underlying27 hi hz0 hz1 hz2 rfl (by decide) _ 0 [] hs hown ad zs.length cap (u8s zs) hx (by simp [u8s_length]) hcell (u8s_one zs) (by unfold maxLen; omega) (by omega) u0.size ?_
    intro v' w' hown' hgr hnil
    rw [Nat.zero_add, List.nil_append] at hown'
    refine hK v' w' (row8_base hown' h255) (fun k hk => (hown'.lt k hk).1) (u0.grown hgr (fun k hk hlt => ?_))
    simp [Value.ownBlock] at hk
    omega
/-- Some bytes of one's own, so many. -/
def Some8 (w : World) (v : Value) (n : Nat) : Prop := ∃ zs, zs.length = n ∧ Row8 w v zs
theorem Some8.cell {w : World} {g n cap : Nat} (h : Some8 w (.slice (some ⟨g, 0, none⟩) n cap) n) {k : Nat} (hk : k < n) : ∃ z : Nat, w.cell? ⟨g, k, none⟩ = some (.int .u8 z) := by
  obtain ⟨zs, rfl, hr⟩ := h
  refine ⟨zs.getD k 0, ?_⟩
  rw [hr.1.cellAt k (by omega), u8s_get, if_pos hk]
theorem Some8.free {w : World} {g n cap : Nat} (h : Some8 w (.slice (some ⟨g, 0, none⟩) n cap) n) (k : Nat) : w.frozen? ⟨g, k, none⟩ = false := by
  obtain ⟨zs, rfl, hr⟩ := h
  exact hr.1.frozenAt k
theorem Some8.set {w : World} {g n cap : Nat} (h : Some8 w (.slice (some ⟨g, 0, none⟩) n cap) n) (k x : Nat) (hx : x ≤ 255) : Some8 (w.setCell ⟨g, k, none⟩ (.int .u8 x)) (.slice (some ⟨g, 0, none⟩) n cap) n := by
  obtain ⟨zs, rfl, hr, h255⟩ := h
  have hst := (hr.stored k (.int .u8 (x : Int))).1
  refine ⟨zs.set k x, by simp, ?_, fun j => ?_⟩
  · have e : u8s (zs.set k x) = (u8s zs).set k (.int .u8 (x : Int)) := by simp [u8s, List.map_set]
    rw [e, List.length_set]
    exact hst
  · simp only [List.getD_eq_getElem?_getD, List.getElem?_set]
    have := h255 j
    rw [List.getD_eq_getElem?_getD] at this
    split
    · split
      · simpa using hx
      · simp
    · exact this
theorem Row8.some8 {w : World} {v : Value} {zs : List Nat} (h : Row8 w v zs) : Some8 w v zs.length := ⟨zs, rfl, h⟩
theorem Some8.form {w : World} {v : Value} {n : Nat} (h : Some8 w v n) : (v = .slice none 0 0 ∧ n = 0) ∨ ∃ g cap, v = .slice (some ⟨g, 0, none⟩) n cap := by
  obtain ⟨zs, hz, hr⟩ := h
  rcases hr.1.2 with ⟨h1, h2⟩ | ⟨g, cap, cur, h1, _⟩
  · exact .inl ⟨h1, by omega⟩
  · exact .inr ⟨g, cap, by rw [h1, hz]⟩
theorem okAll_bits : ∀ (ds : List OpD) (l : List Nat), okAll l ds → bitsAll l ds = catW l ds
  | [], _, _ => rfl
  | x :: ds, l, h => by
    simp only [bitsAll, catW]
    rw [nextW_ok h.1]
    exact okAll_bits ds _ h.2
theorem bits_done (xs : List OpD) : bitsAll [] (doneOf [] xs) = bitsAll [] xs := by
  obtain ⟨h1, h2⟩ := done_cat xs []
  rw [h1, okAll_bits _ _ h2]
end Go.Proofs.Ytdjaileeklhkmaa
