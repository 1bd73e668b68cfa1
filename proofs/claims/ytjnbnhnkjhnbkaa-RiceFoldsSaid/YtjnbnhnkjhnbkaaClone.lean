/- slices.Clone of bytes; Bytes of the writer -/
import Derived.Test.YtjnbnhnkjhnbkaaWr
import Derived.Lib.SliceRun
namespace Go.Proofs.Ytjnbnhnkjhnbkaa
open Go.RowKit Go.Shelf

def u8s (zs : List Nat) : List Value := zs.map fun z : Nat => Value.int .u8 z
theorem u8s_length (zs : List Nat) : (u8s zs).length = zs.length := by simp [u8s]
theorem u8s_one (zs : List Nat) : ∀ u ∈ u8s zs, u.oneCell' = true := by
  intro u hu
  simp only [u8s, List.mem_map] at hu
  obtain ⟨z, _, rfl⟩ := hu
  rfl
theorem u8s_get (zs : List Nat) (j : Nat) : (u8s zs)[j]? = if j < zs.length then some (.int .u8 (zs.getD j 0 : Nat)) else none := by
  unfold u8s
  by_cases h : j < zs.length
  · rw [if_pos h]; simp [List.getD_eq_getElem?_getD, h]
  · rw [if_neg h]; simp; omega
/-- A slice of the call's own with the bytes zs. -/
def Row8 (w : World) (v : Value) (zs : List Nat) : Prop := w.ownsRow 0 5 1 v zs.length (u8s zs) ∧ ∀ j, zs.getD j 0 ≤ 255
theorem Row8.bytes {w : World} {v : Value} {zs : List Nat} (h : Row8 w v zs) : Bytes w v zs := by
  refine ⟨h.2, ?_⟩
  by_cases hz : zs = []
  · subst hz
    rcases h.1.2 with ⟨rfl, _⟩ | ⟨g, cap, cur, rfl, _, _, hnc, _⟩
    · exact ⟨none, 0, rfl, Nat.le_refl _, .inl rfl⟩
    · exact ⟨_, _, rfl, hnc, .inl rfl⟩
  · obtain ⟨g, cap, rfl⟩ := row_slice h.1 (List.length_pos_iff.2 hz)
    refine ⟨_, _, rfl, row_cap h.1, .inr ⟨g, 0, rfl, fun j hj => ?_⟩⟩
    rw [Nat.zero_add, h.1.cellAt _ (by omega), u8s_get, if_pos hj]
def newB (w : World) (v : Value) : Prop := ∀ k, v.ownBlock = some k → w.heap.size ≤ k

set_option maxRecDepth 100000 in
set_option maxHeartbeats 1000000 in
theorem clone_any (sv : Value) (zs : List Nat) (w : World) (h : Bytes w sv zs) (hl : zs.length ≤ 140737488355328) :
    Calls Try.prog 76 #[sv] w fun e w' => ∃ v, e = .returned v ∧ Row8 w' v zs ∧ Upd NoB w w' ∧ newB w v := by
  obtain ⟨i0, hi, hz0, hz1, hz2⟩ := info_parts Try.info5
  obtain ⟨h255, a, cap, rfl, _, hc⟩ := h
  have hnil := fun (w : World) (a : Option Addr) (n c : Nat) => Lib.run_eql_slice_nil (P := Try.prog) w 32 5 a n c 0 0 Try.underlying32
  cases a with
  | none =>
    have hz : zs = [] := by
      rcases hc with h | ⟨b, off, h, _⟩
      · exact h
      · cases h
    subst hz
    go_enter Try.func76, Try.ntmps76
    go_wp2
    go_ret
    exact ⟨_, rfl, ⟨World.ownsRow_nil _ _ _ _, h255⟩, Upd.refl _ _, fun k hk => by simp [Value.ownBlock] at hk⟩
  | some ad =>
    have hl0 := World.ownsRow_lit (base := 0) (size := 1) (e := 5) w #[] 0 (Nat.zero_le _) (Nat.zero_le _) rfl
    by_cases hz : zs = []
    · subst hz
      go_enter Try.func76, Try.ntmps76
      go_wp2_with fail
      go_ret
      refine ⟨_, rfl, ⟨hl0, h255⟩, (Upd.refl _ _).alloc _, fun k hk => ?_⟩
      simp [Value.ownBlock] at hk; omega
    · rcases hc with h | ⟨b, off, h, hc⟩
      · exact absurd h hz
      · cases h
        have hpos := List.length_pos_iff.2 hz
        have hcell : ∀ j u, (u8s zs)[j]? = some u → (w.alloc (.cells #[] 5)).cell? ((⟨b, off, none⟩ : Addr).add j) = some u := by
          intro j u hu
          rw [u8s_get] at hu
          by_cases hj : j < zs.length
          · rw [if_pos hj] at hu
            rw [addr_add]
            have := hc j hj
            rw [World.cell?_alloc_past _ _ _ (World.block_lt_of_cell? w _ this), this, hu]
          · rw [if_neg hj] at hu; cases hu
        have H2 := Lib.hid h255; clear h255
        have Hc := Lib.hid hc; clear hc
        have hz' : (zs.length == 0) = false := by simp; exact hz
        go_enter Try.func76, Try.ntmps76
        go_wp2_with (at_builtin; refine wpList_append_mine rfl _ _ 32 rfl 5 i0 (.int .u8 0) 1 1 Try.underlying32 hi hz0 hz1 hz2 rfl (by decide) _ _ _ rfl hl0 ⟨b, off, none⟩ zs.length cap (u8s zs) rfl hpos ?c1 hcell (u8s_one zs) ?c3 ?c4 ?_)
        case c1 => simp [u8s_length]
        case c3 => unfold maxLen; omega
        intro v' w1 hown hgr hnew
        go_wp2
        go_ret
        refine ⟨_, rfl, ⟨hown, H2.out⟩, Upd.grown ((Upd.refl _ _).alloc _) hgr ?_, fun k hk => ?_⟩
        · intro k hk hlt
          simp [Value.ownBlock] at hk; omega
        · rcases hnew k hk with h | h
          · simp [Value.ownBlock] at h; omega
          · simp at h; omega

/-- Bytes of the writer. -/
theorem wbytes_any (b : Nat) (l : List Nat) (v : Value) (w : World) (h : WAt w b l v) (hl : l.length ≤ 1099511627776) :
    Calls Try.prog 31 #[.pointer (some ⟨b, 0, none⟩)] w fun e w' => ∃ v', e = .returned v' ∧ Row8 w' v' (pack l) ∧ Upd NoB w w' ∧ newB w v' := by
  have hb : Row8 w v (pack l) := ⟨by rw [pack_length]; exact h.2.1, fun j => by
    simp only [List.getD_eq_getElem?_getD, pack_get]
    by_cases hj : j < (l.length + 7) / 8
    · rw [if_pos hj]; exact packByte_le h.2.2 j
    · rw [if_neg hj]; simp⟩
  have h0 : w.cell? ⟨b, 0, none⟩ = some v := by simp [World.cell?, h.1]
  have hlen : (pack l).length ≤ 140737488355328 := by rw [pack_length]; omega
  have Hb := Lib.hid hb; clear hb
  have H := Lib.hid h; clear h
  go_enter Try.func31, Try.ntmps31
  go_wp2_with (go_at_call 76; refine (clone_any _ _ _ Hb.out.bytes hlen).mono ?_; rintro e w2 ⟨v2, rfl, hr, hu, hn⟩)
  go_ret
  exact ⟨_, rfl, hr, hu, hn⟩
theorem wbytes_nil (w : World) :
    Calls Try.prog 31 #[.pointer none] w fun e w' => e = .returned (.slice none 0 0) ∧ w = w' := by
  go_enter Try.func31, Try.ntmps31
  go_wp2
  go_ret
  exact ⟨rfl, rfl⟩
end Go.Proofs.Ytjnbnhnkjhnbkaa
