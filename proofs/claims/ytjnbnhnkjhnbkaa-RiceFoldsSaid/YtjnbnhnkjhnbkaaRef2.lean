/- the reference: Of -/
import Derived.Test.YtjnbnhnkjhnbkaaRef
namespace Go.Proofs.Ytjnbnhnkjhnbkaa
open Go.RowKit Go.Shelf

/-- n numbers, the first k of them told by f, the others 0. -/
def fillTo (f : Nat → Nat) (n k : Nat) : List Nat := (List.range n).map fun j => if j < k then f j else 0
theorem fillTo_length (f : Nat → Nat) (n k : Nat) : (fillTo f n k).length = n := by simp [fillTo]
theorem fillTo_zero (f : Nat → Nat) (n : Nat) : u8s (fillTo f n 0) = List.replicate n (.int .u8 0) := by
  refine List.ext_getElem (by simp [u8s, fillTo]) fun j h1 h2 => ?_
  simp [u8s, fillTo]
theorem fillTo_succ (f : Nat → Nat) {n k : Nat} (_ : k < n) : (u8s (fillTo f n k)).set k (.int .u8 (f k : Nat)) = u8s (fillTo f n (k + 1)) := by
  refine List.ext_getElem (by simp [u8s, fillTo]) fun j h1 h2 => ?_
  rw [List.getElem_set]
  simp only [u8s, fillTo, List.getElem_map, List.getElem_range]
  by_cases hj : k = j
  · subst hj; rw [if_pos rfl, if_pos (by omega)]
  · rw [if_neg hj]
    by_cases h : j < k
    · rw [if_pos h, if_pos (by omega)]
    · rw [if_neg h, if_neg (by omega)]
theorem fillTo_all (f : Nat → Nat) (n : Nat) : fillTo f n n = (List.range n).map f := by
  refine List.map_congr_left fun j hj => ?_
  rw [if_pos (List.mem_range.1 hj)]
theorem getD_255 {l : List Nat} (h : ∀ x ∈ l, x ≤ 1) (j : Nat) : l.getD j 0 ≤ 255 := by
  simp only [List.getD_eq_getElem?_getD]
  cases hj : l[j]? with
  | none => simp
  | some y => have := h y (List.mem_of_getElem? hj); simp; omega
theorem bitsOf_zero (zs : List Nat) (n : Nat) : bitsOf zs 0 n = (List.range n).map (bitOf zs) := by simp [bitsOf]

set_option maxRecDepth 100000 in
set_option maxHeartbeats 1000000 in
theorem of_any (sv : Value) (zs : List Nat) (n : Nat) (w : World) (h : Bytes w sv zs) (hn : n ≤ 8 * zs.length) (hl : zs.length ≤ 1099511627776) :
    Calls Try.prog 67 #[sv, .int .i64 n] w fun e w' => ∃ v, e = .returned v ∧ Row8 w' v (bitsOf zs 0 n) ∧ Upd NoB w w' ∧ newB w v := by
  obtain ⟨i0, hi, hz0, hz1, hz2⟩ := info_parts Try.info5
  obtain ⟨a, cap, rfl⟩ : ∃ a cap, sv = .slice a zs.length cap := by obtain ⟨_, a, cap, rfl, _⟩ := h; exact ⟨a, cap, rfl⟩
  have hlt : ∀ k, zs ≠ [] ∧ (Value.slice a zs.length cap).ownBlock = some k → k < w.heap.size := fun k hk => by obtain ⟨c, t, fr, hc⟩ := h.lt hk.1 k hk.2; exact lt_of_block hc
  have H := Lib.hid h; clear h
  have Hlt := Lib.hid hlt; clear hlt
  go_enter Try.func67, Try.ntmps67
  go_wp2_with (refine wpList_make_full _ rfl _ _ 32 rfl 0 5 i0 (.int .u8 0) 1 Try.underlying32 hi hz0 hz1 .i64 .i64 _ _ n rfl rfl rfl rfl ?c1 ?c2 ?c3 ?_)
  case c1 => rw [hz2]; omega
  case c2 => unfold maxLen; omega
  case c3 => omega
  intro w1 hown hgr
  have hown : w1.ownsRow 0 5 1 (.slice (some ⟨w.heap.size, 0, none⟩) n n) n (u8s (fillTo (bitOf zs) n 0)) := by
    rw [fillTo_zero]
    have e := toList_madeCells_one (.int .u8 0) n
    rw [← e]
    simpa using hown
  have hu1 : Upd NoB w w1 := (Upd.refl _ _).grown hgr (fun k e => by cases e)
  have Hown := Lib.hid hown; clear hown
  clear hgr
  go_wp2
  obtain ⟨g, hg⟩ : ∃ g, g = w.heap.size := ⟨_, rfl⟩
  rw [← hg] at Hown ⊢
  have hg1 : w.heap.size ≤ g := by omega
  have Hg := Lib.hid hg; clear hg
  clear hown
  go_loopw [10] (fun i wr => ∃ k : Nat, k ≤ n ∧ i = .int .i64 k ∧ wr.ownsRow 0 5 1 (.slice (some ⟨g, 0, none⟩) n n) n (u8s (fillTo (bitOf zs) n k)) ∧ Upd NoB w wr) (fun i _ => n - (intOf i).toNat)
  case atStart => exact ⟨0, Nat.zero_le _, rfl, Hown.out, hu1⟩
  case round =>
    obtain ⟨k, hk, rfl, ho, hu⟩ := hrel
    by_cases hlt : k < n
    · have hgk : wr.cell? ⟨g, k, none⟩ = some (.int .u8 (fillTo (bitOf zs) n k)[k]! ) := by
        rw [ho.cellAt k (by omega), u8s_get, if_pos (by rw [fillTo_length]; exact hlt)]
        simp [List.getD_eq_getElem?_getD, fillTo_length, hlt]
      have hgf := ho.frozenAt k
      have hst := ho.stored k (.int .u8 (bitOf zs k : Nat))
      rw [fillTo_succ _ hlt] at hst
      have hB := H.out.keep (D := fun k => zs ≠ [] ∧ (Value.slice a zs.length cap).ownBlock = some k) (hu.keepD (fun k hk => ⟨Hlt.out k hk, noB k⟩)) (fun hz k hk => ⟨hz, hk⟩)
      obtain ⟨h255, a', cap', he, _, hz⟩ := hB
      cases he
      have hz' : zs ≠ [] := by rintro rfl; simp at hn; omega
      rcases hz with hz | ⟨b, off, rfl, hz⟩
      · exact absurd hz hz'
      have hzj := hz (k / 8) (by omega)
      have hz1 := h255 (k / 8)
      have hx : bitOf zs k = zs.getD (k / 8) 0 / 2 ^ (7 - k % 8) % 2 := rfl
      have hkz : k / 8 < zs.length := by omega
      have hx1 := bitOf_le zs k
      generalize zs.getD (k / 8) 0 = z at *
      generalize bitOf zs k = x at *
      have hbit : Go.bits .and .u8 ((z : Int) / 2 ^ (7 - k % 8)) 1 = (x : Int) := and_one hz1 hx
      have Hst := Lib.hid hst; clear hst
      have Ho := Lib.hid ho; clear ho
      have Hx := Lib.hid hx; clear hx
      clear hz h255
      go_wp2
      go_roundw
      case rel => exact ⟨k + 1, by omega, by go_num, Hst.out.1, hu.setCell _ (fun h => by exfalso; have h : g < w.heap.size := h; omega)⟩
      case measure => simp [intOf]; omega
    · obtain rfl : k = n := by omega
      rw [fillTo_all, ← bitsOf_zero] at ho
      have Ho := Lib.hid ho; clear ho
      go_wp2
      go_ret
      refine ⟨_, rfl, ⟨?_, fun j => ?_⟩, hu, fun k2 hk2 => ?_⟩
      · rw [bitsOf_length]; exact Ho.out
      · exact getD_255 (bitsOf_01 _ _ _) j
      · have : g = k2 := by simpa [Value.ownBlock] using hk2
        omega
end Go.Proofs.Ytjnbnhnkjhnbkaa
