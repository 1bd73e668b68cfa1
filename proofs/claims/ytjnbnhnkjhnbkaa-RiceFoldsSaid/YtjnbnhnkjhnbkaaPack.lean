/- the reference: Pack -/
import Derived.Test.YtjnbnhnkjhnbkaaRef2
import Derived.StillTailTactics
namespace Go.Proofs.Ytjnbnhnkjhnbkaa
open Go.RowKit Go.Shelf

def padTo (l : List Nat) (m : Nat) : List Nat := (List.range m).map (packByte l)
theorem padTo_length (l : List Nat) (m : Nat) : (padTo l m).length = m := by simp [padTo]
theorem padTo_nil (m : Nat) : u8s (padTo [] m) = List.replicate m (.int .u8 0) := by
  refine List.ext_getElem (by simp [u8s, padTo]) fun i h1 h2 => ?_
  simp [u8s, padTo, packByte]
theorem padTo_all (l : List Nat) : padTo l ((l.length + 7) / 8) = pack l := rfl
theorem padTo_step (l : List Nat) (x m : Nat) (h : l.length / 8 < m) (hx : x ≤ 1) : (u8s (padTo l m)).set (l.length / 8) (.int .u8 ((packByte l (l.length / 8) ||| (x * 2 ^ (7 - l.length % 8)) : Nat))) = u8s (padTo (l ++ [x]) m) := by
  have e := or_add (by omega) (packByte_free l) hx
  rw [e]
  refine List.ext_getElem (by simp [u8s, padTo]) fun i h1 h2 => ?_
  rw [List.getElem_set]
  split
  · rename_i hi
    subst hi
    simp [u8s, padTo, packByte_here]
  · rename_i hi
    simp [u8s, padTo, packByte_other _ _ _ (fun h => hi h.symm)]
theorem or_val8 {n x old : Nat} (ho : old ≤ 255) (hx : x ≤ 1) : Go.bits .or .u8 (old : Int) ((x : Int) * 2 ^ (7 - n % 8) % 256) = ((old ||| (x * 2 ^ (7 - n % 8)) : Nat) : Int) := by
  have h2 : 2 ^ (7 - n % 8) ≤ 2 ^ 7 := Nat.pow_le_pow_right (by omega) (by omega)
  have h3 := Nat.mul_le_mul hx h2
  have e : ((x : Int) * 2 ^ (7 - n % 8)) = ((x * 2 ^ (7 - n % 8) : Nat) : Int) := by simp
  rw [e]
  generalize x * 2 ^ (7 - n % 8) = y at *
  rw [show (y : Int) % 256 = (y : Int) by omega]
  exact u8_or_nat _ _ (by omega) (by omega)
theorem bit01_take {l : List Nat} (h : ∀ x ∈ l, x ≤ 1) (k : Nat) : bit01 (l.take k) := fun j => by
  simp only [List.getD_eq_getElem?_getD]
  cases hj : (l.take k)[j]? with
  | none => simp
  | some y => have := h y (List.mem_of_mem_take (List.mem_of_getElem? hj)); simpa using this

set_option maxRecDepth 100000 in
set_option maxHeartbeats 1000000 in
theorem pack_any (sv : Value) (bs : List Nat) (w : World) (h : Bytes w sv bs) (h01 : ∀ x ∈ bs, x ≤ 1) (hl : bs.length ≤ 1099511627776) :
    Calls Try.prog 77 #[sv] w fun e w' => ∃ v, e = .returned v ∧ Row8 w' v (pack bs) ∧ Upd NoB w w' ∧ newB w v := by
  obtain ⟨i0, hi, hz0, hz1, hz2⟩ := info_parts Try.info5
  obtain ⟨a, cap, rfl⟩ : ∃ a cap, sv = .slice a bs.length cap := by obtain ⟨_, a, cap, rfl, _⟩ := h; exact ⟨a, cap, rfl⟩
  obtain ⟨n, hn⟩ : ∃ n, n = bs.length := ⟨_, rfl⟩
  rw [← hn] at h hl ⊢
  obtain ⟨m, hm⟩ : ∃ m, m = (n + 7) / 8 := ⟨_, rfl⟩
  have Hm := Lib.hid hm; clear hm
  have hlt : ∀ k, bs ≠ [] ∧ (Value.slice a n cap).ownBlock = some k → k < w.heap.size := fun k hk => by obtain ⟨c, t, fr, hc⟩ := h.lt hk.1 k hk.2; exact lt_of_block hc
  have H := Lib.hid h; clear h
  have Hlt := Lib.hid hlt; clear hlt
  have H01 := Lib.hid h01; clear h01
  have Hn := Lib.hid hn; clear hn
  go_enter Try.func77, Try.ntmps77
  go_wp2_with (refine wpList_make_full _ rfl _ _ 32 rfl 0 5 i0 (.int .u8 0) 1 Try.underlying32 hi hz0 hz1 .i64 .i64 _ _ ((n + 7) / 8) rfl rfl rfl rfl ?c1 ?c2 ?c3 ?_)
  case c1 => rw [hz2]; omega
  case c2 => unfold maxLen; omega
  case c3 => omega
  intro w1 hown hgr
  rw [← Hm.out] at hown ⊢
  have hown : w1.ownsRow 0 5 1 (.slice (some ⟨w.heap.size, 0, none⟩) m m) m (u8s (padTo [] m)) := by
    rw [padTo_nil]
    have e := toList_madeCells_one (.int .u8 0) m
    rw [← e]
    simpa using hown
  have hu1 : Upd NoB w w1 := (Upd.refl _ _).grown hgr (fun k e => by cases e)
  have Hown := Lib.hid hown; clear hown
  clear hgr
  go_wp2
  obtain ⟨g, hg⟩ : ∃ g, g = w.heap.size := ⟨_, rfl⟩
  rw [← hg] at Hown ⊢
  have hg1 : w.heap.size ≤ g := by omega
  have Hg := Lib.hid hg; clear hg
  clear hown
  go_loopw [13] (fun i wr => ∃ k : Nat, k ≤ n ∧ i = .int .i64 k ∧ wr.ownsRow 0 5 1 (.slice (some ⟨g, 0, none⟩) m m) m (u8s (padTo (bs.take k) m)) ∧ Upd NoB w wr) (fun i _ => n - (intOf i).toNat)
  case atStart => exact ⟨0, Nat.zero_le _, rfl, Hown.out, hu1⟩
  case round =>
    obtain ⟨k, hk, rfl, ho, hu⟩ := hrel
    by_cases hlt : k < n
    · have hkm : k / 8 < m := by have := Hm.out; omega
      have hlk : (bs.take k).length = k := by have := Hn.out; simp; omega
      have hgk : wr.cell? ⟨g, k / 8, none⟩ = some (.int .u8 (packByte (bs.take k) (k / 8) : Nat)) := by
        rw [ho.cellAt (k / 8) (by omega), u8s_get, if_pos (by rw [padTo_length]; exact hkm)]
        simp [padTo, List.getD_eq_getElem?_getD, hkm]
      have hgf := ho.frozenAt (k / 8)
      have hB := H.out.keep (D := fun k => bs ≠ [] ∧ (Value.slice a n cap).ownBlock = some k) (hu.keepD (fun k hk => ⟨Hlt.out k hk, noB k⟩)) (fun hz k hk => ⟨hz, hk⟩)
      obtain ⟨h255, a', cap', he, _, hz⟩ := hB
      obtain ⟨x, hx⟩ : ∃ x, bs[k]? = some x := ⟨_, List.getElem?_eq_getElem (by rw [← Hn.out]; exact hlt)⟩
      have hx1 : x ≤ 1 := H01.out x (List.mem_of_getElem? hx)
      have htk : bs.take (k + 1) = bs.take k ++ [x] := by rw [List.take_add_one, hx]; rfl
      have hst := ho.stored (k / 8) (.int .u8 ((packByte (bs.take k) (k / 8) ||| (x * 2 ^ (7 - k % 8)) : Nat)))
      have hps := padTo_step (bs.take k) x m (by rw [hlk]; exact hkm) hx1
      rw [hlk] at hps
      rw [hps, ← htk] at hst
      have hob := packByte_le (bit01_take H01.out k) (k / 8)
      injection he with he1 he2 he3
      subst he1; subst he3
      rcases hz with hz | ⟨b, off, rfl, hz⟩
      · subst hz; simp at hx
      have hzj := hz k (by rw [← Hn.out]; exact hlt)
      have hgx : bs.getD k 0 = x := by simp [List.getD_eq_getElem?_getD, hx]
      rw [hgx] at hzj
      generalize packByte (bs.take k) (k / 8) = old at *
      have hidx' : (k : Int) / 8 < (m : Int) := by omega
      have hidx0 : 0 ≤ (k : Int) / 8 := by omega
      have q0 : ((k : Int) / 8).toNat = k / 8 := by omega
      have Hst := Lib.hid hst; clear hst
      have Ho := Lib.hid ho; clear ho
      have Hx := Lib.hid hx; clear hx
      have hltk : (k : Int) < (n : Int) := by omega
      clear hz h255 hps htk hgx he2 hlk hlt
      have q1 : (7 - (k : Int) % 8).toNat = 7 - k % 8 := by omega
      have hs0 : 0 ≤ 7 - (k : Int) % 8 := by omega
      have hs1 : 7 - (k : Int) % 8 < 64 := by omega
      have k0 : (k : Int).tmod 8 = (k : Int) % 8 := Int.tmod_eq_emod_of_nonneg (by omega)
      have k1 : IntKind.i64.wrap ((k : Int) / 8) = (k : Int) / 8 := IntWalk.i64_in _ (by omega)
      have k2 : IntKind.i64.wrap (7 - (k : Int) % 8) = 7 - (k : Int) % 8 := IntWalk.i64_in _ (by omega)
      go_wp2
      refine wp_region_still_tail 12 (by kernel_rfl) (by kernel_rfl) ?_
      simp only [List.take_succ_cons, List.take_zero, List.drop_succ_cons, List.drop_zero]
      repeat still_step
      refine wpStill_nil ?_
      change wpList _ _ _ _ _ wr.drew
      go_wp2
      rw [or_val8 hob hx1]
      refine ⟨⟨k + 1, by omega, by go_num, Hst.out.1, (hu.setCell _ (fun h => by exfalso; have h : g < w.heap.size := h; omega)).drew⟩, by simp [intOf]; omega⟩
    · obtain rfl : k = n := by omega
      have e : bs.take k = bs := by rw [Hn.out, List.take_length]
      have em : padTo bs m = pack bs := by rw [Hm.out, Hn.out]; rfl
      rw [e, em] at ho
      have Ho := Lib.hid ho; clear ho
      go_wp2
      go_ret
      refine ⟨_, rfl, ⟨?_, fun j => ?_⟩, hu, fun k2 hk2 => ?_⟩
      · have : (pack bs).length = m := by rw [pack_length, Hm.out, Hn.out]
        rw [this]; exact Ho.out
      · simp only [List.getD_eq_getElem?_getD, pack_get]
        split
        · exact packByte_le (by have := bit01_take H01.out bs.length; rwa [List.take_length] at this) j
        · simp
      · have : g = k2 := by simpa [Value.ownBlock] using hk2
        omega
end Go.Proofs.Ytjnbnhnkjhnbkaa
