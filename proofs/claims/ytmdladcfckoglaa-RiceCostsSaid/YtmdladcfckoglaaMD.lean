/- the reference: Same, Of, the sums | the reference: Of | the reference: Pack | the examples of the chapter hold | carried over from the texts of the laws of bits, which a seat without these laws leaves out -/
import Derived.Test.YtmdladcfckoglaaMC
import Derived.StillTailTactics
import Derived.Lib.SlBytesConst
namespace Go.Proofs.Ytmdladcfckoglaa
open Go.RowKit Go.Shelf

def sameB (xs ys : List Nat) : Bool := decide (xs = ys)
theorem sameB_iff {xs ys : List Nat} : sameB xs ys = true ↔ xs = ys := decide_eq_true_iff
theorem sameB_self (xs : List Nat) : sameB xs xs = true := sameB_iff.2 rfl

set_option maxRecDepth 100000 in
set_option maxHeartbeats 1000000 in
theorem same_any (sa sb : Value) (xs ys : List Nat) (w : World) (ha : Bytes w sa xs) (hb : Bytes w sb ys) (hl : xs.length ≤ 1099511627776) :
    Calls Try.prog 30 #[sa, sb] w fun e w' => e = .returned (.bool (sameB xs ys)) ∧ ∃ n, w' = w.drewN n := by
  obtain ⟨a255, a, ca, rfl, _, ha⟩ := ha
  obtain ⟨b255, b, cb, rfl, _, hb⟩ := hb
  have HA := Lib.hid ha; clear ha
  have HB := Lib.hid hb; clear hb
  have A2 := Lib.hid a255; clear a255
  have B2 := Lib.hid b255; clear b255
  by_cases hlen : xs.length = ys.length
  · have hlb : ((xs.length : Int) != (ys.length : Int)) = false := by simp; omega
    have Hlen := Lib.hid hlen; clear hlen
    go_enter Try.func30, Try.ntmps30
    go_wp2_with fail
    go_loopw [13] (fun i wr => ∃ (k n : Nat), k ≤ xs.length ∧ i = .int .i64 k ∧ (∀ j, j < k → xs[j]? = ys[j]?) ∧ wr = w.drewN n) (fun i _ => xs.length - (intOf i).toNat)
    case atStart => exact ⟨0, 0, Nat.zero_le _, rfl, fun j hj => by omega, rfl⟩
    case round =>
      obtain ⟨k, n, hk, rfl, heq, rfl⟩ := hrel
      have Heq := Lib.hid heq; clear heq
      by_cases hlt : k < xs.length
      · have hltb : k < ys.length := by have := Hlen.out; omega
        rcases HA.out with hz | ⟨ba, oa, rfl, hca⟩
        · subst hz; simp at hlt
        rcases HB.out with hz | ⟨bb, ob, rfl, hcb⟩
        · subst hz; simp at hltb
        have d1 := hca k hlt
        have d2 := hcb k hltb
        have g1 : xs[k]? = some (xs.getD k 0) := by simp [List.getD_eq_getElem?_getD, hlt]
        have g2 : ys[k]? = some (ys.getD k 0) := by simp [List.getD_eq_getElem?_getD, hltb]
        have q1 : (k : Int) < xs.length := by omega
        have q2 : (k : Int) < ys.length := by omega
        generalize xs.getD k 0 = x at *
        generalize ys.getD k 0 = y at *
        have G1 := Lib.hid g1; clear g1
        have G2 := Lib.hid g2; clear g2
        clear hca hcb
        by_cases hxy : x = y
        · subst hxy
          have hne : ((x : Int) != (x : Int)) = false := by simp
          go_wp2
          go_quiet (fail)
          go_wp2
          go_roundw
          case rel =>
            refine ⟨k + 1, n + nq, by omega, by go_num, fun j hj => ?_, rfl⟩
            rcases Nat.lt_or_ge j k with h | h
            · exact Heq.out j h
            · obtain rfl : j = k := by omega
              rw [G1.out, G2.out]
          case measure => simp [intOf]; omega
        · have hne : ((x : Int) != (y : Int)) = true := by simp; omega
          have hf : sameB xs ys = false := decide_eq_false (fun e => by
            have h1 := G1.out; have h2 := G2.out
            rw [e, h2] at h1
            injection h1 with h1
            exact hxy h1.symm)
          have Hf := Lib.hid hf; clear hf
          go_wp2
          go_quiet (fail)
          go_wp2
          go_ret
          exact ⟨by rw [Hf.out]; rfl, n + nq, by rw [World.drewN_drewN]⟩
      · obtain rfl : k = xs.length := by omega
        have hf : sameB xs ys = true := sameB_iff.2 (List.ext_getElem? fun j => by
          rcases Nat.lt_or_ge j xs.length with h | h
          · exact Heq.out j h
          · rw [List.getElem?_eq_none h, List.getElem?_eq_none (by have := Hlen.out; omega)])
        have Hf := Lib.hid hf; clear hf
        go_wp2
        go_ret
        exact ⟨by rw [Hf.out]; rfl, n, rfl⟩
  · have hlb : ((xs.length : Int) != (ys.length : Int)) = true := by simp; omega
    have hf : sameB xs ys = false := decide_eq_false (fun e => hlen (by rw [e]))
    have Hf := Lib.hid hf; clear hf hlen
    go_enter Try.func30, Try.ntmps30
    go_wp2
    go_ret
    exact ⟨by rw [Hf.out]; rfl, 0, rfl⟩
end Go.Proofs.Ytmdladcfckoglaa

namespace Go.Proofs.Ytmdladcfckoglaa
open Go.RowKit Go.Shelf

/-- n numbers, the first k of them told by f, the others 0. -/
def fillTo (f : Nat → Nat) (n k : Nat) : List Nat := (List.range n).map fun j => if j < k then f j else 0
theorem fillTo_length (f : Nat → Nat) (n k : Nat) : (fillTo f n k).length = n := by simp [fillTo]
theorem fillTo_zero (f : Nat → Nat) (n : Nat) : u8s (fillTo f n 0) = List.replicate n (.int .u8 0) := by
  refine List.ext_getElem (by simp [u8s, fillTo]) fun j h1 h2 => ?_
  simp [u8s, fillTo]
theorem fillTo_succ (f : Nat → Nat) {n k : Nat} (_ : k < n) : (u8s (fillTo f n k)).set k (.int .u8 (f k : Nat)) = u8s (fillTo f n (k + 1)) := by
  refine List.ext_getElem (by simp [u8s, fillTo]) fun j h1 h2 => ?_
  rw [List.getElem_set]
  simp only [u8s, fillTo, List.getElem_map, List.getElem_range]
  by_cases hj : k = j
  · subst hj; rw [if_pos rfl, if_pos (by omega)]
  · rw [if_neg hj]
    by_cases h : j < k
    · rw [if_pos h, if_pos (by omega)]
    · rw [if_neg h, if_neg (by omega)]
theorem fillTo_all (f : Nat → Nat) (n : Nat) : fillTo f n n = (List.range n).map f := by
  refine List.map_congr_left fun j hj => ?_
  rw [if_pos (List.mem_range.1 hj)]
theorem getD_255 {l : List Nat} (h : ∀ x ∈ l, x ≤ 1) (j : Nat) : l.getD j 0 ≤ 255 := by
  simp only [List.getD_eq_getElem?_getD]
  cases hj : l[j]? with
  | none => simp
  | some y => have := h y (List.mem_of_getElem? hj); simp; omega
theorem bitsOf_zero (zs : List Nat) (n : Nat) : bitsOf zs 0 n = (List.range n).map (bitOf zs) := by simp [bitsOf]

set_option maxRecDepth 100000 in
set_option maxHeartbeats 1000000 in
theorem of_any (sv : Value) (zs : List Nat) (n : Nat) (w : World) (h : Bytes w sv zs) (hn : n ≤ 8 * zs.length) (hl : zs.length ≤ 1099511627776) :
    Calls Try.prog 67 #[sv, .int .i64 n] w fun e w' => ∃ v, e = .returned v ∧ Row8 w' v (bitsOf zs 0 n) ∧ Upd NoB w w' ∧ newB w v := by
  obtain ⟨i0, hi, hz0, hz1, hz2⟩ := info_parts Try.info5
  obtain ⟨a, cap, rfl⟩ : ∃ a cap, sv = .slice a zs.length cap := by obtain ⟨_, a, cap, rfl, _⟩ := h; exact ⟨a, cap, rfl⟩
  have hlt : ∀ k, zs ≠ [] ∧ (Value.slice a zs.length cap).ownBlock = some k → k < w.heap.size := fun k hk => by obtain ⟨c, t, fr, hc⟩ := h.lt hk.1 k hk.2; exact lt_of_block hc
  have H := Lib.hid h; clear h
  have Hlt := Lib.hid hlt; clear hlt
  go_enter Try.func67, Try.ntmps67
  go_wp2_with (refine wpList_make_full _ rfl _ _ 32 rfl 0 5 i0 (.int .u8 0) 1 Try.underlying32 hi hz0 hz1 .i64 .i64 _ _ n rfl rfl rfl rfl ?c1 ?c2 ?c3 ?_)
  case c1 => rw [hz2]; omega
  case c2 => unfold maxLen; omega
  case c3 => omega
  intro w1 hown hgr
  have hown : w1.ownsRow 0 5 1 (.slice (some ⟨w.heap.size, 0, none⟩) n n) n (u8s (fillTo (bitOf zs) n 0)) := by
    rw [fillTo_zero]
    have e := toList_madeCells_one (.int .u8 0) n
    rw [← e]
    simpa using hown
  have hu1 : Upd NoB w w1 := (Upd.refl _ _).grown hgr (fun k e => by cases e)
  have Hown := Lib.hid hown; clear hown
  clear hgr
  go_wp2
  obtain ⟨g, hg⟩ : ∃ g, g = w.heap.size := ⟨_, rfl⟩
  rw [← hg] at Hown ⊢
  have hg1 : w.heap.size ≤ g := by omega
  have Hg := Lib.hid hg; clear hg
  clear hown
  go_loopw [10] (fun i wr => ∃ k : Nat, k ≤ n ∧ i = .int .i64 k ∧ wr.ownsRow 0 5 1 (.slice (some ⟨g, 0, none⟩) n n) n (u8s (fillTo (bitOf zs) n k)) ∧ Upd NoB w wr) (fun i _ => n - (intOf i).toNat)
  case atStart => exact ⟨0, Nat.zero_le _, rfl, Hown.out, hu1⟩
  case round =>
    obtain ⟨k, hk, rfl, ho, hu⟩ := hrel
    by_cases hlt : k < n
    · have hgk : wr.cell? ⟨g, k, none⟩ = some (.int .u8 (fillTo (bitOf zs) n k)[k]! ) := by
        rw [ho.cellAt k (by omega), u8s_get, if_pos (by rw [fillTo_length]; exact hlt)]
        simp [List.getD_eq_getElem?_getD, fillTo_length, hlt]
      have hgf := ho.frozenAt k
      have hst := ho.stored k (.int .u8 (bitOf zs k : Nat))
      rw [fillTo_succ _ hlt] at hst
      have hB := H.out.keep (D := fun k => zs ≠ [] ∧ (Value.slice a zs.length cap).ownBlock = some k) (hu.keepD (fun k hk => ⟨Hlt.out k hk, noB k⟩)) (fun hz k hk => ⟨hz, hk⟩)
      obtain ⟨h255, a', cap', he, _, hz⟩ := hB
      cases he
      have hz' : zs ≠ [] := by rintro rfl; simp at hn; omega
      rcases hz with hz | ⟨b, off, rfl, hz⟩
      · exact absurd hz hz'
      have hzj := hz (k / 8) (by omega)
      have hz1 := h255 (k / 8)
      have hx : bitOf zs k = zs.getD (k / 8) 0 / 2 ^ (7 - k % 8) % 2 := rfl
      have hkz : k / 8 < zs.length := by omega
      have hx1 := bitOf_le zs k
      generalize zs.getD (k / 8) 0 = z at *
      generalize bitOf zs k = x at *
      have hbit : Go.bits .and .u8 ((z : Int) / 2 ^ (7 - k % 8)) 1 = (x : Int) := and_one hz1 hx
      have Hst := Lib.hid hst; clear hst
      have Ho := Lib.hid ho; clear ho
      have Hx := Lib.hid hx; clear hx
      clear hz h255
      go_wp2
      go_roundw
      case rel => exact ⟨k + 1, by omega, by go_num, Hst.out.1, hu.setCell _ (fun h => by exfalso; have h : g < w.heap.size := h; omega)⟩
      case measure => simp [intOf]; omega
    · obtain rfl : k = n := by omega
      rw [fillTo_all, ← bitsOf_zero] at ho
      have Ho := Lib.hid ho; clear ho
      go_wp2
      go_ret
      refine ⟨_, rfl, ⟨?_, fun j => ?_⟩, hu, fun k2 hk2 => ?_⟩
      · rw [bitsOf_length]; exact Ho.out
      · exact getD_255 (bitsOf_01 _ _ _) j
      · have : g = k2 := by simpa [Value.ownBlock] using hk2
        omega
end Go.Proofs.Ytmdladcfckoglaa

namespace Go.Proofs.Ytmdladcfckoglaa
open Go.RowKit Go.Shelf

def padTo (l : List Nat) (m : Nat) : List Nat := (List.range m).map (packByte l)
theorem padTo_length (l : List Nat) (m : Nat) : (padTo l m).length = m := by simp [padTo]
theorem padTo_nil (m : Nat) : u8s (padTo [] m) = List.replicate m (.int .u8 0) := by
  refine List.ext_getElem (by simp [u8s, padTo]) fun i h1 h2 => ?_
  simp [u8s, padTo, packByte]
theorem padTo_all (l : List Nat) : padTo l ((l.length + 7) / 8) = pack l := rfl
theorem padTo_step (l : List Nat) (x m : Nat) (_h : l.length / 8 < m) (hx : x ≤ 1) : (u8s (padTo l m)).set (l.length / 8) (.int .u8 ((packByte l (l.length / 8) ||| (x * 2 ^ (7 - l.length % 8)) : Nat))) = u8s (padTo (l ++ [x]) m) := by
  have e := or_add (by omega) (packByte_free l) hx
  rw [e]
  refine List.ext_getElem (by simp [u8s, padTo]) fun i h1 h2 => ?_
  rw [List.getElem_set]
  split
  · rename_i hi
    subst hi
    simp [u8s, padTo, packByte_here]
  · rename_i hi
    simp [u8s, padTo, packByte_other _ _ _ (fun h => hi h.symm)]
theorem or_val8 {n x old : Nat} (ho : old ≤ 255) (hx : x ≤ 1) : Go.bits .or .u8 (old : Int) ((x : Int) * 2 ^ (7 - n % 8) % 256) = ((old ||| (x * 2 ^ (7 - n % 8)) : Nat) : Int) := by
  have h2 : 2 ^ (7 - n % 8) ≤ 2 ^ 7 := Nat.pow_le_pow_right (by omega) (by omega)
  have h3 := Nat.mul_le_mul hx h2
  have e : ((x : Int) * 2 ^ (7 - n % 8)) = ((x * 2 ^ (7 - n % 8) : Nat) : Int) := by simp
  rw [e]
  generalize x * 2 ^ (7 - n % 8) = y at *
  rw [show (y : Int) % 256 = (y : Int) by omega]
  exact u8_or_nat _ _ (by omega) (by omega)
theorem bit01_take {l : List Nat} (h : ∀ x ∈ l, x ≤ 1) (k : Nat) : bit01 (l.take k) := fun j => by
  simp only [List.getD_eq_getElem?_getD]
  cases hj : (l.take k)[j]? with
  | none => simp
  | some y => have := h y (List.mem_of_mem_take (List.mem_of_getElem? hj)); simpa using this

set_option maxRecDepth 100000 in
set_option maxHeartbeats 1000000 in
theorem pack_any (sv : Value) (bs : List Nat) (w : World) (h : Bytes w sv bs) (h01 : ∀ x ∈ bs, x ≤ 1) (hl : bs.length ≤ 1099511627776) :
    Calls Try.prog 77 #[sv] w fun e w' => ∃ v, e = .returned v ∧ Row8 w' v (pack bs) ∧ Upd NoB w w' ∧ newB w v := by
  obtain ⟨i0, hi, hz0, hz1, hz2⟩ := info_parts Try.info5
  obtain ⟨a, cap, rfl⟩ : ∃ a cap, sv = .slice a bs.length cap := by obtain ⟨_, a, cap, rfl, _⟩ := h; exact ⟨a, cap, rfl⟩
  obtain ⟨n, hn⟩ : ∃ n, n = bs.length := ⟨_, rfl⟩
  rw [← hn] at h hl ⊢
  obtain ⟨m, hm⟩ : ∃ m, m = (n + 7) / 8 := ⟨_, rfl⟩
  have Hm := Lib.hid hm; clear hm
  have hlt : ∀ k, bs ≠ [] ∧ (Value.slice a n cap).ownBlock = some k → k < w.heap.size := fun k hk => by obtain ⟨c, t, fr, hc⟩ := h.lt hk.1 k hk.2; exact lt_of_block hc
  have H := Lib.hid h; clear h
  have Hlt := Lib.hid hlt; clear hlt
  have H01 := Lib.hid h01; clear h01
  have Hn := Lib.hid hn; clear hn
  go_enter Try.func77, Try.ntmps77
  go_wp2_with (refine wpList_make_full _ rfl _ _ 32 rfl 0 5 i0 (.int .u8 0) 1 Try.underlying32 hi hz0 hz1 .i64 .i64 _ _ ((n + 7) / 8) rfl rfl rfl rfl ?c1 ?c2 ?c3 ?_)
  case c1 => rw [hz2]; omega
  case c2 => unfold maxLen; omega
  case c3 => omega
  intro w1 hown hgr
  rw [← Hm.out] at hown ⊢
  have hown : w1.ownsRow 0 5 1 (.slice (some ⟨w.heap.size, 0, none⟩) m m) m (u8s (padTo [] m)) := by
    rw [padTo_nil]
    have e := toList_madeCells_one (.int .u8 0) m
    rw [← e]
    simpa using hown
  have hu1 : Upd NoB w w1 := (Upd.refl _ _).grown hgr (fun k e => by cases e)
  have Hown := Lib.hid hown; clear hown
  clear hgr
  go_wp2
  obtain ⟨g, hg⟩ : ∃ g, g = w.heap.size := ⟨_, rfl⟩
  rw [← hg] at Hown ⊢
  have hg1 : w.heap.size ≤ g := by omega
  have Hg := Lib.hid hg; clear hg
  clear hown
  go_loopw [13] (fun i wr => ∃ k : Nat, k ≤ n ∧ i = .int .i64 k ∧ wr.ownsRow 0 5 1 (.slice (some ⟨g, 0, none⟩) m m) m (u8s (padTo (bs.take k) m)) ∧ Upd NoB w wr) (fun i _ => n - (intOf i).toNat)
  case atStart => exact ⟨0, Nat.zero_le _, rfl, Hown.out, hu1⟩
  case round =>
    obtain ⟨k, hk, rfl, ho, hu⟩ := hrel
    by_cases hlt : k < n
    · have hkm : k / 8 < m := by have := Hm.out; omega
      have hlk : (bs.take k).length = k := by have := Hn.out; simp; omega
      have hgk : wr.cell? ⟨g, k / 8, none⟩ = some (.int .u8 (packByte (bs.take k) (k / 8) : Nat)) := by
        rw [ho.cellAt (k / 8) (by omega), u8s_get, if_pos (by rw [padTo_length]; exact hkm)]
        simp [padTo, List.getD_eq_getElem?_getD, hkm]
      have hgf := ho.frozenAt (k / 8)
      have hB := H.out.keep (D := fun k => bs ≠ [] ∧ (Value.slice a n cap).ownBlock = some k) (hu.keepD (fun k hk => ⟨Hlt.out k hk, noB k⟩)) (fun hz k hk => ⟨hz, hk⟩)
      obtain ⟨h255, a', cap', he, _, hz⟩ := hB
      obtain ⟨x, hx⟩ : ∃ x, bs[k]? = some x := ⟨_, List.getElem?_eq_getElem (by rw [← Hn.out]; exact hlt)⟩
      have hx1 : x ≤ 1 := H01.out x (List.mem_of_getElem? hx)
      have htk : bs.take (k + 1) = bs.take k ++ [x] := by rw [List.take_add_one, hx]; rfl
      have hst := ho.stored (k / 8) (.int .u8 ((packByte (bs.take k) (k / 8) ||| (x * 2 ^ (7 - k % 8)) : Nat)))
      have hps := padTo_step (bs.take k) x m (by rw [hlk]; exact hkm) hx1
      rw [hlk] at hps
      rw [hps, ← htk] at hst
      have hob := packByte_le (bit01_take H01.out k) (k / 8)
      injection he with he1 he2 he3
      subst he1; subst he3
      rcases hz with hz | ⟨b, off, rfl, hz⟩
      · subst hz; simp at hx
      have hzj := hz k (by rw [← Hn.out]; exact hlt)
      have hgx : bs.getD k 0 = x := by simp [List.getD_eq_getElem?_getD, hx]
      rw [hgx] at hzj
      generalize packByte (bs.take k) (k / 8) = old at *
      have hidx' : (k : Int) / 8 < (m : Int) := by omega
      have hidx0 : 0 ≤ (k : Int) / 8 := by omega
      have q0 : ((k : Int) / 8).toNat = k / 8 := by omega
      have Hst := Lib.hid hst; clear hst
      have Ho := Lib.hid ho; clear ho
      have Hx := Lib.hid hx; clear hx
      have hltk : (k : Int) < (n : Int) := by omega
      clear hz h255 hps htk hgx he2 hlk hlt
      have q1 : (7 - (k : Int) % 8).toNat = 7 - k % 8 := by omega
      have hs0 : 0 ≤ 7 - (k : Int) % 8 := by omega
      have hs1 : 7 - (k : Int) % 8 < 64 := by omega
      have k0 : (k : Int).tmod 8 = (k : Int) % 8 := Int.tmod_eq_emod_of_nonneg (by omega)
      have k1 : IntKind.i64.wrap ((k : Int) / 8) = (k : Int) / 8 := IntWalk.i64_in _ (by omega)
      have k2 : IntKind.i64.wrap (7 - (k : Int) % 8) = 7 - (k : Int) % 8 := IntWalk.i64_in _ (by omega)
      go_wp2
      refine wp_region_still_tail 12 (by kernel_rfl) (by kernel_rfl) ?_
      simp only [List.take_succ_cons, List.take_zero, List.drop_succ_cons, List.drop_zero]
      repeat still_step
      refine wpStill_nil ?_
      change wpList _ _ _ _ _ wr.drew
      go_wp2
      rw [or_val8 hob hx1]
      refine ⟨⟨k + 1, by omega, by go_num, Hst.out.1, (hu.setCell _ (fun h => by exfalso; have h : g < w.heap.size := h; omega)).drew⟩, by simp [intOf]; omega⟩
    · obtain rfl : k = n := by omega
      have e : bs.take k = bs := by rw [Hn.out, List.take_length]
      have em : padTo bs m = pack bs := by rw [Hm.out, Hn.out]; rfl
      rw [e, em] at ho
      have Ho := Lib.hid ho; clear ho
      go_wp2
      go_ret
      refine ⟨_, rfl, ⟨?_, fun j => ?_⟩, hu, fun k2 hk2 => ?_⟩
      · have : (pack bs).length = m := by rw [pack_length, Hm.out, Hn.out]
        rw [this]; exact Ho.out
      · simp only [List.getD_eq_getElem?_getD, pack_get]
        split
        · exact packByte_le (by have := bit01_take H01.out bs.length; rwa [List.take_length] at this) j
        · simp
      · have : g = k2 := by simpa [Value.ownBlock] using hk2
        omega
end Go.Proofs.Ytmdladcfckoglaa

namespace Go.Proofs.Ytmdladcfckoglaa
open Go.RowKit Go.Shelf

theorem WRes.ok {b : Nat} {v : Value} {w : World} {l : List Nat} {bad : Prop} {bs : List Nat} {e : Ending} {w' : World} (h : WRes b v w l bad bs e w') (hb : ¬ bad) (hf : l.length + bs.length ≤ 1048576) : e = .returned (.int .i64 0) ∧ WPost b v w (l ++ bs) w' := by
  obtain ⟨r, rfl, ⟨h1, h2, h3⟩ | ⟨h1, h0, h2, h3⟩ | ⟨h1, h0, rfl, h3⟩⟩ := h
  · exact absurd h1 hb
  · omega
  · exact ⟨rfl, h3⟩
/-- A writer made behind w0: what a call leaves. -/
theorem WPost.step {w0 w w' : World} {b : Nat} {v : Value} {l : List Nat} (U : Upd NoB w0 w) (hb : w0.heap.size ≤ b) (hv : newB w0 v) (p : WPost b v w l w') : ∃ v', WAt w' b l v' ∧ Upd NoB w0 w' ∧ newB w0 v' := by
  obtain ⟨v', h1, h2, h3⟩ := p
  refine ⟨v', h1, U.trans h2 ?_, fun k hk => ?_⟩
  · rintro k hk (rfl | h)
    · omega
    · have := hv k h; omega
  · rcases h3 k hk with h | h
    · exact hv k h
    · have := U.size; omega
theorem RRes.step {w0 w w' : World} {b : Nat} {sv : Value} {zs : List Nat} {cnt : Nat} {r : Int × Int × Nat} {e : Ending} (U : Upd NoB w0 w) (hb : w0.heap.size ≤ b) (p : RRes b sv zs cnt w r e w') :
    e = .returned (.tuple #[.int .i64 r.1, .int .i64 r.2.1]) ∧ RAt w' b sv zs cnt r.2.2 ∧ Upd NoB w0 w' := by
  obtain ⟨h1, h2, h3⟩ := p
  refine ⟨h1, h2, U.trans h3 ?_⟩
  intro k hk h
  have h : k = b := h
  omega
theorem newB_nil (w : World) : newB w (.slice none 0 0) := fun k hk => by simp [Value.ownBlock] at hk
/-- A literal of bytes, made just now. -/
theorem lit8 (w : World) (zs : List Nat) (h : ∀ j, zs.getD j 0 ≤ 255) (hl : zs.length ≤ 1099511627776) : Row8 (w.alloc (.cells (u8s zs).toArray 5)) (.slice (some ⟨w.heap.size, 0, none⟩) zs.length zs.length) zs :=
  ⟨by simpa using World.ownsRow_lit (base := 0) (size := 1) (e := 5) w (u8s zs).toArray zs.length (Nat.zero_le _) (by unfold maxLen; omega) (by simp [u8s_length]), h⟩
theorem all255 {l : List Nat} (h : ∀ x ∈ l, x ≤ 255) (j : Nat) : l.getD j 0 ≤ 255 := by
  simp only [List.getD_eq_getElem?_getD]
  cases hj : l[j]? with
  | none => simp
  | some y => have := h y (List.mem_of_getElem? hj); simpa using this
theorem bytes_later {w w' : World} {sv : Value} {zs : List Nat} (h : Bytes w sv zs) (u : Upd NoB w w') : Bytes w' sv zs :=
  h.keep (D := fun k => zs ≠ [] ∧ sv.ownBlock = some k) (u.keepD (fun k hk => ⟨by obtain ⟨c, t, fr, hc⟩ := h.lt hk.1 k hk.2; exact lt_of_block hc, noB k⟩)) (fun hz k hk => ⟨hz, hk⟩)
theorem bytes_nil (w : World) : Bytes w (.slice none 0 0) [] := ⟨fun j => by simp, none, 0, rfl, Nat.le_refl _, .inl rfl⟩
theorem upd_drewN {S : Nat → Prop} {a w : World} (h : Upd S a w) (n : Nat) : Upd S a (w.drewN n) := ⟨h.os, h.tape, h.output, h.size, h.block⟩

end Go.Proofs.Ytmdladcfckoglaa

namespace Go.Proofs.Ytmdladcfckoglaa
open Go.RowKit Go.Shelf

theorem bytes_upd {S : Nat → Prop} {w w' : World} {sv : Value} {zs : List Nat} (h : Bytes w sv zs) (u : Upd S w w') (hs : zs ≠ [] → ∀ k, sv.ownBlock = some k → ¬ S k) : Bytes w' sv zs :=
  h.keep (D := fun k => zs ≠ [] ∧ sv.ownBlock = some k) (u.keepD (fun k hk => ⟨by obtain ⟨c, t, fr, hc⟩ := h.lt hk.1 k hk.2; exact lt_of_block hc, hs hk.1 k hk.2⟩)) (fun hz k hk => ⟨hz, hk⟩)
theorem WPost.pre {w w1 w' : World} {b : Nat} {v0 : Value} {l : List Nat} (u : Upd NoB w w1) (h : WPost b v0 w1 l w') : WPost b v0 w l w' :=
  h.next (u.mono (fun _ _ h => h.elim)) (newOr.refl _ _)
theorem WRes.pre {w w1 w' : World} {b : Nat} {v0 : Value} {l : List Nat} {bad : Prop} {bs : List Nat} {e : Ending} (u : Upd NoB w w1) (h : WRes b v0 w1 l bad bs e w') : WRes b v0 w l bad bs e w' := by
  obtain ⟨r, rfl, ⟨h1, h2, h3⟩ | ⟨h1, h0, h2, h3⟩ | ⟨h1, h0, h2, h3⟩⟩ := h
  · exact ⟨r, rfl, .inl ⟨h1, h2, u.trans h3 (fun k _ h => h)⟩⟩
  · exact ⟨r, rfl, .inr (.inl ⟨h1, h0, h2, u.trans h3 (fun k _ h => h)⟩)⟩
  · exact ⟨r, rfl, .inr (.inr ⟨h1, h0, h2, h3.pre u⟩)⟩
end Go.Proofs.Ytmdladcfckoglaa
