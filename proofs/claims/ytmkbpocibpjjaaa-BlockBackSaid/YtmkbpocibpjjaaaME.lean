/- block: bits.Mul and slices.Repeat at what Layout gives them -/
import Derived.Test.YtmkbpocibpjjaaaLX
import Derived.Deep.AppendLies
import Derived.Deep.RegionLaw
namespace Go.Proofs.Ytmkbpocibpjjaaa
open Go.RowKit Go.Shelf

set_option maxRecDepth 100000 in
set_option maxHeartbeats 4000000 in
theorem mul64_one8 (w : World) : Calls Try.prog 68 #[.int .u64 1, .int .u64 8] w fun e w' => e = .returned (.tuple #[.int .u64 0, .int .u64 8]) ∧ w = w' := by
  have e1 : Go.bits .and .u64 1 4294967295 = 1 := by decide +kernel
  have e2 : Go.bits .and .u64 8 4294967295 = 8 := by decide +kernel
  have e3 : Go.bits .and .u64 0 4294967295 = 0 := by decide +kernel
  go_enter Try.func68, Try.ntmps68
  go_wp2_with fail
  go_ret2
  exact ⟨rfl, rfl⟩
set_option maxRecDepth 100000 in
set_option maxHeartbeats 4000000 in
theorem mul_one8 (w : World) : Calls Try.prog 63 #[.int .u64 1, .int .u64 8] w fun e w' => e = .returned (.tuple #[.int .u64 0, .int .u64 8]) ∧ w = w' := by
  go_enter Try.func63, Try.ntmps63
  go_wp2_with fail
  refine (mul64_one8 w).mono ?_
  rintro e w' ⟨rfl, rfl⟩
  go_wp2_with fail
  go_ret2
  exact ⟨rfl, rfl⟩
def rpL (k : Nat) : List Int := List.replicate k 16 ++ List.replicate (8 - k) 0
theorem rpL_src {w : World} {g n : Nat} {t : TypeId} (h : w.heap[g]? = some (.cells (i64s (rpL n)).toArray t (0, 0))) : ∀ j v, (i64s (List.replicate n 16))[j]? = some v → w.cell? ((⟨g, 0, none⟩ : Addr).add j) = some v := by
  intro j v hv
  have hj := (List.getElem?_eq_some_iff.1 hv).1
  rw [i64s_length, List.length_replicate] at hj
  rw [addr_add, Nat.zero_add, blk_cell h j, List.getElem?_toArray, i64s_get]
  rw [i64s_get] at hv
  unfold rpL
  rw [List.getElem?_append_left (by simpa using hj)]; exact hv
theorem rpL_one : splice (i64s (List.replicate 8 0)) 0 (i64s [16]) = i64s (rpL 1) := rfl
set_option maxRecDepth 100000 in
set_option maxHeartbeats 4000000 in
theorem repeat_any (g : Nat) (w : World) (hg : w.heap[g]? = some (.cells #[.int .i64 16] 3 (0, 0))) : Calls Try.prog 47 #[.slice (some ⟨g, 0, none⟩) 1 1, .int .i64 8] w (IRes w (List.replicate 8 16)) := by
  obtain ⟨i0, hi, hz0, hz1, hz2⟩ := info_parts Try.infoInt
  have HG := Lib.hid hg
  clear hg
  go_enter Try.func47, Try.ntmps47
  go_wp2_with fail
  refine (mul_one8 w).mono ?_
  rintro e w' ⟨rfl, rfl⟩
  go_wp2_with (refine wpList_make_full w rfl _ _ 22 rfl w.heap.size 3 i0 (.int .i64 0) 1 Try.underlying22 hi hz0 hz1 .i64 .i64 _ _ 8 rfl rfl rfl rfl ?c1 ?c2 ?c3 ?_)
  case c1 => rw [hz2]; omega
  case c2 => unfold maxLen; omega
  case c3 => exact Nat.le_refl _
  intro w2 hown hgr
  rw [made_zero] at hown
  have hu2 : Upd NoB w w2 := (Upd.refl _ _).grown hgr (fun k e => by cases e)
  have hf2 := (row_full hown).1
  have HF2 := Lib.hid hf2; have U2 := Lib.hid hu2; have G2 := Lib.hid (hu2.heap HG.out (noB _))
  clear hown hgr hu2 hf2
  go_wp2_with (refine wpList_copy_splice rfl (.tmp 31) (.tmp 32) 22 22 rfl 3 Try.underlying22 int_size (some ⟨w.heap.size, 0, none⟩) (some ⟨g, 0, none⟩) 8 8 1 1 rfl rfl w.heap.size 0 (i64s (List.replicate 8 0)) 3 HF2.out (i64s [16]) ?d1 ?d2 ?d3 (i64s_one _) w.heap.size w U2.out.below (Nat.le_refl _) ?_)
  case d1 => rfl
  case d2 =>
    intro _ j v hv
    have := World.news_of_block G2.out j v hv
    rw [addr_add, Nat.zero_add] at this
    exact this
  case d3 => simp [i64s]
  intro w3 hh hbl
  have HF3 := Lib.hid (show w3.heap[w.heap.size]? = some (.cells (i64s (rpL 1)).toArray 3 (0, 0)) from hh.out); have U3 := Lib.hid (Upd.ofBelow hbl)
  clear hh hbl
  go_wp2_with fail
  go_loopw [8] (fun n wr => ((n = .int .i64 1 ∧ wr.heap[w.heap.size]? = some (.cells (i64s (rpL 1)).toArray 3 (0, 0))) ∨ (n = .int .i64 2 ∧ wr.heap[w.heap.size]? = some (.cells (i64s (rpL 2)).toArray 3 (0, 0))) ∨ (n = .int .i64 4 ∧ wr.heap[w.heap.size]? = some (.cells (i64s (rpL 4)).toArray 3 (0, 0))) ∨ (n = .int .i64 8 ∧ wr.heap[w.heap.size]? = some (.cells (i64s (rpL 8)).toArray 3 (0, 0)))) ∧ Upd NoB w wr) (fun n _ => 8 - (intOf n).toNat)
  case atStart => exact ⟨.inl ⟨rfl, HF3.out⟩, U3.out⟩
  case round =>
    obtain ⟨hor, hu⟩ := hrel
    have HU := Lib.hid hu; clear hu
    rcases hor with ⟨rfl, hm⟩ | ⟨rfl, hm⟩ | ⟨rfl, hm⟩ | ⟨rfl, hm⟩
    · have HM := Lib.hid (show wr.drew.heap[w.heap.size]? = some (.cells (i64s (rpL 1)).toArray 3 (0, 0)) from hm)
      have HSr := Lib.hid (rpL_src HM.out)
      have HUd := Lib.hid (HU.out.drew)
      clear hm
      go_wp2_with fail
      go_region_law (refine step_copy_splice rfl (.tmp 41) (.tmp 44) 22 22 rfl 3 Try.underlying22 int_size (some ⟨w.heap.size, 1, none⟩) (some ⟨w.heap.size, 0, none⟩) 7 7 1 8 (by simp [Act.eval, Act.put]) (by simp [Act.eval, Act.put]) w.heap.size 1 (i64s (rpL 1)) 3 HM.out (i64s (List.replicate 1 16)) rfl (fun _ => ⟨rfl, _, rfl, HSr.out⟩) (by decide) (i64s_one _) w.heap.size w HUd.out.below (Nat.le_refl _) ?_; intro w4 hh hbl; have HF4 := Lib.hid (show w4.heap[w.heap.size]? = some (.cells (i64s (rpL 2)).toArray 3 (0, 0)) from hh.out); have U4 := Lib.hid (Upd.ofBelow hbl); clear hh hbl)
      all_goals
        go_simp
        go_wp2_with fail
        go_roundw
        case rel => exact ⟨.inr (.inl ⟨rfl, HF4.out⟩), U4.out⟩
        case measure => simp only [intOf]; decide
    · have HM := Lib.hid (show wr.drew.heap[w.heap.size]? = some (.cells (i64s (rpL 2)).toArray 3 (0, 0)) from hm)
      have HSr := Lib.hid (rpL_src HM.out)
      have HUd := Lib.hid (HU.out.drew)
      clear hm
      go_wp2_with fail
      go_region_law (refine step_copy_splice rfl (.tmp 41) (.tmp 44) 22 22 rfl 3 Try.underlying22 int_size (some ⟨w.heap.size, 2, none⟩) (some ⟨w.heap.size, 0, none⟩) 6 6 2 8 (by simp [Act.eval, Act.put]) (by simp [Act.eval, Act.put]) w.heap.size 2 (i64s (rpL 2)) 3 HM.out (i64s (List.replicate 2 16)) rfl (fun _ => ⟨rfl, _, rfl, HSr.out⟩) (by decide) (i64s_one _) w.heap.size w HUd.out.below (Nat.le_refl _) ?_; intro w4 hh hbl; have HF4 := Lib.hid (show w4.heap[w.heap.size]? = some (.cells (i64s (rpL 4)).toArray 3 (0, 0)) from hh.out); have U4 := Lib.hid (Upd.ofBelow hbl); clear hh hbl)
      all_goals
        go_simp
        go_wp2_with fail
        go_roundw
        case rel => exact ⟨.inr (.inr (.inl ⟨rfl, HF4.out⟩)), U4.out⟩
        case measure => simp only [intOf]; decide
    · have HM := Lib.hid (show wr.drew.heap[w.heap.size]? = some (.cells (i64s (rpL 4)).toArray 3 (0, 0)) from hm)
      have HSr := Lib.hid (rpL_src HM.out)
      have HUd := Lib.hid (HU.out.drew)
      clear hm
      go_wp2_with fail
      go_region_law (refine step_copy_splice rfl (.tmp 41) (.tmp 44) 22 22 rfl 3 Try.underlying22 int_size (some ⟨w.heap.size, 4, none⟩) (some ⟨w.heap.size, 0, none⟩) 4 4 4 8 (by simp [Act.eval, Act.put]) (by simp [Act.eval, Act.put]) w.heap.size 4 (i64s (rpL 4)) 3 HM.out (i64s (List.replicate 4 16)) rfl (fun _ => ⟨rfl, _, rfl, HSr.out⟩) (by decide) (i64s_one _) w.heap.size w HUd.out.below (Nat.le_refl _) ?_; intro w4 hh hbl; have HF4 := Lib.hid (show w4.heap[w.heap.size]? = some (.cells (i64s (rpL 8)).toArray 3 (0, 0)) from hh.out); have U4 := Lib.hid (Upd.ofBelow hbl); clear hh hbl)
      all_goals
        go_simp
        go_wp2_with fail
        go_roundw
        case rel => exact ⟨.inr (.inr (.inr ⟨rfl, HF4.out⟩)), U4.out⟩
        case measure => simp only [intOf]; decide
    · have HM := Lib.hid hm
      clear hm
      go_wp2_with fail
      go_ret
      exact ⟨_, rfl, row_of_full (xs := i64s (List.replicate 8 16)) rfl (by decide) (Nat.le_refl _) HM.out, HU.out⟩
end Go.Proofs.Ytmkbpocibpjjaaa
