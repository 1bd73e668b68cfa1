/- block: what tells of an attack -/
import Derived.Test.YtmkbpocibpjjaaaLF
import Derived.Laws.CopyOwn
import Derived.Laws.Rows
import Derived.StillTailTactics
namespace Go.Proofs.Ytmkbpocibpjjaaa
open Go.RowKit Go.Shelf

/-- the energies ahead of a part: four, or as many as there are -/
def rcn (es : List Int) (j : Nat) : List Int := (es.drop (j - 4)).take (j - (j - 4))
def attB (es : List Int) (j : Nat) : Bool := decide (8 * ((rcn es j).sum / 4) + 65536 < es.getD j 0)
def okE (es : List Int) : Prop := es.length ≤ 512 ∧ ∀ (k : Nat) (x : Int), es[k]? = some x → 0 ≤ x ∧ x ≤ 274877906944
theorem rcn_length {es : List Int} {j : Nat} (h : j ≤ es.length) : (rcn es j).length = j - (j - 4) := by simp [rcn]; omega
theorem rcn_get {es : List Int} {j i : Nat} {x : Int} (h : (rcn es j)[i]? = some x) : es[j - 4 + i]? = some x := by
  unfold rcn at h
  rw [List.getElem?_take] at h
  split at h
  · rwa [List.getElem?_drop] at h
  · cases h
/-- the four numbers -/
theorem rcn_four {es : List Int} (h : okE es) {j : Nat} (hj : j ≤ es.length) : ∃ r0 r1 r2 r3 : Int, rcn es j ++ List.replicate (4 - (rcn es j).length) 0 = [r0, r1, r2, r3] ∧ r0 + r1 + r2 + r3 = (rcn es j).sum ∧
    (0 ≤ r0 ∧ r0 ≤ 274877906944) ∧ (0 ≤ r1 ∧ r1 ≤ 274877906944) ∧ (0 ≤ r2 ∧ r2 ≤ 274877906944) ∧ (0 ≤ r3 ∧ r3 ≤ 274877906944) := by
  have hl := rcn_length hj
  have hb : ∀ x ∈ rcn es j, 0 ≤ x ∧ x ≤ 274877906944 := fun x hx => by
    obtain ⟨i, hi⟩ := List.getElem?_of_mem hx
    exact h.2 _ x (rcn_get hi)
  have hl4 : (rcn es j).length ≤ 4 := by omega
  generalize rcn es j = c at *
  match c, hl4, hb with
  | [], _, _ => exact ⟨0, 0, 0, 0, rfl, rfl, by omega, by omega, by omega, by omega⟩
  | [a], _, hb => exact ⟨a, 0, 0, 0, rfl, by simp, hb a (by simp), by omega, by omega, by omega⟩
  | [a, b], _, hb => exact ⟨a, b, 0, 0, rfl, by simp, hb a (by simp), hb b (by simp), by omega, by omega⟩
  | [a, b, d], _, hb => exact ⟨a, b, d, 0, rfl, by simp; omega, hb a (by simp), hb b (by simp), hb d (by simp), by omega⟩
  | [a, b, d, e], _, hb => exact ⟨a, b, d, e, rfl, by simp; omega, hb a (by simp), hb b (by simp), hb d (by simp), hb e (by simp)⟩
  | a :: b :: d :: e :: f :: g, h, _ => simp at h
theorem attacksIn_any (v : Value) (w : World) (hv : ∃ a n c, v = .slice a n c) : Calls Try.prog 43 #[v] w fun e w' =>
    e = .returned (.func (.func 60) #[] #[.pointer (some ⟨w.heap.size, 0, none⟩)]) ∧ w' = w.alloc (.cells #[v] 22) := by
  obtain ⟨a, n, c, rfl⟩ := hv
  go_enter Try.func43, Try.ntmps43
  go_wp2
  go_ret
  exact ⟨rfl, rfl⟩
theorem run_slice_lh (w : World) (a : Option Addr) (n cap f t : Nat) (hf : f ≤ t) (ht : t ≤ cap) :
    (Instr.slice 22 (.slice a n cap) (some (.int .i64 f)) (some (.int .i64 t)) none).run Try.prog w = .ok (.slice (if cap = f then a else a.map (fun p => p.add (f * 1))) (t - f) (cap - f)) w := by
  have h1 : (0 : Int) ≤ (t : Int) ∧ (t : Int) ≤ (cap : Int) := ⟨by omega, by omega⟩
  have h3 : (0 : Int) ≤ (f : Int) ∧ (f : Int) ≤ (t : Int) := ⟨by omega, by omega⟩
  have hsz : (sizeOf 3).run Try.prog w = .ok 1 w := by kernel_rfl
  have hu : (underlying 22).run Try.prog w = .ok (.slice 3) w := by kernel_rfl
  simp [Instr.slice, Instr.sliceBounds, Instr.sliceBound, asIntOf, Sem.run_bind, Result.andThen, hu, hsz, h1, h3, Int.toNat_natCast, hf, ht]
theorem int_size : (Try.prog.info? 3).map (·.size) = some 1 := by kernel_rfl
/-- The elements of a part of a slice lie where the slice says. -/
theorem Ints.sub {w : World} {a : Option Addr} {n cap : Nat} {es : List Int} (h : Ints w (.slice a n cap) es) {f t : Nat} (hf : f ≤ t) (ht : t ≤ es.length) :
    0 < t - f → ∃ ad, (if cap = f then a else a.map (fun p => p.add (f * 1))) = some ad ∧ ∀ (j : Nat) (x : Int), ((es.drop f).take (t - f))[j]? = some x → w.cell? (ad.add j) = some (.int .i64 x) := fun hp => by
  obtain ⟨_, a', c', e, ⟨hlc, _⟩, h3⟩ := h
  cases e
  rcases h3 with rfl | ⟨b, off, rfl, h3⟩
  · simp at ht; omega
  · rw [if_neg (by omega)]
    refine ⟨⟨b, off + f, none⟩, by rw [Option.map_some, addr_add, Nat.mul_one], fun j x hj => ?_⟩
    rw [List.getElem?_take] at hj
    split at hj
    · rw [List.getElem?_drop] at hj
      rw [addr_add, Nat.add_assoc]
      exact h3 _ x hj
    · cases hj
theorem spliced4 (c : List Int) (hc : c.length ≤ 4) : splice [Value.int .i64 0, .int .i64 0, .int .i64 0, .int .i64 0] 0 (i64s c) = i64s (c ++ List.replicate (4 - c.length) 0) := by
  match c, hc with
  | [], _ => rfl
  | [a], _ => rfl
  | [a, b], _ => rfl
  | [a, b, d], _ => rfl
  | [a, b, d, e], _ => rfl
  | a :: b :: d :: e :: f :: g, h => simp at h
set_option maxRecDepth 100000 in
set_option maxHeartbeats 4000000 in
theorem attack1_any (B : Nat) (v : Value) (es : List Int) (j : Nat) (w : World) (hb : w.cell? ⟨B, 0, none⟩ = some v) (h : Ints w v es) (ho : okE es) (hj : j < es.length) :
    Calls Try.prog 60 #[.int .i64 (j : Int), .pointer (some ⟨B, 0, none⟩)] w fun e w' => e = .returned (.bool (attB es j)) ∧ Upd NoB w w' := by
  obtain ⟨a, cap, rfl⟩ := h.form
  have hcap : es.length ≤ cap := by obtain ⟨_, _, _, e, ⟨hc, _⟩, _⟩ := h; cases e; exact hc
  obtain ⟨r0, r1, r2, r3, hr, hsum, g0, g1, g2, g3⟩ := rcn_four ho (Nat.le_of_lt hj)
  have hl512 := ho.1
  have hrl := rcn_length (Nat.le_of_lt hj)
  obtain ⟨x, hx⟩ : ∃ x, es[j]? = some x := ⟨_, List.getElem?_eq_getElem hj⟩
  have hxb := ho.2 j x hx
  have HA := Lib.hid (show attB es j = decide (8 * ((r0 + r1 + r2 + r3) / 4) + 65536 < x) by unfold attB; rw [hsum, getD_ofI hx])
  have Hsub := Lib.hid (fun (w' : World) (u : Upd NoB w w') => (h.later u).sub (show j - 4 ≤ j by omega) (Nat.le_of_lt hj))
  have HX := Lib.hid (fun (w' : World) (u : Upd NoB w w') => (h.later u).cellAt hx)
  obtain ⟨L, hL⟩ : ∃ L, es.length = L := ⟨_, rfl⟩
  obtain ⟨lo, hlo⟩ : ∃ lo, j - 4 = lo := ⟨_, rfl⟩
  obtain ⟨m, hm⟩ : ∃ m, j - lo = m := ⟨_, rfl⟩
  rw [hL] at hb hcap hj hl512
  rw [hlo] at Hsub hrl
  rw [hm] at Hsub hrl
  have hmax : max ((j : Int) - 4) 0 = (lo : Int) := by omega
  have hwr : IntKind.i64.wrap ((j : Int) - 4) = (j : Int) - 4 := IntWalk.i64_in _ (by omega)
  have hm4 : m ≤ 4 := by omega
  have hrun := fun w => run_slice_lh w a L cap lo j (by omega) (by omega)
  rw [hm] at hrun
  have Hsp := Lib.hid ((spliced4 (rcn es j) (by omega)).trans (by rw [hr]))
  have HRc := Lib.hid (show rcn es j = (es.drop lo).take m by unfold rcn; rw [hlo, hm])
  have HRl := Lib.hid hrl
  rw [HA.out]
  obtain ⟨S, hS⟩ : ∃ S, r0 + r1 + r2 + r3 = S := ⟨_, rfl⟩
  obtain ⟨Q, hQ⟩ : ∃ Q, S / 4 = Q := ⟨_, rfl⟩
  have hSb : 0 ≤ S ∧ S ≤ 1099511627776 := by omega
  have hQb : 0 ≤ Q ∧ Q ≤ 1099511627776 := by omega
  have hqt : S.tdiv 4 = Q := by rw [Int.tdiv_eq_ediv_of_nonneg hSb.1]; exact hQ
  rw [hS, hQ]
  have HS := Lib.hid hS; have HQ := Lib.hid hQ
  clear hS hQ
  obtain ⟨W, hW⟩ : ∃ W, W = w.alloc (.cells #[.int .i64 0, .int .i64 0, .int .i64 0, .int .i64 0] 67) := ⟨_, rfl⟩
  have u0 : Upd NoB w W := by rw [hW]; exact (Upd.refl _ _).alloc _
  have bw : W.heap[w.heap.size]? = some (.cells #[.int .i64 0, .int .i64 0, .int .i64 0, .int .i64 0] 67 (0, 0)) := by rw [hW]; exact heap_alloc_new w _
  have hbW := u0.cell hb (noB _)
  have HW := Lib.hid hW; have HU := Lib.hid u0; have HBw := Lib.hid bw
  obtain ⟨A, hA⟩ : ∃ A, (if cap = lo then a else a.map (fun p => p.add (lo * 1))) = A := ⟨_, rfl⟩
  rw [hA] at hrun Hsub
  have q1 : (j : Int) < (L : Int) := by omega
  have HB0 := Lib.hid hb
  clear h hL hlo hm hr hsum hrl hx hW u0 bw hA hb
  go_enter Try.func60, Try.ntmps60
  go_wp2
  rw [← HW.out]
  refine wp_region_still_tail 7 (by kernel_rfl) (by kernel_rfl) ?_
  simp only [List.take_succ_cons, List.take_zero, List.drop_succ_cons, List.drop_zero]
  repeat still_step
  refine wpStill_nil ?_
  change wpList _ _ _ _ _ W.drew
  refine wpList_copy_splice rfl (.tmp 8) (.tmp 14) 22 22 rfl 3 Try.underlying22 int_size (some ⟨w.heap.size, 0, none⟩) A 4 4 m (cap - lo) rfl rfl w.heap.size 0 [.int .i64 0, .int .i64 0, .int .i64 0, .int .i64 0] 67 HBw.out (i64s (rcn es j)) ?c1 ?c2 ?c3 (i64s_one _) w.heap.size w HU.out.drew.below (Nat.le_refl _) ?_
  case c1 => rw [i64s_length, HRl.out]; exact (Nat.min_eq_left hm4).symm
  case c2 =>
    intro hp
    rw [i64s_length, HRl.out] at hp
    obtain ⟨ad, e, hc⟩ := Hsub.out W.drew HU.out.drew hp
    refine ⟨rfl, ad, e, fun k v hv => ?_⟩
    rw [i64s_get] at hv
    cases hy : (rcn es j)[k]? with
    | none => rw [hy] at hv; cases hv
    | some y =>
      rw [hy] at hv
      cases hv
      rw [HRc.out] at hy
      exact hc k y hy
  case c3 => rw [i64s_length, HRl.out]; simp; omega
  intro w2 hh hbl
  have hh := hh.out
  rw [Hsp.out] at hh
  have hu2 : Upd NoB w w2 := Upd.ofBelow hbl
  have HH := Lib.hid (show w2.heap[w.heap.size]? = some (.cells #[.int .i64 r0, .int .i64 r1, .int .i64 r2, .int .i64 r3] 67 (0, 0)) from hh)
  have HU2 := Lib.hid hu2
  have hb2 := (hu2.cell (show w.cell? ⟨B, 0, none⟩ = some (.slice a L cap) from HB0.out) (noB _))
  obtain ⟨bb, off, ea, hcx⟩ := HX.out w2 hu2
  subst ea
  clear hh hbl hu2 hrun
  have i0 : ∀ w, (Instr.index 67 (.agg #[.int .i64 r0, .int .i64 r1, .int .i64 r2, .int .i64 r3]) (.int .i64 0)).run Try.prog w = .ok (.int .i64 r0) w := fun _ => by kernel_rfl
  have i1 : ∀ w, (Instr.index 67 (.agg #[.int .i64 r0, .int .i64 r1, .int .i64 r2, .int .i64 r3]) (.int .i64 1)).run Try.prog w = .ok (.int .i64 r1) w := fun _ => by kernel_rfl
  have i2 : ∀ w, (Instr.index 67 (.agg #[.int .i64 r0, .int .i64 r1, .int .i64 r2, .int .i64 r3]) (.int .i64 2)).run Try.prog w = .ok (.int .i64 r2) w := fun _ => by kernel_rfl
  have i3 : ∀ w, (Instr.index 67 (.agg #[.int .i64 r0, .int .i64 r1, .int .i64 r2, .int .i64 r3]) (.int .i64 3)).run Try.prog w = .ok (.int .i64 r3) w := fun _ => by kernel_rfl
  go_wp2_with (refine wpList_load_row rfl 67 (.tmp 4) rfl w.heap.size rfl 67 #[.int .i64 r0, .int .i64 r1, .int .i64 r2, .int .i64 r3] (0, 0) _ HH.out Try.underlying67 rfl (by kernel_rfl) ?_)
  go_loop [5, 7, 17] (fun s _ i => (i = .int .i64 0 ∧ s = .int .i64 0) ∨ (i = .int .i64 1 ∧ s = .int .i64 r0) ∨ (i = .int .i64 2 ∧ s = .int .i64 (r0 + r1)) ∨ (i = .int .i64 3 ∧ s = .int .i64 (r0 + r1 + r2)) ∨ (i = .int .i64 4 ∧ s = .int .i64 S)) (fun _ _ i => 4 - (intOf i).toNat)
  case atStart => exact .inl ⟨rfl, rfl⟩
  case round =>
    rcases hrel with ⟨rfl, rfl⟩ | ⟨rfl, rfl⟩ | ⟨rfl, rfl⟩ | ⟨rfl, rfl⟩ | ⟨rfl, rfl⟩
    · go_wp2
      go_round
      case rel => right; left; exact ⟨rfl, by first | rfl | simp⟩
      case measure => simp [intOf]
    · go_wp2
      go_round
      case rel => right; right; left; exact ⟨rfl, rfl⟩
      case measure => simp [intOf]
    · go_wp2
      go_round
      case rel => right; right; right; left; exact ⟨rfl, rfl⟩
      case measure => simp [intOf]
    · go_wp2
      go_round
      case rel => right; right; right; right; exact ⟨rfl, by rw [← HS.out]⟩
      case measure => simp [intOf]
    · have d4 : S / 4 = Q := HQ.out
      go_wp2
      go_ret
      exact ⟨rfl, HU2.out⟩
end Go.Proofs.Ytmkbpocibpjjaaa
