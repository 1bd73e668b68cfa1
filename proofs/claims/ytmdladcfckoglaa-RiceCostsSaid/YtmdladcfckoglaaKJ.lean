/- rice: costsOf -/
import Derived.Test.YtmdladcfckoglaaKH
import Derived.Deep.RegionLaw
import Derived.Laws.Tables
namespace Go.Proofs.Ytmdladcfckoglaa
open Go.RowKit Go.Shelf

/-- the array of costs, each one of a list -/
def arrC (f : Nat → Nat) : List Value := (List.range 15).map fun k => Value.int .i64 (f k : Nat)
theorem arrC_get (f : Nat → Nat) (k : Nat) (h : k < 15) : (arrC f)[k]? = some (.int .i64 (f k : Nat)) := by simp [arrC, h]
theorem arrC_len (f : Nat → Nat) : (arrC f).length = 15 := by simp [arrC]
/-- the costs, the first k of them with one word more -/
def upto (f g : Nat → Nat) (k : Nat) : Nat → Nat := fun j => if j < k then g j else f j
theorem arrC_zero (f g : Nat → Nat) : arrC (upto f g 0) = arrC f := by simp [arrC, upto]
theorem arrC_all (f g : Nat → Nat) : arrC (upto f g 15) = arrC g := by
  refine List.ext_getElem (by simp [arrC]) fun i h1 h2 => ?_
  have : i < 15 := by simpa [arrC] using h1
  simp [arrC, upto, this]
theorem arrC_set (f g : Nat → Nat) (k : Nat) (_h : k < 15) : (arrC (upto f g k)).set k (.int .i64 (g k : Nat)) = arrC (upto f g (k + 1)) := by
  refine List.ext_getElem (by simp [arrC]) fun i h1 h2 => ?_
  rw [List.getElem_set]
  simp only [arrC, List.getElem_map, List.getElem_range, upto]
  by_cases e : k = i
  · subst e; simp
  · rw [if_neg e]
    by_cases h3 : i < k
    · rw [if_pos h3, if_pos (by omega)]
    · rw [if_neg h3, if_neg (by omega)]
/-- a block that holds the costs -/
def CAt (w : World) (b : Nat) (f : Nat → Nat) : Prop := w.heap[b]? = some (.cells (arrC f).toArray 70 (0, 0))
theorem CAt.cell {w : World} {b : Nat} {f : Nat → Nat} (h : CAt w b f) {k : Nat} (hk : k < 15) : w.cell? ⟨b, k, none⟩ = some (.int .i64 (f k : Nat)) := by
  rw [blk_cell h k, List.getElem?_toArray, arrC_get f k hk]
theorem CAt.free {w : World} {b : Nat} {f : Nat → Nat} (h : CAt w b f) (k : Nat) : w.frozen? ⟨b, k, none⟩ = false := blk_free h k
theorem CAt.set {w : World} {b : Nat} {f g : Nat → Nat} {k : Nat} (h : CAt w b (upto f g k)) (hk : k < 15) : CAt (w.setCell ⟨b, k, none⟩ (.int .i64 (g k : Nat))) b (upto f g (k + 1)) := by
  have := block_set (i := k) h (.int .i64 (g k : Nat))
  unfold CAt
  rw [this]
  congr 2
  rw [List.setIfInBounds_toArray, arrC_set f g k hk]
theorem Upd.setRow {S : Nat → Prop} {a w : World} (h : Upd S a w) {g : Nat} (cs : Array Value) (hp : g < a.heap.size → S g) : Upd S a (w.setRow g cs) :=
  h.trans (T := fun k => k = g) ⟨rfl, rfl, rfl, by simp, fun k _ hn => setRow_other _ _ _ _ hn⟩ (fun i hi e => by subst e; exact hp hi)
theorem wbitsU_any (a b c : Nat) (w : World) (ha : a ≤ 24) (hc : c ≤ 32) : Calls Try.prog 70 #[.agg #[.int .i64 (a : Int), .int .i64 (b : Int), .int .i64 (c : Int)]] w fun e w' => e = .returned (.int .i64 ((a + 1 + c : Nat) : Int)) ∧ Upd NoB w w' :=
  (wbits_any a b c w ha hc).mono fun _ _ h => ⟨h.1, by rw [h.2]; exact (Upd.refl _ _).alloc _⟩
set_option maxRecDepth 100000 in
set_option maxHeartbeats 2000000 in
theorem costsOf_any (xv : Value) (xs : List Int) (w : World) (h : Ints w xv xs) (hn : NumL xs) : Calls Try.prog 55 #[xv] w fun e w' => e = .returned (.agg (arrC (lc xs)).toArray) ∧ Upd NoB w w' := by
  obtain ⟨xa, xc, rfl⟩ := h.form
  have HN := Lib.hid hn
  have hl := hn.1
  obtain ⟨W, hW⟩ : ∃ W, W = (w.alloc (.cells (arrC (lc [])).toArray 70)).alloc (.cells (arrC (lc [])).toArray 70) := ⟨_, rfl⟩
  have c0 : W.heap[w.heap.size]? = some (.cells (arrC (lc [])).toArray 70 (0, 0)) := by rw [hW]; exact (Below.heap_alloc _ _ _ (by rw [size_alloc]; omega)).trans (heap_alloc_new w _)
  have c1 : CAt W (w.heap.size + 1) (lc []) := by
    unfold CAt
    rw [hW]
    have := heap_alloc_new (w.alloc (.cells (arrC (lc [])).toArray 70)) (.cells (arrC (lc [])).toArray 70)
    rw [size_alloc] at this
    exact this
  have u0 : Upd NoB w W := by rw [hW]; exact ((Upd.refl _ _).alloc _).alloc _
  have H := Lib.hid (h.later u0)
  have sz : w.heap.size + 2 ≤ W.heap.size := by rw [hW, size_alloc, size_alloc]; omega
  obtain ⟨L, hL⟩ : ∃ L, xs.length = L := ⟨_, rfl⟩
  have HL := Lib.hid hL
  rw [hL] at H hl ⊢
  have ea : (arrC (lc [])).toArray = #[.int .i64 0, .int .i64 0, .int .i64 0, .int .i64 0, .int .i64 0, .int .i64 0, .int .i64 0, .int .i64 0, .int .i64 0, .int .i64 0, .int .i64 0, .int .i64 0, .int .i64 0, .int .i64 0, .int .i64 0] := rfl
  rw [ea] at hW c0
  have HW := Lib.hid hW; have C0 := Lib.hid c0; have C1 := Lib.hid c1; have U0 := Lib.hid u0
  have HX : Hid (xs ≠ [] → ∀ k, xa.map Addr.block = some k → k < w.heap.size) := Lib.hid (fun hx k hk => by
    refine h.lt hx k ?_
    cases xa with
    | none => simp at hk
    | some a => simpa [Value.ownBlock] using hk)
  clear h hn hL hW c0 c1 u0 ea
  go_enter Try.func55, Try.ntmps55
  go_wp2_with fail
  rw [← HW.out]
  go_loopw [10] (fun i wr => ∃ j : Nat, j ≤ L ∧ i = .int .i64 j ∧ CAt wr (w.heap.size + 1) (lc (xs.take j)) ∧ Upd (fun k => k = w.heap.size + 1) W wr) (fun i _ => L - (intOf i).toNat)
  case atStart => exact ⟨0, Nat.zero_le _, rfl, C1.out, Upd.refl _ _⟩
  case round =>
    obtain ⟨j, hj, rfl, hc, hu⟩ := hrel
    obtain ⟨wo, rfl⟩ : ∃ wo : World, wo = wr := ⟨_, rfl⟩
    have HC := Lib.hid hc; have HU := Lib.hid hu
    clear hc hu
    by_cases hlt : j < L
    · obtain ⟨x, hx⟩ : ∃ x, xs[j]? = some x := ⟨_, List.getElem?_eq_getElem (by rw [HL.out]; exact hlt)⟩
      obtain ⟨b, off, rfl, hcx⟩ := H.out.cellAt hx
      have hbx : b < w.heap.size := HX.out (by rintro rfl; simp at hx) b rfl
      have hcx' := HU.out.cell hcx (by simp only; omega)
      have Hx := Lib.hid (HN.out.get hx)
      have HS := Lib.hid (show lc (xs.take (j + 1)) = fun k => lc (xs.take j) k + wSz (fo x) k from funext fun k => lc_take hx k)
      have HBd := Lib.hid (fun (k : Nat) (hk : k ≤ 14) => lc_step_le xs k j hk (by omega))
      have Hu := Lib.hid (show fo x ≤ 4294967295 by have := fo_lt Hx.out; omega)
      generalize lc (xs.take j) = f at *
      clear hx hcx
      go_wp2_with (go_at_call 49; refine (fold_any _ _ Hx.out).mono ?_; rintro e w' ⟨rfl, rfl⟩)
      go_loopw [16] (fun i wr => ∃ k : Nat, k ≤ 15 ∧ i = .int .i64 k ∧ CAt wr (w.heap.size + 1) (upto f (fun k => f k + wSz (fo x) k) k) ∧ Upd (fun k => k = w.heap.size + 1) W wr) (fun i _ => 15 - (intOf i).toNat)
      case atStart => exact ⟨0, Nat.zero_le _, rfl, by have := HC.out; unfold CAt at this ⊢; rw [arrC_zero]; exact this, HU.out⟩
      case round =>
        obtain ⟨k, hk, rfl, hc, hu⟩ := hrel
        obtain ⟨wi, rfl⟩ : ∃ wi : World, wi = wr := ⟨_, rfl⟩
        by_cases hlk : k < 15
        · have d0 := hc.cell hlk
          rw [show upto f (fun k => f k + wSz (fo x) k) k k = f k by simp [upto]] at d0
          have hbf := HBd.out k (by omega)
          have h57 := wSz_le (fo x) (show k ≤ 14 by omega)
          have HCi := Lib.hid hc; have HUi := Lib.hid hu
          have KS := Lib.hid (show ∀ Z : World, Upd NoB wi Z → Z.cell? ⟨w.heap.size + 1, k, none⟩ = some (.int .i64 (f k : Nat)) from fun Z u => u.cell d0 (noB _))
          have HW1 := Lib.hid (fun w' => wordOf_any (fo x) k w' Hu.out (by omega))
          have HW2 := Lib.hid (fun w' => wbitsU_any (wUn (fo x) k) (wRe (fo x) k) (wWi (fo x) k) w' (wUn_le _ _) (wWi_le _ (by omega)))
          have hz : wUn (fo x) k + 1 + wWi (fo x) k = wSz (fo x) k := rfl
          rw [hz] at HW2
          clear hc hu hz
          generalize wUn (fo x) k = p at *
          generalize wRe (fo x) k = q at *
          generalize wWi (fo x) k = r at *
          generalize hzz : wSz (fo x) k = z at *
          have HZ := Lib.hid hzz
          generalize hfk : f k = c at *
          have HFK := Lib.hid hfk
          clear hzz hfk
          have hwr : IntKind.i64.wrap ((c : Int) + (z : Int)) = (c : Int) + (z : Int) := IntWalk.i64_in _ (by omega)
          go_wp2_with fail
          go_region_law (first | (go_simp; go_at_call 68; (with_reducible refine (HW1.out wi.drew).mono ?_); rintro e w2 ⟨rfl, u2⟩; have TA := Lib.hid (show Upd NoB wi w2 from (Upd.refl NoB wi).drew.then u2); have da := KS.out _ TA.out; clear u2) | (go_simp; go_at_call 70; (with_reducible refine (HW2.out w2).mono ?_); rintro e w3 ⟨rfl, u3⟩; have TB := Lib.hid (show Upd NoB wi w3 from TA.out.then u3); have fz := blk_free (TB.out.heap HCi.out (noB _)) k; have dz := KS.out _ TB.out; clear u3))
          all_goals
            have hset := CAt.set (f := f) (g := fun k => f k + wSz (fo x) k) (show CAt w3 (w.heap.size + 1) (upto f (fun k => f k + wSz (fo x) k) k) from TB.out.heap HCi.out (noB _)) hlk
            rw [HFK.out, HZ.out, show ((c + z : Nat) : Int) = (c : Int) + z by simp] at hset
            have HSet := Lib.hid hset; clear hset
            go_wp2_with fail
            go_roundw
            case rel => exact ⟨k + 1, by omega, by go_num, HSet.out, (HUi.out.then TB.out).setCell _ (fun _ => rfl)⟩
            case measure => simp [intOf]; omega
        · obtain rfl : k = 15 := by omega
          have hca : CAt wi (w.heap.size + 1) (lc (xs.take (j + 1))) := by rw [HS.out]; unfold CAt at hc ⊢; rw [arrC_all] at hc; exact hc
          have HCA := Lib.hid hca; have HUi := Lib.hid hu
          clear hca hc hu
          go_wp2_with fail
          go_roundw
          case rel => exact ⟨j + 1, by omega, by go_num, HCA.out, HUi.out⟩
          case measure => simp [intOf]; omega
    · obtain rfl : j = L := by omega
      have hc : wo.heap[w.heap.size + 1]? = some (.cells (arrC (lc xs)).toArray 70 (0, 0)) := by
        have := HC.out
        rw [List.take_of_length_le (by rw [HL.out]; exact Nat.le_refl _)] at this
        exact this
      have h0 := HU.out.heap C0.out (by omega)
      have HCC := Lib.hid hc; have H0 := Lib.hid h0
      have hsz : (arrC (lc xs)).toArray.size = 15 := by simp [arrC_len]
      have HSz := Lib.hid hsz
      have hone : (arrC (lc xs)).toArray.all (·.oneCell') = true := by
        rw [List.all_toArray, List.all_eq_true]
        intro v hv
        simp only [arrC, List.mem_map] at hv
        obtain ⟨q, _, rfl⟩ := hv
        rfl
      have HOne := Lib.hid hone
      clear hc h0 hsz hone HC
      obtain ⟨A, hA⟩ : ∃ A, (arrC (lc xs)).toArray = A := ⟨_, rfl⟩
      rw [hA] at HCC HSz HOne
      have HA := Lib.hid hA; clear hA
      go_wp2_with (first | (refine wpList_load_row rfl 70 (.tmp 3) rfl (w.heap.size + 1) rfl 70 A (0, 0) _ HCC.out Try.underlying70 rfl (by rw [HSz.out]; kernel_rfl) ?_) | (refine wpList_store_row rfl 70 (.tmp 2) (.tmp 30) rfl w.heap.size A rfl rfl 70 _ H0.out (by rw [HSz.out]; kernel_rfl) (by rw [HSz.out]; rfl) HOne.out ?_))
      have hsz0 := HU.out.size
      refine bodyPost_ret (results_cell_row rfl _ _ w.heap.size 70 A (0, 0) _ rfl (setRow_heap _ _ _ _ _ _ H0.out) Try.underlying70 rfl (by rw [HSz.out]; kernel_rfl)) rfl ⟨by rw [HA.out], ?_⟩
      refine Upd.mono (S := fun k => w.heap.size ≤ k) (((U0.out.mono (T := fun k => w.heap.size ≤ k) (fun _ _ h => h.elim)).trans HU.out (fun k _ h => by omega)).setRow _ (fun _ => Nat.le_refl _)) (fun k hk h => by omega)
end Go.Proofs.Ytmdladcfckoglaa
