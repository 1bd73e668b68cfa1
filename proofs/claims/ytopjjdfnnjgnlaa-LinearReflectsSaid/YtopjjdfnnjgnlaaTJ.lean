/- linear: Weights -/
import Derived.Test.YtopjjdfnnjgnlaaTI
namespace Go.Proofs.Ytopjjdfnnjgnlaa
open Go.RowKit Go.Shelf

theorem isF_take {f : List Int} (h : isF f = true) (k : Nat) : isF (f.take k) = true := by
  unfold isF at h ⊢
  rw [Bool.and_eq_true, decide_eq_true_eq] at h ⊢
  exact ⟨by rw [List.length_take]; omega, inM_all fun x hx => inM_yes h.2 x (List.mem_of_mem_take hx)⟩
theorem isF_at {f : List Int} (h : isF f = true) {k : Nat} {x : Int} (hx : f[k]? = some x) : -127 ≤ x ∧ x ≤ 127 := by
  unfold isF at h
  rw [Bool.and_eq_true] at h
  exact inM_yes h.2 x (List.mem_of_getElem? hx)
theorem wtL_succ {f : List Int} {k : Nat} {x : Int} (hx : f[k]? = some x) : wtL (f.take (k + 1)) = wtStep (wtL (f.take k)) x := by
  unfold wtL
  rw [List.take_add_one, hx, List.foldl_append]
  rfl
set_option maxRecDepth 100000 in
set_option maxHeartbeats 4000000 in
theorem weightsOf_any (sv : Value) (f : List Int) (w : World) (h : Ints w sv f) (hf : isF f = true) : Calls Try.prog 78 #[sv] w (IRes w (wtL f)) := by
  obtain ⟨W, hW⟩ : ∃ W, W = w.alloc (.cells #[.slice none 0 0] 22) := ⟨_, rfl⟩
  have b0 : W.heap[w.heap.size]? = some (.cells #[.slice none 0 0] 22 (0, 0)) := by rw [hW]; exact heap_alloc_new w _
  have u0 : Upd NoB w W := by rw [hW]; exact (Upd.refl _ _).alloc _
  have hsz : w.heap.size < W.heap.size := lt_of_block b0
  have HW := Lib.hid hW; have U0 := Lib.hid u0; have B0 := Lib.hid b0; have HF := Lib.hid hf; have H := Lib.hid h
  have hl12 := (wt_bd hf).2.1
  have HLw := Lib.hid (wtL_len f)
  obtain ⟨a, cap, rfl⟩ := h.form
  obtain ⟨L, hL⟩ : ∃ L, f.length = L := ⟨_, rfl⟩
  have HL := Lib.hid hL
  rw [hL] at H hl12 HLw ⊢
  obtain ⟨base, hbase⟩ : ∃ base, W.heap.size = base := ⟨_, rfl⟩
  have HBs := Lib.hid hbase
  rw [hbase] at hsz
  have HTk := Lib.hid (show f.take L = f from List.take_of_length_le (by omega))
  clear h hL hW u0 b0 hf hbase
  go_enter Try.func78, Try.ntmps78
  go_wp2_with fail
  rw [← HW.out]
  go_loopw [10] (fun i wr => ∃ (k : Nat) (v : Value), k ≤ L ∧ i = .int .i64 (k : Int) ∧ wr.heap[w.heap.size]? = some (.cells #[v] 22 (0, 0)) ∧ wr.ownsRow base 3 1 v k (i64s (wtL (f.take k))) ∧ Upd NoB w wr ∧ base ≤ wr.heap.size) (fun i _ => L - (intOf i).toNat)
  case atStart => exact ⟨0, .slice none 0 0, Nat.zero_le _, rfl, B0.out, World.ownsRow_nil _ _ _ _, U0.out, by have := HBs.out; omega⟩
  case round =>
    obtain ⟨k, v, hk, rfl, hb, hr, hu, hbs⟩ := hrel
    have HU := Lib.hid hu
    by_cases hlt : k < L
    · obtain ⟨x, hx⟩ : ∃ x, f[k]? = some x := ⟨_, List.getElem?_eq_getElem (by rw [HL.out]; exact hlt)⟩
      obtain ⟨bb, off, rfl, c0⟩ := (H.out.later hu).cellAt hx
      have hwb := wt_bd (isF_take HF.out k)
      have hlk : (wtL (f.take k)).length = k := by rw [wtL_len, List.length_take, HL.out]; omega
      have HSt := Lib.hid (by
        have := step_any w.heap.size base v x (wtL (f.take k)) wr hb (by rw [hlk]; exact hr) hsz hbs (by omega) (isF_at HF.out hx) hwb.2.2
        rw [hlk, ← wtL_succ hx] at this
        exact this)
      clear hx hb hr hu hwb hlk
      go_wp2_with fail
      refine HSt.out.mono ?_
      rintro e w3 ⟨rfl, v3, b3, r3, u3⟩
      have B3 := Lib.hid b3; have R3 := Lib.hid r3
      have U3 := Lib.hid (show Upd NoB w w3 from HU.out.trans u3 (fun j hj e => by rcases e with e | e <;> (exfalso; omega)))
      have hs3 := u3.size
      clear b3 r3 u3
      go_wp2_with fail
      go_roundw
      case rel => exact ⟨k + 1, v3, by omega, by go_num, B3.out, R3.out, U3.out, by omega⟩
      case measure => simp [intOf]; omega
    · obtain rfl : k = L := by omega
      have c0 := blk_cell hb 0
      rw [HTk.out] at hr
      have HR := Lib.hid hr
      clear hb hr hu hlt
      go_wp2_with fail
      go_ret
      exact ⟨_, rfl, by rw [HLw.out]; exact row_base HR.out (by omega), HU.out⟩
def weE (f : List Int) : Int := if isF f then 0 else 1
def weS (f : List Int) : List Int := if isF f then wtL f else []
set_option maxRecDepth 100000 in
set_option maxHeartbeats 2000000 in
theorem Weights_any (sv : Value) (f : List Int) (w : World) (h : Ints w sv f) : Calls Try.prog 40 #[sv] w (EInts w (weS f) (weE f)) := by
  have HC := Lib.hid (isFilter_any sv f w h)
  have HE := Lib.hid (show weE f = if isF f = true then 0 else 1 from rfl)
  have HS := Lib.hid (show weS f = if isF f = true then wtL f else [] from rfl)
  cases hf : isF f with
  | false =>
    rw [hf] at HE HS HC
    rw [if_neg (by decide)] at HE HS
    rw [HE.out, HS.out]
    obtain ⟨a, cap, rfl⟩ := h.form
    generalize f.length = L at *
    clear h hf
    go_enter Try.func40, Try.ntmps40
    go_wp2_with fail
    refine HC.out.mono ?_
    rintro e w1 ⟨rfl, u1⟩
    have U1 := Lib.hid u1
    clear u1
    go_wp2_with fail
    go_ret2
    exact ⟨none, 0, 0, rfl, World.ownsRow_nil _ _ _ _, U1.out⟩
  | true =>
    have HWt := Lib.hid (fun w' (u : Upd NoB w w') => weightsOf_any sv f w' (h.later u) hf)
    rw [hf] at HE HS HC
    rw [if_pos rfl] at HE HS
    rw [HE.out, HS.out]
    obtain ⟨a, cap, rfl⟩ := h.form
    generalize f.length = L at *
    obtain ⟨N, hN⟩ : ∃ N, (wtL f).length = N := ⟨_, rfl⟩
    have HN := Lib.hid hN
    clear h hf hN
    go_enter Try.func40, Try.ntmps40
    go_wp2_with fail
    refine HC.out.mono ?_
    rintro e w1 ⟨rfl, u1⟩
    have U1 := Lib.hid u1
    clear u1
    go_wp2_with fail
    refine (HWt.out w1 U1.out).mono ?_
    rintro e w2 ⟨v2, rfl, r2, u2⟩
    rw [HN.out] at r2
    obtain ⟨a2, c2, rfl⟩ := row_form r2
    have R2 := Lib.hid (row_base r2 U1.out.size); have U2 := Lib.hid (U1.out.then u2)
    clear r2 u2
    go_wp2_with fail
    go_ret2
    exact ⟨_, _, _, rfl, by rw [HN.out]; exact R2.out, U2.out⟩
end Go.Proofs.Ytopjjdfnnjgnlaa
