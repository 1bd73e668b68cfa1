/- quant: checkList, check; each over odd; Values, Quantize -/
import Derived.Test.YteioaeceobgbdaaQF
import Derived.Deep.AppendLies
namespace Go.Proofs.Yteioaeceobgbdaa
open Go.RowKit Go.Shelf

def inM (m : Int) (xs : List Int) : Bool := xs.all fun v => decide (-m ≤ v ∧ v ≤ m)
theorem inM_yes {m : Int} {xs : List Int} (h : inM m xs = true) : ∀ x ∈ xs, -m ≤ x ∧ x ≤ m := fun x hx => of_decide_eq_true (List.all_eq_true.1 h x hx)
theorem inM_all {m : Int} {xs : List Int} (h : ∀ x ∈ xs, -m ≤ x ∧ x ≤ m) : inM m xs = true := List.all_eq_true.2 fun x hx => decide_eq_true (h x hx)
theorem inM_no {m : Int} {xs : List Int} {k : Nat} {x : Int} (h : xs[k]? = some x) (hx : x < -m ∨ m < x) : inM m xs = false := by
  cases e : inM m xs with
  | false => rfl
  | true => have := inM_yes e x (List.mem_of_getElem? h); omega
theorem Ints.cellAt {w : World} {a : Option Addr} {n cap : Nat} {xs : List Int} (h : Ints w (.slice a n cap) xs) {k : Nat} {x : Int} (hx : xs[k]? = some x) : ∃ b off, a = some ⟨b, off, none⟩ ∧ w.cell? ⟨b, off + k, none⟩ = some (.int .i64 x) := by
  obtain ⟨_, a', cap', e, _, h3⟩ := h
  injection e with e1 e2 e3
  subst e1
  rcases h3 with h3 | ⟨b, off, rfl, h3⟩
  · subst h3; simp at hx
  · exact ⟨b, off, rfl, h3 k x hx⟩
theorem inM_get {m : Int} {xs : List Int} (h : ∀ (j : Nat) (y : Int), xs[j]? = some y → -m ≤ y ∧ y ≤ m) : inM m xs = true := inM_all fun x hx => by
  obtain ⟨j, hj⟩ := List.getElem?_of_mem hx
  exact h j x hj
theorem wpList_push {w : World} {ops : Array Oper} {rest : List Oper} {o : Oper} {a : Act} {Q : Exit → Act → World → Prop} (hgd : o.guard = none) (s x : Operand)
    (ho : o.op = .call { callee := .builtin .append, args := #[s, x], argTypes := #[28, 28] }) (B : Nat) (v : Value) (n : Nat) (xs : List Int) (y : Int) (hs : a.eval s = v) (hx : a.eval x = .slice (some ⟨w.heap.size, 0, none⟩) 1 1)
    (hown : w.ownsRow B 3 1 v n (i64s xs)) (hn : n ≤ 1000000) (hB : B ≤ w.heap.size)
    (hK : ∀ v' w', w'.ownsRow B 3 1 v' (n + 1) (i64s (xs ++ [y])) → Upd (fun k => B ≤ k) w w' → wpList Try.prog ops Q rest (a.put o.dst v') w') : wpList Try.prog ops Q (o :: rest) a (w.alloc (.cells #[.int .i64 y] 3)) := by
  obtain ⟨i0, hi, hz0, hz1, hz2⟩ := info_parts Try.infoInt
  have u : Upd NoB w (w.alloc (.cells #[.int .i64 y] 3)) := (Upd.refl _ _).alloc _
  refine wpList_append_own (w := w.alloc (.cells #[.int .i64 y] 3)) hgd s x 28 ho B 3 i0 (.int .i64 0) 1 8 Try.underlying28 hi hz0 hz1 hz2 rfl (by decide) v n (i64s xs) hs (u.row hown (fun k _ => noB k)) ⟨w.heap.size, 0, none⟩ 1 1 [.int .i64 y] hx rfl (World.news_of_block (heap_alloc_new w _)) (by intro u hu; rw [List.mem_singleton] at hu; subst hu; rfl) (by unfold maxLen; omega) (by omega) (Nat.le_trans hB u.size) ?_
  intro v' w' hown' hgr _
  refine hK v' w' (by rw [i64s_append]; exact hown') ?_
  exact ((u.mono (T := fun k => B ≤ k) (fun _ _ h => h.elim))).grown hgr (fun k hk _ => (hown.lt k hk).1)
theorem upd_ge {w w' : World} (h : Upd (fun k => w.heap.size ≤ k) w w') : Upd NoB w w' := h.mono (fun k hk h => by omega)
theorem upd_ge' {w w' : World} (h : Upd NoB w w') (B : Nat) : Upd (fun k => B ≤ k) w w' := h.mono (fun _ _ h => h.elim)
set_option maxRecDepth 100000 in
theorem sW1_any (v m : Int) (b : Nat) (w : World) (hm : 0 ≤ m ∧ m ≤ 1152921504606846976) (h0 : w.cell? ⟨b, 0, none⟩ = some (.int .i64 m)) :
    Calls Try.prog 104 #[.int .i64 v, .pointer (some ⟨b, 0, none⟩)] w fun e w' => e = .returned (.bool (decide (v < -m ∨ m < v))) ∧ w = w' := by
  have HI := Lib.hid (isWithin_any v m w hm.1 (by omega))
  have HR := Lib.hid (show decide (v < -m ∨ m < v) = !decide (-m ≤ v ∧ v ≤ m) from by
    by_cases h : -m ≤ v ∧ v ≤ m
    · rw [decide_eq_true h, decide_eq_false (by omega)]; rfl
    · rw [decide_eq_false h, decide_eq_true (by omega)]; rfl)
  rw [HR.out]
  generalize decide (-m ≤ v ∧ v ≤ m) = z at *
  clear hm HR
  go_enter Try.func104, Try.ntmps104
  go_wp2_with fail
  refine HI.out.mono ?_
  rintro e w' ⟨rfl, rfl⟩
  go_wp2_with fail
  go_ret
  exact ⟨rfl, rfl⟩
set_option maxRecDepth 100000 in
set_option maxHeartbeats 2000000 in
theorem sIdx_any (sv : Value) (xs : List Int) (m : Int) (b : Nat) (w : World) (h : Ints w sv xs) (hm : 0 ≤ m ∧ m ≤ 1152921504606846976) (h0 : w.cell? ⟨b, 0, none⟩ = some (.int .i64 m)) :
    Calls Try.prog 125 #[sv, .func (.func 104) #[] #[.pointer (some ⟨b, 0, none⟩)]] w fun e w' => (∃ r : Int, e = .returned (.int .i64 r) ∧ decide (0 ≤ r) = !inM m xs) ∧ w = w' := by
  obtain ⟨a, cap, rfl⟩ := h.form
  have hlb := h.1
  have H := Lib.hid h
  obtain ⟨L, hL⟩ : ∃ L, xs.length = L := ⟨_, rfl⟩
  have HL := Lib.hid hL
  rw [hL] at H hlb ⊢
  have HW := Lib.hid (fun v => sW1_any v m b w hm h0)
  clear h hL h0
  go_enter Try.func125, Try.ntmps125
  go_wp2_with fail
  go_loop [8] (fun i => ∃ k : Nat, k ≤ L ∧ i = .int .i64 k ∧ ∀ (j : Nat) (y : Int), j < k → xs[j]? = some y → -m ≤ y ∧ y ≤ m) (fun i => L - (intOf i).toNat)
  case atStart => exact ⟨0, Nat.zero_le _, rfl, fun j y hj => by omega⟩
  case round =>
    obtain ⟨k, hk, rfl, hin⟩ := hrel
    have HIn := Lib.hid hin; clear hin
    by_cases hlt : k < L
    · obtain ⟨x, hx⟩ : ∃ x, xs[k]? = some x := ⟨_, List.getElem?_eq_getElem (by rw [HL.out]; exact hlt)⟩
      obtain ⟨bb, off, rfl, c0⟩ := H.out.cellAt hx
      by_cases hbad : x < -m ∨ m < x
      · have HD := Lib.hid (show decide (x < -m ∨ m < x) = true from decide_eq_true hbad)
        have HN := Lib.hid (inM_no hx hbad)
        clear hx hbad
        go_wp2_with fail
        refine (HW.out x).mono ?_
        rw [HD.out]
        rintro e w' ⟨rfl, rfl⟩
        go_wp2_with fail
        go_ret
        exact ⟨⟨_, rfl, by rw [HN.out]; exact decide_eq_true (by omega)⟩, rfl⟩
      · have HD := Lib.hid (show decide (x < -m ∨ m < x) = false from decide_eq_false hbad)
        have HM := Lib.hid (show ∀ (j : Nat) (y : Int), j < k + 1 → xs[j]? = some y → -m ≤ y ∧ y ≤ m from fun j y hj hy => by
          by_cases e : j = k
          · subst e; rw [hx] at hy; cases hy; omega
          · exact HIn.out j y (by omega) hy)
        clear hx hbad
        go_wp2_with fail
        refine (HW.out x).mono ?_
        rw [HD.out]
        rintro e w' ⟨rfl, rfl⟩
        go_wp2_with fail
        go_round
        case rel => exact ⟨k + 1, by omega, by go_num, HM.out⟩
        case measure => simp [intOf]; omega
    · obtain rfl : k = L := by omega
      have HN := Lib.hid (inM_get fun j y hy => HIn.out j y (by have := (List.getElem?_eq_some_iff.1 hy).1; rw [HL.out] at this; exact this) hy)
      clear hlt
      go_wp2_with fail
      go_ret
      exact ⟨⟨_, rfl, by rw [HN.out]; rfl⟩, rfl⟩
set_option maxRecDepth 100000 in
theorem sContains_any (sv : Value) (xs : List Int) (m : Int) (b : Nat) (w : World) (h : Ints w sv xs) (hm : 0 ≤ m ∧ m ≤ 1152921504606846976) (h0 : w.cell? ⟨b, 0, none⟩ = some (.int .i64 m)) :
    Calls Try.prog 103 #[sv, .func (.func 104) #[] #[.pointer (some ⟨b, 0, none⟩)]] w fun e w' => e = .returned (.bool (!inM m xs)) ∧ w = w' := by
  have HI := Lib.hid (sIdx_any sv xs m b w h hm h0)
  obtain ⟨a, cap, rfl⟩ := h.form
  obtain ⟨z, hz⟩ : ∃ z, (!inM m xs) = z := ⟨_, rfl⟩
  rw [hz] at HI ⊢
  generalize xs.length = L at *
  clear h h0 hz
  go_enter Try.func103, Try.ntmps103
  go_wp2_with fail
  refine HI.out.mono ?_
  rintro e w' ⟨⟨i, rfl, hi⟩, rfl⟩
  have HIz := Lib.hid hi
  clear hi
  go_wp2_with fail
  go_ret
  exact ⟨by rw [← HIz.out]; rfl, rfl⟩
def ckQ (m : Int) (xs : List Int) : Int := if 128 < xs.length then 2 else if inM m xs = true then 0 else 6
theorem ckQ_ok {m : Int} {xs : List Int} (h : ckQ m xs = 0) : xs.length ≤ 128 ∧ inM m xs = true := by
  unfold ckQ at h
  split at h
  · cases h
  · split at h
    · rename_i h1 h2; exact ⟨by omega, h2⟩
    · cases h
def ckS (m : Int) (xs : List Int) (s : Int) : Int := if 0 ≤ s ∧ s ≤ 95 then ckQ m xs else 1
set_option maxRecDepth 100000 in
theorem checkList_any (sv : Value) (xs : List Int) (m : Int) (w : World) (hm : 0 ≤ m ∧ m ≤ 1152921504606846976) (h : Ints w sv xs) : Calls Try.prog 62 #[sv, .int .i64 m] w fun e w' => e = .returned (.int .i64 (ckQ m xs)) ∧ Upd NoB w w' := by
  obtain ⟨W, hW⟩ : ∃ W, W = w.alloc (.cells #[.int .i64 m] 3) := ⟨_, rfl⟩
  have u0 : Upd NoB w W := by rw [hW]; exact (Upd.refl _ _).alloc _
  have b0 : W.heap[w.heap.size]? = some (.cells #[.int .i64 m] 3 (0, 0)) := by rw [hW]; exact heap_alloc_new w _
  have HC := Lib.hid (sContains_any sv xs m w.heap.size W (h.later u0) hm (blk_cell b0 0))
  have U0 := Lib.hid u0; have HW := Lib.hid hW
  have HF := Lib.hid (show ckQ m xs = if 128 < xs.length then 2 else if inM m xs = true then 0 else 6 from rfl)
  rw [HF.out]
  obtain ⟨a, cap, rfl⟩ := h.form
  generalize inM m xs = z at *
  generalize xs.length = L at *
  clear h HF hm hW b0 u0
  by_cases hL : 128 < L
  · have t1 : decide ((128 : Int) < (L : Int)) = true := decide_eq_true (by omega)
    have t2 : decide (128 < L) = true := decide_eq_true hL
    rw [if_pos hL]
    clear hL HC
    go_enter Try.func62, Try.ntmps62
    go_wp2_with fail
    go_ret
    exact ⟨rfl, by rw [← HW.out]; exact U0.out⟩
  · have t1 : decide ((128 : Int) < (L : Int)) = false := decide_eq_false (by omega)
    have t2 : decide (128 < L) = false := decide_eq_false hL
    rw [if_neg hL]
    clear hL
    cases z
    · go_enter Try.func62, Try.ntmps62
      go_wp2_with fail
      rw [← HW.out]
      refine HC.out.mono ?_
      rintro e w' ⟨rfl, rfl⟩
      go_wp2_with fail
      go_ret
      exact ⟨rfl, U0.out⟩
    · go_enter Try.func62, Try.ntmps62
      go_wp2_with fail
      rw [← HW.out]
      refine HC.out.mono ?_
      rintro e w' ⟨rfl, rfl⟩
      go_wp2_with fail
      go_ret
      exact ⟨rfl, U0.out⟩
set_option maxRecDepth 100000 in
theorem check_any (sv : Value) (xs : List Int) (s m : Int) (w : World) (hm : 0 ≤ m ∧ m ≤ 1152921504606846976) (h : Ints w sv xs) : Calls Try.prog 53 #[sv, .int .i64 s, .int .i64 m] w fun e w' => e = .returned (.int .i64 (ckS m xs s)) ∧ Upd NoB w w' := by
  have HS := Lib.hid (isScale_any s w)
  have HC := Lib.hid (checkList_any sv xs m w hm h)
  have HF := Lib.hid (show ckS m xs s = if 0 ≤ s ∧ s ≤ 95 then ckQ m xs else 1 from rfl)
  rw [HF.out]
  obtain ⟨a, cap, rfl⟩ := h.form
  generalize ckQ m xs = E at *
  generalize xs.length = L at *
  clear h hm HF
  by_cases hs : 0 ≤ s ∧ s ≤ 95
  · rw [decide_eq_true hs] at HS
    rw [if_pos hs]
    clear hs
    go_enter Try.func53, Try.ntmps53
    go_wp2_with fail
    refine HS.out.mono ?_
    rintro e w1 ⟨rfl, hw1⟩
    rw [hw1]
    clear hw1 w1
    go_wp2_with fail
    refine HC.out.mono ?_
    rintro e w2 ⟨rfl, u2⟩
    have U2 := Lib.hid u2
    clear u2
    go_wp2_with fail
    go_ret
    exact ⟨rfl, U2.out⟩
  · rw [decide_eq_false hs] at HS
    rw [if_neg hs]
    clear hs HC
    go_enter Try.func53, Try.ntmps53
    go_wp2_with fail
    refine HS.out.mono ?_
    rintro e w1 ⟨rfl, rfl⟩
    go_wp2_with fail
    go_ret
    exact ⟨rfl, Upd.refl _ _⟩
end Go.Proofs.Yteioaeceobgbdaa
