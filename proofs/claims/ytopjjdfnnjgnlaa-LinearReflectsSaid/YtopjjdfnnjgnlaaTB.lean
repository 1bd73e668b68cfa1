/- linear: what lists are within; slices of their own -/
import Derived.Test.YtopjjdfnnjgnlaaTA
import Derived.Deep.AppendLies
namespace Go.Proofs.Ytopjjdfnnjgnlaa
open Go.RowKit Go.Shelf

def EInts (w : World) (xs : List Int) (E : Int) (e : Ending) (w' : World) : Prop := ∃ a n c, e = .returned (.tuple #[.slice a n c, .int .i64 E]) ∧ w'.ownsRow w.heap.size 3 1 (.slice a n c) xs.length (i64s xs) ∧ Upd NoB w w'
theorem Ints.cellAt {w : World} {a : Option Addr} {n cap : Nat} {xs : List Int} (h : Ints w (.slice a n cap) xs) {k : Nat} {x : Int} (hx : xs[k]? = some x) : ∃ b off, a = some ⟨b, off, none⟩ ∧ w.cell? ⟨b, off + k, none⟩ = some (.int .i64 x) := by
  obtain ⟨_, a', cap', e, _, h3⟩ := h
  injection e with e1 e2 e3
  subst e1
  rcases h3 with h3 | ⟨b, off, rfl, h3⟩
  · subst h3; simp at hx
  · exact ⟨b, off, rfl, h3 k x hx⟩
theorem wpList_push {w : World} {ops : Array Oper} {rest : List Oper} {o : Oper} {a : Act} {Q : Exit → Act → World → Prop} (hgd : o.guard = none) (s x : Operand)
    (ho : o.op = .call { callee := .builtin .append, args := #[s, x], argTypes := #[22, 22] }) (B : Nat) (v : Value) (n : Nat) (xs : List Int) (y : Int) (hs : a.eval s = v) (hx : a.eval x = .slice (some ⟨w.heap.size, 0, none⟩) 1 1)
    (hown : w.ownsRow B 3 1 v n (i64s xs)) (hn : n ≤ 1000000) (hB : B ≤ w.heap.size)
    (hK : ∀ v' w', w'.ownsRow B 3 1 v' (n + 1) (i64s (xs ++ [y])) → Upd (fun k => B ≤ k) w w' → wpList Try.prog ops Q rest (a.put o.dst v') w') : wpList Try.prog ops Q (o :: rest) a (w.alloc (.cells #[.int .i64 y] 3)) := by
  obtain ⟨i0, hi, hz0, hz1, hz2⟩ := info_parts Try.infoInt
  have u : Upd NoB w (w.alloc (.cells #[.int .i64 y] 3)) := (Upd.refl _ _).alloc _
  refine wpList_append_own (w := w.alloc (.cells #[.int .i64 y] 3)) hgd s x 22 ho B 3 i0 (.int .i64 0) 1 8 Try.underlying22 hi hz0 hz1 hz2 rfl (by decide) v n (i64s xs) hs (u.row hown (fun k _ => noB k)) ⟨w.heap.size, 0, none⟩ 1 1 [.int .i64 y] hx rfl (World.news_of_block (heap_alloc_new w _)) (by intro u hu; rw [List.mem_singleton] at hu; subst hu; rfl) (by unfold maxLen; omega) (by omega) (Nat.le_trans hB u.size) ?_
  intro v' w' hown' hgr _
  refine hK v' w' (by rw [i64s_append]; exact hown') ?_
  exact ((u.mono (T := fun k => B ≤ k) (fun _ _ h => h.elim))).grown hgr (fun k hk _ => (hown.lt k hk).1)
theorem upd_ge {w w' : World} (h : Upd (fun k => w.heap.size ≤ k) w w') : Upd NoB w w' := h.mono (fun k hk h => by omega)
theorem upd_ge' {w w' : World} (h : Upd NoB w w') (B : Nat) : Upd (fun k => B ≤ k) w w' := h.mono (fun _ _ h => h.elim)
theorem made_zero (n : Nat) : (madeCells #[Value.int .i64 0] n).toList = i64s (List.replicate n 0) := by
  rw [toList_madeCells_one]; simp [i64s]
theorem map_take {f : Int → Int} {ws : List Int} {t : Nat} {x : Int} (h : ws[t]? = some x) : (ws.take (t + 1)).map f = (ws.take t).map f ++ [f x] := by
  rw [List.take_add_one, h]; simp
/-- A row that the call made: block b, integers xs. -/
def OwnR (w : World) (b cap : Nat) (xs : List Int) : Prop := ∃ c : Array Value, w.heap[b]? = some (.cells c 3 (0, 0)) ∧ (xs.length ≤ c.size ∧ c.size = cap) ∧ ∀ (k : Nat) (x : Int), xs[k]? = some x → c[k]? = some (.int .i64 x)
theorem OwnR.upd {S : Nat → Prop} {w w' : World} {b cap : Nat} {xs : List Int} (h : OwnR w b cap xs) (u : Upd S w w') (hs : ¬ S b) : OwnR w' b cap xs := by
  obtain ⟨c, hc, h⟩ := h
  exact ⟨c, u.heap hc hs, h⟩
theorem OwnR.cell {w : World} {b cap : Nat} {xs : List Int} (h : OwnR w b cap xs) {k : Nat} (hk : k < xs.length) : w.cell? ⟨b, k, none⟩ = some (.int .i64 (xs.getD k 0)) ∧ w.frozen? ⟨b, k, none⟩ = false := by
  obtain ⟨c, hc, hl, h⟩ := h
  refine ⟨?_, blk_free hc k⟩
  rw [blk_cell hc k, List.getD_eq_getElem?_getD, List.getElem?_eq_getElem hk]
  exact h k _ (List.getElem?_eq_getElem hk)
theorem OwnR.set {w : World} {b cap : Nat} {xs : List Int} (h : OwnR w b cap xs) (k : Nat) (hk : k < xs.length) (x : Int) : OwnR (w.setCell ⟨b, k, none⟩ (.int .i64 x)) b cap (xs.set k x) := by
  obtain ⟨c, hc, hl, h⟩ := h
  refine ⟨_, block_set hc _, ⟨by simp; exact hl.1, by simp; exact hl.2⟩, fun j y hj => ?_⟩
  rw [Array.getElem?_setIfInBounds]
  rw [List.getElem?_set] at hj
  by_cases e : k = j
  · subst e
    rw [if_pos rfl, if_pos (by omega)]
    rw [if_pos rfl, if_pos hk] at hj
    rw [← Option.some.inj hj]
  · rw [if_neg e]
    rw [if_neg e] at hj
    exact h j y hj
theorem OwnR.of {w : World} {base b cap : Nat} {xs : List Int} (h : w.ownsRow base 3 1 (.slice (some ⟨b, 0, none⟩) xs.length cap) xs.length (i64s xs)) : OwnR w b cap xs ∧ base ≤ b ∧ cap ≤ maxLen := by
  rcases h.2 with ⟨h', _⟩ | ⟨g', cap', cur, h', hb, hg, hnc, hcm, hcs, htake⟩
  · simp at h'
  · simp only [Value.slice.injEq, Option.some.injEq, Addr.mk.injEq, and_true, true_and] at h'
    obtain ⟨rfl, rfl⟩ := h'
    refine ⟨⟨cur, hg, ⟨by omega, by omega⟩, fun k x hk => ?_⟩, hb, hcm⟩
    have hkl := (List.getElem?_eq_some_iff.1 hk).1
    have e : (i64s xs)[k]? = some (.int .i64 x) := by rw [i64s_get, hk]; rfl
    rw [← htake, List.getElem?_take] at e
    simp at e
    exact e.2
theorem OwnR.row {w : World} {base b cap : Nat} {xs : List Int} (h : OwnR w b cap xs) (hb : base ≤ b) (hc : cap ≤ maxLen) : w.ownsRow base 3 1 (.slice (some ⟨b, 0, none⟩) xs.length cap) xs.length (i64s xs) := by
  obtain ⟨c, hg, ⟨hl, hcs⟩, h⟩ := h
  refine ⟨by simp [i64s_length], .inr ⟨b, cap, c, rfl, hb, hg, by omega, hc, by omega, ?_⟩⟩
  refine List.ext_getElem? fun k => ?_
  rw [List.getElem?_take, i64s_get]
  by_cases hk : k < xs.length
  · have hx : xs[k]? = some xs[k] := List.getElem?_eq_getElem hk
    rw [hx]
    have := h k _ hx
    simp [hk, this]
  · rw [List.getElem?_eq_none (by omega : xs.length ≤ k)]
    simp; omega

theorem inM_get {m : Int} {xs : List Int} (h : ∀ (j : Nat) (y : Int), xs[j]? = some y → -m ≤ y ∧ y ≤ m) : inM m xs = true := inM_all fun x hx => by
  obtain ⟨j, hj⟩ := List.getElem?_of_mem hx
  exact h j x hj
set_option maxRecDepth 100000 in
theorem isWithin_any (v m : Int) (w : World) (hm : 0 ≤ m ∧ m ≤ 1152921504606846976) : Calls Try.prog 84 #[.int .i64 v, .int .i64 m] w fun e w' => e = .returned (.bool (decide (-m ≤ v ∧ v ≤ m))) ∧ w = w' := by
  obtain ⟨d, hd⟩ : ∃ d, -m = d := ⟨_, rfl⟩
  have y1 : IntKind.i64.wrap (-m) = d := by rw [hd]; exact IntWalk.i64_in _ (by omega)
  have y2 : wrap64 (-m) = d := by rw [hd]; exact IntWalk.wrap64_in _ (by omega)
  rw [hd]
  clear hd
  by_cases c0 : d ≤ v
  · have t0 : decide (d ≤ v) = true := decide_eq_true c0
    have hr := Lib.hid (show decide (d ≤ v ∧ v ≤ m) = decide (v ≤ m) from decide_eq_decide.2 ⟨fun h => h.2, fun h => ⟨c0, h⟩⟩)
    rw [hr.out]
    clear c0 hm
    go_enter Try.func84, Try.ntmps84
    go_wp2
    go_ret
    exact ⟨rfl, rfl⟩
  · have t0 : decide (d ≤ v) = false := decide_eq_false c0
    have hr := Lib.hid (show decide (d ≤ v ∧ v ≤ m) = false from decide_eq_false fun h => c0 h.1)
    rw [hr.out]
    clear c0 hm
    go_enter Try.func84, Try.ntmps84
    go_wp2
    go_ret
    exact ⟨rfl, rfl⟩
set_option maxRecDepth 100000 in
theorem arew1_any (v m : Int) (b : Nat) (w : World) (hm : 0 ≤ m ∧ m ≤ 1152921504606846976) (h0 : w.cell? ⟨b, 0, none⟩ = some (.int .i64 m)) :
    Calls Try.prog 100 #[.int .i64 v, .pointer (some ⟨b, 0, none⟩)] w fun e w' => e = .returned (.bool (decide (v < -m ∨ m < v))) ∧ w = w' := by
  have HW := Lib.hid (isWithin_any v m w hm)
  have HD := Lib.hid (show decide (v < -m ∨ m < v) = !decide (-m ≤ v ∧ v ≤ m) by rw [← decide_not]; exact decide_eq_decide.2 (by omega))
  rw [HD.out]
  generalize decide (-m ≤ v ∧ v ≤ m) = z at *
  clear hm
  go_enter Try.func100, Try.ntmps100
  go_wp2_with fail
  refine HW.out.mono ?_
  rintro e w' ⟨rfl, rfl⟩
  go_wp2_with fail
  go_ret
  exact ⟨rfl, rfl⟩
set_option maxRecDepth 100000 in
set_option maxHeartbeats 2000000 in
theorem idxIn_any (sv : Value) (xs : List Int) (m : Int) (b : Nat) (w : World) (h : Ints w sv xs) (hm : 0 ≤ m ∧ m ≤ 1152921504606846976) (h0 : w.cell? ⟨b, 0, none⟩ = some (.int .i64 m)) :
    Calls Try.prog 114 #[sv, .func (.func 100) #[] #[.pointer (some ⟨b, 0, none⟩)]] w fun e w' => (∃ r : Int, e = .returned (.int .i64 r) ∧ decide (0 ≤ r) = !inM m xs) ∧ w = w' := by
  obtain ⟨a, cap, rfl⟩ := h.form
  have hlb := h.1
  have H := Lib.hid h
  obtain ⟨L, hL⟩ : ∃ L, xs.length = L := ⟨_, rfl⟩
  have HL := Lib.hid hL
  rw [hL] at H hlb ⊢
  have HW := Lib.hid (fun v => arew1_any v m b w hm h0)
  clear h hL h0
  go_enter Try.func114, Try.ntmps114
  go_wp2_with fail
  go_loop [8] (fun i => ∃ k : Nat, k ≤ L ∧ i = .int .i64 k ∧ ∀ (j : Nat) (y : Int), j < k → xs[j]? = some y → -m ≤ y ∧ y ≤ m) (fun i => L - (intOf i).toNat)
  case atStart => exact ⟨0, Nat.zero_le _, rfl, fun j y hj => by omega⟩
  case round =>
    obtain ⟨k, hk, rfl, hin⟩ := hrel
    have HIn := Lib.hid hin; clear hin
    by_cases hlt : k < L
    · obtain ⟨x, hx⟩ : ∃ x, xs[k]? = some x := ⟨_, List.getElem?_eq_getElem (by rw [HL.out]; exact hlt)⟩
      obtain ⟨bb, off, rfl, c0⟩ := H.out.cellAt hx
      by_cases hbad : x < -m ∨ m < x
      · have HD := Lib.hid (show decide (x < -m ∨ m < x) = true from decide_eq_true hbad)
        have HN := Lib.hid (inM_no hx hbad)
        clear hx hbad
        go_wp2_with fail
        refine (HW.out x).mono ?_
        rw [HD.out]
        rintro e w' ⟨rfl, rfl⟩
        go_wp2_with fail
        go_ret
        exact ⟨⟨_, rfl, by rw [HN.out]; exact decide_eq_true (by omega)⟩, rfl⟩
      · have HD := Lib.hid (show decide (x < -m ∨ m < x) = false from decide_eq_false hbad)
        have HM := Lib.hid (show ∀ (j : Nat) (y : Int), j < k + 1 → xs[j]? = some y → -m ≤ y ∧ y ≤ m from fun j y hj hy => by
          by_cases e : j = k
          · subst e; rw [hx] at hy; cases hy; omega
          · exact HIn.out j y (by omega) hy)
        clear hx hbad
        go_wp2_with fail
        refine (HW.out x).mono ?_
        rw [HD.out]
        rintro e w' ⟨rfl, rfl⟩
        go_wp2_with fail
        go_round
        case rel => exact ⟨k + 1, by omega, by go_num, HM.out⟩
        case measure => simp [intOf]; omega
    · obtain rfl : k = L := by omega
      have HN := Lib.hid (inM_get fun j y hy => HIn.out j y (by have := (List.getElem?_eq_some_iff.1 hy).1; rw [HL.out] at this; exact this) hy)
      clear hlt
      go_wp2_with fail
      go_ret
      exact ⟨⟨_, rfl, by rw [HN.out]; rfl⟩, rfl⟩
set_option maxRecDepth 100000 in
theorem containsIn_any (sv : Value) (xs : List Int) (m : Int) (b : Nat) (w : World) (h : Ints w sv xs) (hm : 0 ≤ m ∧ m ≤ 1152921504606846976) (h0 : w.cell? ⟨b, 0, none⟩ = some (.int .i64 m)) :
    Calls Try.prog 99 #[sv, .func (.func 100) #[] #[.pointer (some ⟨b, 0, none⟩)]] w fun e w' => e = .returned (.bool (!inM m xs)) ∧ w = w' := by
  have HI := Lib.hid (idxIn_any sv xs m b w h hm h0)
  obtain ⟨a, cap, rfl⟩ := h.form
  obtain ⟨z, hz⟩ : ∃ z, (!inM m xs) = z := ⟨_, rfl⟩
  rw [hz] at HI ⊢
  generalize xs.length = L at *
  clear h h0 hz
  go_enter Try.func99, Try.ntmps99
  go_wp2_with fail
  refine HI.out.mono ?_
  rintro e w' ⟨⟨i, rfl, hi⟩, rfl⟩
  have HIz := Lib.hid hi
  clear hi
  go_wp2_with fail
  go_ret
  exact ⟨by rw [← HIz.out]; rfl, rfl⟩
set_option maxRecDepth 100000 in
theorem areWithin_any (sv : Value) (xs : List Int) (m : Int) (w : World) (hm : 0 ≤ m ∧ m ≤ 1152921504606846976) (h : Ints w sv xs) :
    Calls Try.prog 71 #[sv, .int .i64 m] w fun e w' => e = .returned (.bool (inM m xs)) ∧ Upd NoB w w' := by
  obtain ⟨W, hW⟩ : ∃ W, W = w.alloc (.cells #[.int .i64 m] 3) := ⟨_, rfl⟩
  have u0 : Upd NoB w W := by rw [hW]; exact (Upd.refl _ _).alloc _
  have b0 : W.heap[w.heap.size]? = some (.cells #[.int .i64 m] 3 (0, 0)) := by rw [hW]; exact heap_alloc_new w _
  have HC := Lib.hid (containsIn_any sv xs m w.heap.size W (h.later u0) hm (blk_cell b0 0))
  have U0 := Lib.hid u0; have HW := Lib.hid hW
  obtain ⟨a, cap, rfl⟩ := h.form
  obtain ⟨z, hz⟩ : ∃ z, inM m xs = z := ⟨_, rfl⟩
  rw [hz] at HC ⊢
  generalize xs.length = L at *
  clear h hW u0 b0 hz hm
  go_enter Try.func71, Try.ntmps71
  go_wp2_with fail
  rw [← HW.out]
  refine HC.out.mono ?_
  rintro e w' ⟨rfl, rfl⟩
  go_wp2_with fail
  go_ret
  exact ⟨by cases z <;> rfl, U0.out⟩
set_option maxRecDepth 100000 in
theorem checkList_any (sv : Value) (xs : List Int) (m : Int) (w : World) (hm : 0 ≤ m ∧ m ≤ 1152921504606846976) (h : Ints w sv xs) :
    Calls Try.prog 66 #[sv, .int .i64 m] w fun e w' => e = .returned (.int .i64 (ckE m xs)) ∧ Upd NoB w w' := by
  have HC := Lib.hid (areWithin_any sv xs m w hm h)
  have HE := Lib.hid (show ckE m xs = if 8192 < xs.length then 2 else if inM m xs then 0 else 6 from rfl)
  obtain ⟨a, cap, rfl⟩ := h.form
  have hl := h.1
  generalize ckE m xs = E at *
  generalize inM m xs = z at *
  generalize xs.length = L at *
  clear h hm
  by_cases h1 : 8192 < L
  · have t1 : decide ((8192 : Int) < (L : Int)) = true := decide_eq_true (by omega)
    have t1n : decide (8192 < L) = true := decide_eq_true h1
    rw [if_pos h1] at HE
    rw [HE.out]
    clear h1
    go_enter Try.func66, Try.ntmps66
    go_wp2_with fail
    go_ret
    exact ⟨rfl, Upd.refl _ _⟩
  · have t1 : decide ((8192 : Int) < (L : Int)) = false := decide_eq_false (by omega)
    have t1n : decide (8192 < L) = false := decide_eq_false h1
    rw [if_neg h1] at HE
    rw [HE.out]
    clear h1
    cases z with
    | true =>
      go_enter Try.func66, Try.ntmps66
      go_wp2_with fail
      refine HC.out.mono ?_
      rintro e w' ⟨rfl, u1⟩
      have U1 := Lib.hid u1
      clear u1
      go_wp2_with fail
      go_ret
      exact ⟨rfl, U1.out⟩
    | false =>
      go_enter Try.func66, Try.ntmps66
      go_wp2_with fail
      refine HC.out.mono ?_
      rintro e w' ⟨rfl, u1⟩
      have U1 := Lib.hid u1
      clear u1
      go_wp2_with fail
      go_ret
      exact ⟨rfl, U1.out⟩
set_option maxRecDepth 100000 in
theorem isFilter_any (sv : Value) (xs : List Int) (w : World) (h : Ints w sv xs) : Calls Try.prog 77 #[sv] w fun e w' => e = .returned (.bool (isF xs)) ∧ Upd NoB w w' := by
  have HC := Lib.hid (areWithin_any sv xs 127 w (by decide) h)
  have HE := Lib.hid (show isF xs = (decide (xs.length ≤ 12) && inM 127 xs) from rfl)
  obtain ⟨a, cap, rfl⟩ := h.form
  have hl := h.1
  generalize isF xs = E at *
  generalize inM 127 xs = z at *
  generalize xs.length = L at *
  clear h
  by_cases h1 : L ≤ 12
  · have t1 : decide ((L : Int) ≤ 12) = true := decide_eq_true (by omega)
    have t1n : decide (L ≤ 12) = true := decide_eq_true h1
    rw [t1n] at HE
    rw [HE.out]
    clear h1
    go_enter Try.func77, Try.ntmps77
    go_wp2_with fail
    refine HC.out.mono ?_
    rintro e w' ⟨rfl, u1⟩
    have U1 := Lib.hid u1
    clear u1
    go_wp2_with fail
    go_ret
    exact ⟨by rw [Bool.true_and]; rfl, U1.out⟩
  · have t1 : decide ((L : Int) ≤ 12) = false := decide_eq_false (by omega)
    have t1n : decide (L ≤ 12) = false := decide_eq_false h1
    rw [t1n] at HE
    rw [HE.out]
    clear h1
    go_enter Try.func77, Try.ntmps77
    go_wp2_with fail
    go_ret
    exact ⟨rfl, Upd.refl _ _⟩
end Go.Proofs.Ytopjjdfnnjgnlaa
