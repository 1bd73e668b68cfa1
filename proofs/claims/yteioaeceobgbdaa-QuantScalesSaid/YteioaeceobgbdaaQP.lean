/- quant: Most -/
import Derived.Test.YteioaeceobgbdaaQO
namespace Go.Proofs.Yteioaeceobgbdaa
open Go.RowKit Go.Shelf
attribute [local go_sem] Oper.semAt_some

theorem load_i (w : World) (g : Nat) (x : Value) (hg : w.cell? ⟨g, 0, none⟩ = some x) : (loadVar 3 ⟨g, 0, none⟩).run Try.prog w = .ok x w := by
  simp [loadVar, Sem.run_bind, Result.andThen, hg, go_sem]
theorem load_e (w : World) (g : Nat) (x : Value) (hg : w.cell? ⟨g, 0, none⟩ = some x) : (loadVar 22 ⟨g, 0, none⟩).run Try.prog w = .ok x w := by
  simp [loadVar, Sem.run_bind, Result.andThen, hg, go_sem]
theorem results_ie {fn : Func} {p q : Tmp} (h : fn.results = #[.cell p 3, .cell q 22]) (tmps : Array Value) (w : World) (g g' : Nat) (x y : Value)
    (hp : tmps.getD p undef = .pointer (some ⟨g, 0, none⟩)) (hq : tmps.getD q undef = .pointer (some ⟨g', 0, none⟩)) (hg : w.cell? ⟨g, 0, none⟩ = some x) (hg' : w.cell? ⟨g', 0, none⟩ = some y) :
    (results fn tmps).run Try.prog w = .ok (.tuple #[x, y]) w := by
  have l1 := load_i w g x hg
  have l2 := load_e w g' y hg'
  have hp' : tmps[p]?.getD undef = .pointer (some ⟨g, 0, none⟩) := by simpa using hp
  have hq' : tmps[q]?.getD undef = .pointer (some ⟨g', 0, none⟩) := by simpa using hq
  simp [results, h, hp', hq', asAddr, Sem.run_bind, Result.andThen, l1, l2]
/-- the greatest number below n that fits -/
def mosN (p : Nat → Bool) : Nat → Option Nat
  | 0 => none
  | n + 1 => if p n then some n else mosN p n
theorem mosN_some {p : Nat → Bool} {s : Nat} (h : p s = true) : ∀ {n : Nat}, s < n → (∀ j, s < j → j < n → p j = false) → mosN p n = some s
  | 0, hs, _ => by omega
  | n + 1, hs, hj => by
    unfold mosN
    by_cases e : s = n
    · subst e; rw [if_pos h]
    · rw [if_neg (by rw [hj n (by omega) (by omega)]; decide)]
      exact mosN_some h (by omega) (fun j h1 h2 => hj j h1 (by omega))
theorem mosN_none {p : Nat → Bool} : ∀ {n : Nat}, (∀ j, j < n → p j = false) → mosN p n = none
  | 0, _ => rfl
  | n + 1, hj => by
    unfold mosN
    rw [if_neg (by rw [hj n (by omega)]; decide)]
    exact mosN_none (fun j h => hj j (by omega))
/-- a scale fits, and keeps the noise within the limit -/
def mosP (cs : List Int) (lim : Int) (s : Nat) : Bool := decide (mxL cs ≤ vlN s 1023) && decide (nsL s cs ≤ lim)
def mstE (xs : List Int) (lim : Int) : Int := if 0 ≤ lim ∧ lim ≤ 72057594037927936 then (if ckQ 2097152 xs = 0 then (if (mosN (mosP (xs.map szI) lim) 96).isSome then 0 else 5) else ckQ 2097152 xs) else 1
def mstV (xs : List Int) (lim : Int) : Int := if mstE xs lim = 0 then (((mosN (mosP (xs.map szI) lim) 96).getD 0 : Nat) : Int) else 0
theorem downs_mem {k j : Nat} (hj : j ≤ 95) (h : 95 < j + k) : j ∈ downs k := by
  unfold downs
  rw [List.mem_map]
  exact ⟨95 - j, List.mem_range.2 (by omega), by omega⟩
/-- none of the scales so far does -/
def Fails (cs : List Int) (lim : Int) (ss : List Nat) : Prop := ∀ s ∈ ss, mosP cs lim s = false
def MInv (cs : List Int) (lim : Int) (W : World) (pre : List La) (W' : World) : Prop := Fails cs lim (pre.map fun x => x.1.1) ∧ Upd NoB W W'
def MOut (S : Nat) (cs : List Int) (lim : Int) (id : Nat) (W : World) (c : Code) (pre : List La) (W' : World) : Prop :=
  ∃ qre x, pre = qre ++ [x] ∧ Fails cs lim (qre.map fun x => x.1.1) ∧ ((c = .exit id ∧ ¬ (mxL cs ≤ vlN x.1.1 1023) ∧ Upd NoB W W') ∨
    (c = .ret ∧ mosP cs lim x.1.1 = true ∧ W'.heap[S + 1]? = some (.cells #[.int .i64 (x.1.1 : Nat)] 3 (0, 0)) ∧ W'.heap[S + 1 + 1]? = some (.cells #[.int .i64 0] 22 (0, 0)) ∧ Upd (fun k => k = S + 1 ∨ k = S + 1 + 1) W W'))
theorem MInv.own {cs : List Int} {lim : Int} {W : World} : OwnFrom W.heap.size (MInv cs lim W) := by
  rintro pre A B row ⟨h1, h2⟩ hg hr
  exact ⟨h1, h2.grown hg (fun j e hk => by have := (hr j e).1; omega)⟩
theorem MInv.step {cs : List Int} {lim : Int} {W : World} : ∀ s A B, MInv cs lim W s A → Upd NoB A B → MInv cs lim W s B := fun _ _ _ h u => ⟨h.1, h.2.then u⟩
theorem MOut.own {S : Nat} {cs : List Int} {lim : Int} {id : Nat} {W : World} (hS : S + 1 + 1 < W.heap.size) (c : Code) : OwnFrom W.heap.size (MOut S cs lim id W c) := by
  rintro pre A B row ⟨qre, x, h1, h2, h3⟩ hg hr
  refine ⟨qre, x, h1, h2, ?_⟩
  rcases h3 with ⟨h3, h4, h5⟩ | ⟨h3, h4, h5, h6, h7⟩
  · exact .inl ⟨h3, h4, h5.grown hg (fun j e hk => by have := (hr j e).1; omega)⟩
  · exact .inr ⟨h3, h4, (hg.block _ (lt_of_block h5) (fun e => by have := (hr _ e.symm).1; omega)).trans h5, (hg.block _ (lt_of_block h6) (fun e => by have := (hr _ e.symm).1; omega)).trans h6, h7.grown hg (fun j e hk => by have := (hr j e).1; omega)⟩
theorem MOut.step {S : Nat} {cs : List Int} {lim : Int} {id : Nat} {W : World} : ∀ c s A B, MOut S cs lim id W c s A → Upd NoB A B → MOut S cs lim id W c s B := by
  rintro c s A B ⟨qre, x, h1, h2, h3⟩ u
  refine ⟨qre, x, h1, h2, ?_⟩
  rcases h3 with ⟨h3, h4, h5⟩ | ⟨h3, h4, h5, h6, h7⟩
  · exact .inl ⟨h3, h4, h5.then u⟩
  · exact .inr ⟨h3, h4, u.heap h5 (noB _), u.heap h6 (noB _), h7.trans u (fun _ _ h => h.elim)⟩
theorem mos_all {cs : List Int} {lim : Int} (h : Fails cs lim (downs 96)) : mosN (mosP cs lim) 96 = none := mosN_none fun j hj => h j (downs_mem (k := 96) (by omega) (by omega))
theorem mos_break {cs : List Int} {lim : Int} {k : Nat} (hk : k < 96) (h : Fails cs lim (downs k)) (hn : ¬ (mxL cs ≤ vlN (95 - k) 1023)) : mosN (mosP cs lim) 96 = none := mosN_none fun j hj => by
  by_cases e : 95 - k < j
  · exact h j (downs_mem (by omega) (by omega))
  · have := vlN_up (s := j) (t := 95 - k) (q := 1023) (by omega) (by omega)
    unfold mosP
    rw [decide_eq_false (by omega), Bool.false_and]
theorem mos_ret {cs : List Int} {lim : Int} {k : Nat} (hk : k < 96) (h : Fails cs lim (downs k)) (hn : mosP cs lim (95 - k) = true) : mosN (mosP cs lim) 96 = some (95 - k) :=
  mosN_some hn (by omega) fun j h1 h2 => h j (downs_mem (by omega) (by omega))
theorem snoc_downs {pre : List La} {x : La} {k : Nat} (h : (pre ++ [x]).map (fun x => x.1.1) = downs (k + 1)) : pre.map (fun x => x.1.1) = downs k ∧ x.1.1 = 95 - k := by
  rw [List.map_append, downs_succ, List.map_singleton] at h
  have := List.append_inj' h rfl
  exact ⟨this.1, by have := this.2; simpa using this⟩
theorem Upd.keepsM {A B : World} {b n : Nat} (h : Upd (fun k => k = b) A B) (m : Memo A b) : KeepsFrom n A B := ⟨h.size, fun k o _ hk ho => h.heap hk (fun e => by
  obtain ⟨fs, h1, _⟩ := m
  have e : k = b := e
  subst e
  rw [h1] at hk
  cases hk
  cases ho)⟩
theorem Memo.own {n b : Nat} {β : Type} : OwnFrom n (fun (_ : β) W => Memo W b ∧ n ≤ b) := by
  rintro s A B row ⟨h1, h2⟩ hg hr
  refine ⟨h1.grown hg (fun r e hb => ?_), h2⟩
  subst hb
  obtain ⟨_, o, ho, hc⟩ := hr _ e
  obtain ⟨fs, h1, _⟩ := h1
  rw [h1] at ho
  cases ho
  cases hc
theorem mosP_yes {cs : List Int} {lim : Int} {s : Nat} (h1 : mxL cs ≤ vlN s 1023) (h2 : nsL s cs ≤ lim) : mosP cs lim s = true := by
  unfold mosP
  rw [decide_eq_true h1, decide_eq_true h2]
  rfl
theorem mosP_no {cs : List Int} {lim : Int} {s : Nat} (h2 : ¬ (nsL s cs ≤ lim)) : mosP cs lim s = false := by
  unfold mosP
  rw [decide_eq_false h2, Bool.and_false]
theorem Fails.snoc {cs : List Int} {lim : Int} {pre : List La} {x : La} (h : Fails cs lim (pre.map fun x => x.1.1)) (hx : mosP cs lim x.1.1 = false) : Fails cs lim ((pre ++ [x]).map fun x => x.1.1) := by
  intro s hs
  rw [List.map_append, List.mem_append] at hs
  rcases hs with hs | hs
  · exact h s hs
  · rw [List.map_singleton, List.mem_singleton] at hs
    rw [hs]
    exact hx
set_option maxRecDepth 100000 in
set_option maxHeartbeats 8000000 in
theorem Most_any (sv : Value) (xs : List Int) (lim : Int) (w : World) (h : Ints w sv xs) : Calls Try.prog 29 #[sv, .int .i64 lim] w fun e w' => e = .returned (.tuple #[.int .i64 (mstV xs lim), .int .i64 (mstE xs lim)]) ∧ Upd NoB w w' := by
  obtain ⟨W, hW⟩ : ∃ W, W = ((w.alloc (.cells #[.int .i64 lim] 3)).alloc (.cells #[.int .i64 0] 3)).alloc (.cells #[.int .i64 0] 22) := ⟨_, rfl⟩
  obtain ⟨b0, b1, b2, hu⟩ := boxes3' w (.cells #[.int .i64 lim] 3) (.cells #[.int .i64 0] 3) (.cells #[.int .i64 0] 22)
  rw [← hW] at b0 b1 b2 hu
  have b2 : W.heap[w.heap.size + 1 + 1]? = some (.cells #[.int .i64 0] 22 (0, 0)) := b2
  have HC := Lib.hid (fun W (u : Upd NoB w W) => checkList_any sv xs 2097152 W (by decide) (h.later u))
  have HW := Lib.hid hW; have HB0 := Lib.hid b0; have HB1 := Lib.hid b1; have HB2 := Lib.hid b2; have HU := Lib.hid hu
  have c0 := blk_cell b0 0
  have c1 := blk_cell b1 0
  have f1 := blk_free b1 0
  have c2 := blk_cell b2 0
  have f2 := blk_free b2 0
  have HSz := Lib.hid (lt_of_block b2)
  by_cases hlim : 0 ≤ lim ∧ lim ≤ 72057594037927936
  · by_cases hE : ckQ 2097152 xs = 0
    · rw [hE] at HC
      obtain ⟨hl, hin⟩ := ckQ_ok hE
      have HZ := Lib.hid (fun W (u : Upd NoB w W) => sizesNew_any sv xs W (h.later u) hl hin)
      have HG := Lib.hid (fun v W h => greatest_any v (xs.map szI) W h)
      have HLB := Lib.hid (show (xs.map szI).length ≤ 128 by rw [List.length_map]; exact hl)
      have HIn := Lib.hid (szI_in hin)
      have HEq := Lib.hid (show mstE xs lim = if (mosN (mosP (xs.map szI) lim) 96).isSome then 0 else 5 by unfold mstE; rw [if_pos hlim, if_pos hE])
      have HVq := Lib.hid (show mstV xs lim = if mstE xs lim = 0 then (((mosN (mosP (xs.map szI) lim) 96).getD 0 : Nat) : Int) else 0 from rfl)
      have t2 : decide (lim < 0) = false := decide_eq_false (by omega)
      have t3 : decide (72057594037927936 < lim) = false := decide_eq_false (by omega)
      have HLim := Lib.hid hlim
      have HLn := Lib.hid (show (xs.map szI).length = xs.length by rw [List.length_map])
      obtain ⟨a, cap, rfl⟩ := h.form
      obtain ⟨ys, hys⟩ : ∃ ys, xs.map szI = ys := ⟨_, rfl⟩
      rw [hys] at HZ HG HLn HLB HIn HEq HVq
      obtain ⟨L, hL⟩ : ∃ L, xs.length = L := ⟨_, rfl⟩
      rw [hL] at HC HZ HLn
      generalize mstV xs lim = V at *
      generalize mstE xs lim = E at *
      rw [hL]
      clear h hE hlim hW b0 b1 b2 hu hl hin hys hL
      refine (callsIn_wide (n := 2)).1 ?_
      refine callsIn_of_wp_marks Try.func29 rfl trivial (wpIn_wide.2 ?_) rfl
      simp only [Try.ntmps29, List.size_toArray, List.length_cons, List.length_nil, Nat.reduceAdd, Nat.reduceSub, Array.replicate_succ, Array.replicate_zero, List.push_toArray, List.append_toArray, List.nil_append, List.cons_append]
      go_wp2_with fail
      rw [← HW.out]
      refine (HC.out W HU.out).mono ?_
      rintro e w1 ⟨rfl, u1⟩
      have U1 := Lib.hid u1
      clear u1
      go_wp2_with fail
      refine (HZ.out w1 (HU.out.then U1.out)).mono ?_
      rintro e w2 ⟨za, zc, rfl, i2, hf2, u2⟩
      have I2 := Lib.hid i2; have HF2 := Lib.hid hf2; have U2 := Lib.hid (U1.out.then u2)
      clear i2 hf2 u2
      go_wp2_with fail
      have u3 : Upd NoB w2 (w2.alloc (.cells #[.slice za L zc] 28)) := (Upd.refl _ _).alloc _
      have c7 := heap_alloc_new w2 (.cells #[.slice za L zc] 28)
      obtain ⟨w3, hw3⟩ : ∃ w3, w2.alloc (.cells #[.slice za L zc] 28) = w3 := ⟨_, rfl⟩
      rw [hw3] at u3 c7 ⊢
      obtain ⟨B7, hB7⟩ : ∃ B, w2.heap.size = B := ⟨_, rfl⟩
      rw [hB7] at c7 ⊢
      have hSB7 : w.heap.size + 1 + 1 < B7 := by have := HSz.out; have := U2.out.size; omega
      have HS7 := Lib.hid hSB7
      have C7 := Lib.hid c7; have I3 := Lib.hid (I2.out.later u3); have U3 := Lib.hid (U2.out.then u3)
      clear u3 c7 hw3 hB7 hSB7
      refine (HG.out _ _ I3.out).mono ?_
      rintro e w3' ⟨rfl, hw3⟩
      rw [hw3]
      clear hw3 w3'
      go_wp2_with fail
      have u4 : Upd NoB w3 (w3.alloc (.cells #[.int .i64 (mxL ys)] 3)) := (Upd.refl _ _).alloc _
      have c8 := heap_alloc_new w3 (.cells #[.int .i64 (mxL ys)] 3)
      obtain ⟨w4, hw4⟩ : ∃ w4, w3.alloc (.cells #[.int .i64 (mxL ys)] 3) = w4 := ⟨_, rfl⟩
      rw [hw4] at u4 c8 ⊢
      obtain ⟨B8, hB8⟩ : ∃ B, w3.heap.size = B := ⟨_, rfl⟩
      rw [hB8] at c8 ⊢
      have HZ8 := Lib.hid (And.intro (show B7 < B8 by rw [← hB8]; exact lt_of_block C7.out) (lt_of_block c8))
      have C8 := Lib.hid c8; have I4 := Lib.hid (I3.out.later u4); have U4 := Lib.hid (U3.out.then u4)
      have C74 := Lib.hid (u4.heap C7.out (noB _)); have CL := Lib.hid (U4.out.heap HB0.out (noB _)); have C1 := Lib.hid (U4.out.heap HB1.out (noB _)); have C2 := Lib.hid (U4.out.heap HB2.out (noB _))
      have UW := Lib.hid (HU.out.then U4.out)
      clear u4 c8 hw4 hB8 c0 c1 f1 c2 f2 t2 t3
      obtain ⟨g, hg⟩ : ∃ g, mxL ys = g := ⟨_, rfl⟩
      rw [hg] at C8 ⊢
      have HGg := Lib.hid hg
      obtain ⟨S, hS⟩ : ∃ S, w.heap.size = S := ⟨_, rfl⟩
      have HSs := Lib.hid hS
      rw [hS] at HS7 CL C1 C2 ⊢
      clear hg hS
      refine (wpIn_wide (n := 2)).1 (wpIn_rangeT rfl (by omega) (gf := 69) (lb := #[]) rfl trivial (enters_of Try.func69 (by kernel_rfl) rfl)
        (ladders_seq w4) (fun h k => h.trans k) (fun W l o o' _ h ho => kpL_putObj h ho) (fun X Y ht k o _ hX _ => ht.heap hX (noB _)) (Below.refl _ _) (fun _ => rfl)
        (MInv ys lim w4) (MOut S ys lim 0 w4) MInv.own (MOut.own (by have := HS7.out; have := HZ8.out; omega)) MInv.step MOut.step (fun pre x => Memo.own) ⟨fun s hs => (by cases hs), Upd.refl _ _⟩
        (fun x a' W' => ∃ Bx, w4.heap.size ≤ Bx ∧ W'.heap[Bx]? = some (.cells #[.int .i64 (x.1.1 : Int), .int .i64 (stepN x.1.1 : Nat), .pointer (some ⟨x.1.2, 0, none⟩)] 57 (0, 0)) ∧ a' = { tmps := #[.slice a L cap, .int .i64 lim, undef, .pointer (some ⟨S, 0, none⟩), .pointer (some ⟨S + 1, 0, none⟩), .pointer (some ⟨S + 1 + 1, 0, none⟩), .int .i64 0, .pointer (some ⟨B7, 0, none⟩), .pointer (some ⟨B8, 0, none⟩), .pointer (some ⟨Bx, 0, none⟩), .int .i64 lim, .bool false, .bool false, .int .i64 lim, .bool false, .bool false, .slice a L cap, .int .i64 0, .int .i64 0, .bool false, undef, .slice a L cap, .slice za L zc, .slice za L zc, .int .i64 g, lad x.1.1 x.1.2, undef, undef, undef, undef, undef, undef, undef, undef, undef, undef], defers := [] })
        (fun x a' s A B row hs hg hr => by
          obtain ⟨Bx, h1, h2, h3⟩ := hs
          refine ⟨Bx, h1, (hg.block _ (lt_of_block h2) (fun e => ?_)).trans h2, h3⟩
          obtain ⟨_, o, ho, hc⟩ := hr _ e.symm
          rw [h2] at ho
          cases ho
          cases hc) ?assign ?body ?done ?stop)
      case assign =>
        intro l pre x W' K' hi hp hK'
        have hi2 := hi.2.size
        simp only [encLa, lad] at hK' ⊢
        have Hi := Lib.hid hi; have Hp := Lib.hid hp
        clear hi hp
        gi_wp2
        exact hK' _ _ ((KeepsOthers.alloc _ _).from _) ((Upd.refl NoB W').alloc _).kpL (MInv.own.alloc _ Hi.out) ⟨Hp.out.1.later ((Upd.refl NoB W').alloc _), Hp.out.2⟩ ⟨W'.heap.size, hi2, heap_alloc_new W' _, rfl⟩
      case body =>
        rintro l pre x a' W' ⟨hf, hu⟩ ⟨hm, hb⟩ ⟨Bx, hx1, hx2, rfl⟩ _ hN
        obtain ⟨⟨s, b⟩, hs⟩ := x
        simp only at *
        have H7 := Lib.hid (hu.heap C74.out (noB _)); have H8 := Lib.hid (hu.heap C8.out (noB _)); have HL0 := Lib.hid (hu.heap CL.out (noB _)); have H1 := Lib.hid (hu.heap C1.out (noB _)); have H2 := Lib.hid (hu.heap C2.out (noB _))
        have HI := Lib.hid (I4.out.later hu)
        have hne : Bx ≠ b := fun e => by
          obtain ⟨fs, h1, _⟩ := hm
          subst e
          rw [hx2] at h1
          injection h1 with h1
          injection h1 with _ h1 _
          exact absurd h1 (by decide)
        have HSv := Lib.hid (show ys ≠ [] → ∀ k, (Value.slice za L zc).ownBlock = some k → k ≠ b ∧ k < w4.heap.size from fun h0 k hk => by have := I4.out.lt h0 k hk; omega)
        have HR := Lib.hid (reaches_any (s : Int) s b g W' hm hs)
        have HKe := Lib.hid (fun W5 (m : Memo W5 b) (u : Upd (fun k => k = b) W' W5) => keeps_any (s : Int) s b (.slice za L zc) ys lim W5 m hs HIn.out HLB.out (HI.out.upd u (fun h0 k hk => (HSv.out h0 k hk).1)) (fun h0 k hk => ⟨(HSv.out h0 k hk).1, by have := (HSv.out h0 k hk).2; have := hu.size; have := u.size; omega⟩) HLim.out)
        have hz := HZ8.out
        have hs7 := HS7.out
        obtain ⟨⟨x0, x1, x2⟩, xf0, _, _⟩ := cells3 hx2
        have c8 := blk_cell H8.out 0
        have HM := Lib.hid hm; have HU' := Lib.hid hu; have HX2 := Lib.hid hx2; have HF := Lib.hid hf; have HBb := Lib.hid hb; have HNe := Lib.hid hne
        clear hm hu hx2 hf hb hne hN hz hs7
        by_cases hr : g ≤ vlN s 1023
        · rw [decide_eq_true hr] at HR
          have HRy := Lib.hid hr
          clear hr
          gi_wp2
          refine ⟨trivial, rfl, ?_⟩
          (with_reducible refine ((callsIn_wide.2 HR.out).inRound l).mono ?_)
          rintro e w5 ⟨rfl, m5, u5⟩
          have M5 := Lib.hid m5; have U5 := Lib.hid u5
          have HK5 := Lib.hid (HKe.out w5 m5 u5)
          have n1 : Bx ≠ b := HNe.out
          have hz := HZ8.out
          have hs7 := HS7.out
          have hb := HBb.out
          have h8 := u5.heap H8.out (fun e => by have e : B8 = b := e; omega)
          have c8 := blk_cell h8 0
          have h7 := u5.heap H7.out (fun e => by have e : B7 = b := e; omega)
          have c7 := blk_cell h7 0
          have hl0 := u5.heap HL0.out (fun e => by have e : S = b := e; omega)
          have cl := blk_cell hl0 0
          obtain ⟨⟨x0, x1, x2⟩, xf0, _, _⟩ := cells3 (u5.heap HX2.out n1)
          clear m5 u5 h8 h7 hl0 hz hs7 hb n1
          by_cases hk : nsL s ys ≤ lim
          · rw [decide_eq_true hk] at HK5
            have HKy := Lib.hid hk
            clear hk
            gi_wp2
            refine ⟨trivial, rfl, ?_⟩
            (with_reducible refine ((callsIn_wide.2 HK5.out).inRound l).mono ?_)
            rintro e w6 ⟨rfl, m6, u6⟩
            have M6 := Lib.hid m6; have U6 := Lib.hid (U5.out.trans u6 (fun _ _ h => h))
            have n1 : Bx ≠ b := HNe.out
            have hz := HZ8.out
            have hs7 := HS7.out
            have hb := HBb.out
            have h1 := U6.out.heap H1.out (fun e => by have e : S + 1 = b := e; omega)
            have h2 := U6.out.heap H2.out (fun e => by have e : S + 1 + 1 = b := e; omega)
            obtain ⟨⟨y0, y1, y2⟩, yf0, _, _⟩ := cells3 (U6.out.heap HX2.out n1)
            have c1 := blk_cell h1 0
            have f1 := blk_free h1 0
            have c2 := blk_cell h2 0
            have f2 := blk_free h2 0
            have K1 := Lib.hid h1; have K2 := Lib.hid h2
            clear m6 u6 h1 h2 hz hs7 hb n1
            gi_wp2
            have us1 : Upd (fun k => k = S + 1) w6 (w6.setCell ⟨S + 1, 0, none⟩ (.int .i64 (s : Nat))) := (Upd.refl _ _).setCell _ (fun _ => rfl)
            have us2 : Upd (fun k => k = S + 1 + 1) (w6.setCell ⟨S + 1, 0, none⟩ (.int .i64 (s : Nat))) ((w6.setCell ⟨S + 1, 0, none⟩ (.int .i64 (s : Nat))).setCell ⟨S + 1 + 1, 0, none⟩ (.int .i64 0)) := (Upd.refl _ _).setCell _ (fun _ => rfl)
            have hb := HBb.out
            have hz := HZ8.out
            have hs7 := HS7.out
            have hsz := HU'.out.size
            refine ⟨(U6.out.keepsM HM.out).trans ((keeps_of_upd us1 (fun k hk e => by have e : k = S + 1 := e; omega)).trans (keeps_of_upd us2 (fun k hk e => by have e : k = S + 1 + 1 := e; omega))), pre, ⟨(s, b), hs⟩, rfl, HF.out, .inr ⟨rfl, mosP_yes (by rw [HGg.out]; exact HRy.out) HKy.out, us2.heap (block_set (i := 0) K1.out _) (fun e => by have e : S + 1 = S + 1 + 1 := e; omega), block_set (i := 0) (us1.heap K2.out (fun e => by have e : S + 1 + 1 = S + 1 := e; omega)) _, ?_⟩⟩
            exact ((((HU'.out.mono (T := fun k => (k = S + 1 ∨ k = S + 1 + 1) ∨ w4.heap.size ≤ k) (fun _ _ h => h.elim)).trans U6.out (fun k _ h => .inr (by have h : k = b := h; omega))).trans us1 (fun k _ h => .inl (.inl h))).trans us2 (fun k _ h => .inl (.inr h))).mono (fun k hk h => h.elim id (fun h => by omega))
          · rw [decide_eq_false hk] at HK5
            have HKn := Lib.hid hk
            clear hk
            gi_wp2
            refine ⟨trivial, rfl, ?_⟩
            (with_reducible refine ((callsIn_wide.2 HK5.out).inRound l).mono ?_)
            rintro e w6 ⟨rfl, m6, u6⟩
            have M6 := Lib.hid m6; have U6 := Lib.hid (U5.out.trans u6 (fun _ _ h => h))
            clear m6 u6
            gi_wp2
            have hb := HBb.out
            exact ⟨U6.out.keepsM HM.out, U6.out.kpLb HM.out M6.out, HF.out.snoc (mosP_no (Int.not_le.2 HKn.out)), ((HU'.out.mono (T := fun k => w4.heap.size ≤ k) (fun _ _ h => h.elim)).trans U6.out (fun k _ h => by have h : k = b := h; omega)).mono (fun k hk h => by omega)⟩
        · rw [decide_eq_false hr] at HR
          have HRn := Lib.hid hr
          clear hr
          gi_wp2
          refine ⟨trivial, rfl, ?_⟩
          (with_reducible refine ((callsIn_wide.2 HR.out).inRound l).mono ?_)
          rintro e w5 ⟨rfl, m5, u5⟩
          have U5 := Lib.hid u5
          clear m5 u5
          gi_wp2
          have hb := HBb.out
          exact ⟨U5.out.keepsM HM.out, pre, ⟨(s, b), hs⟩, rfl, HF.out, .inl ⟨rfl, by rw [HGg.out]; exact Int.not_le.2 HRn.out, ((HU'.out.mono (T := fun k => w4.heap.size ≤ k) (fun _ _ h => h.elim)).trans U5.out (fun k _ h => by have h : k = b := h; omega)).mono (fun k hk h => by omega)⟩⟩
      case done =>
        rintro D vs W' hD hS ⟨hf, hu⟩ hK
        rw [hS] at hf
        have HN := Lib.hid (mos_all hf)
        have H1 := Lib.hid (hu.heap C1.out (noB _)); have H2 := Lib.hid (hu.heap C2.out (noB _)); have HU' := Lib.hid hu; have HK := Lib.hid hK; have HD := Lib.hid hD
        have c1 := blk_cell H1.out 0
        have f1 := blk_free H1.out 0
        have c2 := blk_cell H2.out 0
        have f2 := blk_free H2.out 0
        clear hf hS hu hK hD
        go_wp2
        have hE : E = 5 := by rw [HEq.out, HN.out]; rfl
        have hV : V = 0 := by rw [HVq.out, if_neg (by rw [hE]; decide)]
        have us1 : Upd (fun k => k = S + 1) W' (W'.setCell ⟨S + 1, 0, none⟩ (.int .i64 0)) := (Upd.refl _ _).setCell _ (fun _ => rfl)
        have us2 : Upd (fun k => k = S + 1 + 1) (W'.setCell ⟨S + 1, 0, none⟩ (.int .i64 0)) ((W'.setCell ⟨S + 1, 0, none⟩ (.int .i64 0)).setCell ⟨S + 1 + 1, 0, none⟩ (.int .i64 5)) := (Upd.refl _ _).setCell _ (fun _ => rfl)
        have k1 := us2.heap (block_set (i := 0) H1.out (.int .i64 0)) (fun e => by have e : S + 1 = S + 1 + 1 := e; omega)
        have k2 := block_set (i := 0) (us1.heap H2.out (fun e => by have e : S + 1 + 1 = S + 1 := e; omega)) (.int .i64 5)
        have hD := HD.out
        have hs7 := HS7.out
        have hz := HZ8.out
        have hkd := us2.heap (us1.heap HK.out (fun e => by have e : D = S + 1 := e; omega)) (fun e => by have e : D = S + 1 + 1 := e; omega)
        have hSs := HSs.out
        refine ⟨by simp, .inl ⟨_, _, rfl, run_takeDeferred hkd, ?_⟩⟩
        refine ⟨_, results_ie rfl _ _ (S + 1) (S + 1 + 1) _ _ rfl rfl (blk_cell ((World.putObj_heap_other (by omega)).trans k1) 0) (blk_cell ((World.putObj_heap_other (by omega)).trans k2) 0), by rw [hE, hV]; rfl, ?_⟩
        exact ((((((UW.out.then HU'.out).mono (T := fun k => w.heap.size ≤ k) (fun _ _ h => h.elim)).trans us1 (fun k _ h => by have h : k = S + 1 := h; omega)).trans us2 (fun k _ h => by have h : k = S + 1 + 1 := h; omega)).grown (grownBy_putObj' _ _ _) (fun k e hlt => by cases e; have := UW.out.size; omega))).mono (fun k hk h => by omega)
      case stop =>
        rintro D c pre W' hD ⟨k, hk, hS⟩ ⟨qre, x, rfl, hf, hx⟩ hK
        obtain ⟨hS1, hS2⟩ := snoc_downs hS
        rw [hS1] at hf
        rcases hx with ⟨rfl, hr, hu⟩ | ⟨rfl, hr, h1, h2, hu⟩
        · rw [hS2] at hr
          have HN := Lib.hid (mos_break hk hf hr)
          have H1 := Lib.hid (hu.heap C1.out (noB _)); have H2 := Lib.hid (hu.heap C2.out (noB _)); have HU' := Lib.hid hu; have HK := Lib.hid hK; have HD := Lib.hid hD
          have c1 := blk_cell H1.out 0
          have f1 := blk_free H1.out 0
          have c2 := blk_cell H2.out 0
          have f2 := blk_free H2.out 0
          clear hf hS hu hK hD hS1 hS2 hr hk
          refine wpIn_wide.2 ?_
          go_wp2
          have hE : E = 5 := by rw [HEq.out, HN.out]; rfl
          have hV : V = 0 := by rw [HVq.out, if_neg (by rw [hE]; decide)]
          have us1 : Upd (fun k => k = S + 1) W' (W'.setCell ⟨S + 1, 0, none⟩ (.int .i64 0)) := (Upd.refl _ _).setCell _ (fun _ => rfl)
          have us2 : Upd (fun k => k = S + 1 + 1) (W'.setCell ⟨S + 1, 0, none⟩ (.int .i64 0)) ((W'.setCell ⟨S + 1, 0, none⟩ (.int .i64 0)).setCell ⟨S + 1 + 1, 0, none⟩ (.int .i64 5)) := (Upd.refl _ _).setCell _ (fun _ => rfl)
          have k1 := us2.heap (block_set (i := 0) H1.out (.int .i64 0)) (fun e => by have e : S + 1 = S + 1 + 1 := e; omega)
          have k2 := block_set (i := 0) (us1.heap H2.out (fun e => by have e : S + 1 + 1 = S + 1 := e; omega)) (.int .i64 5)
          have hD := HD.out
          have hs7 := HS7.out
          have hz := HZ8.out
          have hkd := us2.heap (us1.heap HK.out (fun e => by have e : D = S + 1 := e; omega)) (fun e => by have e : D = S + 1 + 1 := e; omega)
          have hSs := HSs.out
          refine ⟨by simp, .inl ⟨_, _, rfl, run_takeDeferred hkd, ?_⟩⟩
          refine ⟨_, results_ie rfl _ _ (S + 1) (S + 1 + 1) _ _ rfl rfl (blk_cell ((World.putObj_heap_other (by omega)).trans k1) 0) (blk_cell ((World.putObj_heap_other (by omega)).trans k2) 0), by rw [hE, hV]; rfl, ?_⟩
          exact ((((((UW.out.then HU'.out).mono (T := fun k => w.heap.size ≤ k) (fun _ _ h => h.elim)).trans us1 (fun k _ h => by have h : k = S + 1 := h; omega)).trans us2 (fun k _ h => by have h : k = S + 1 + 1 := h; omega)).grown (grownBy_putObj' _ _ _) (fun k e hlt => by cases e; have := UW.out.size; omega))).mono (fun k hk h => by omega)
        · rw [hS2] at hr h1
          have HN := Lib.hid (mos_ret hk hf hr)
          have H1 := Lib.hid h1; have H2 := Lib.hid h2; have HU' := Lib.hid hu; have HK := Lib.hid hK; have HD := Lib.hid hD
          clear hf hS hu hK hD hS1 hS2 hr hk h1 h2
          refine wpIn_wide.2 ?_
          go_wp2
          have hE : E = 0 := by rw [HEq.out, HN.out]; rfl
          have hV : V = ((95 - k : Nat) : Int) := by rw [HVq.out, if_pos hE, HN.out]; rfl
          have hD := HD.out
          have hs7 := HS7.out
          have hz := HZ8.out
          have hSs := HSs.out
          refine ⟨by simp, .inl ⟨_, _, rfl, run_takeDeferred HK.out, ?_⟩⟩
          refine ⟨_, results_ie rfl _ _ (S + 1) (S + 1 + 1) _ _ rfl rfl (blk_cell ((World.putObj_heap_other (by omega)).trans H1.out) 0) (blk_cell ((World.putObj_heap_other (by omega)).trans H2.out) 0), by rw [hE, hV]; rfl, ?_⟩
          exact ((((UW.out.mono (T := fun k => w.heap.size ≤ k) (fun _ _ h => h.elim)).trans HU'.out (fun k _ h => by have h : k = S + 1 ∨ k = S + 1 + 1 := h; omega)).grown (grownBy_putObj' _ _ _) (fun k e hlt => by cases e; have := UW.out.size; omega))).mono (fun k hk h => by omega)
    · have HS := Lib.hid (show mstE xs lim = ckQ 2097152 xs by unfold mstE; rw [if_pos hlim, if_neg hE])
      have HS2 := Lib.hid (show mstV xs lim = 0 by unfold mstV; rw [HS.out, if_neg hE])
      rw [HS2.out, HS.out]
      generalize ckQ 2097152 xs = E at *
      obtain ⟨a, cap, rfl⟩ := h.form
      have t1 : (E != 0) = true := bne_iff_ne.2 hE
      have t2 : decide (lim < 0) = false := decide_eq_false (by omega)
      have t3 : decide (72057594037927936 < lim) = false := decide_eq_false (by omega)
      generalize xs.length = L at *
      clear h hE hlim hW b0 b1 b2 hu
      go_enter Try.func29, Try.ntmps29
      go_wp2_with fail
      rw [← HW.out]
      refine (HC.out W HU.out).mono ?_
      rintro e w1 ⟨rfl, u1⟩
      have U1 := Lib.hid (HU.out.then u1)
      have h1 := u1.heap HB1.out (noB _)
      have h2 := u1.heap HB2.out (noB _)
      have f1 := blk_free h1 0
      have c1 := blk_cell h1 0
      have f2 := blk_free h2 0
      have c2 := blk_cell h2 0
      have H1 := Lib.hid h1; have H2 := Lib.hid h2
      clear u1 h1 h2
      go_wp2_with fail
      have us1 : Upd (fun k => k = w.heap.size + 1) w1 (w1.setCell ⟨w.heap.size + 1, 0, none⟩ (.int .i64 0)) := (Upd.refl _ _).setCell _ (fun _ => rfl)
      have us2 : Upd (fun k => k = w.heap.size + 1 + 1) (w1.setCell ⟨w.heap.size + 1, 0, none⟩ (.int .i64 0)) ((w1.setCell ⟨w.heap.size + 1, 0, none⟩ (.int .i64 0)).setCell ⟨w.heap.size + 1 + 1, 0, none⟩ (.int .i64 E)) := (Upd.refl _ _).setCell _ (fun _ => rfl)
      have k1 := us2.heap (block_set (i := 0) H1.out (.int .i64 0)) (fun e => by have e : w.heap.size + 1 = w.heap.size + 1 + 1 := e; omega)
      have k2 := block_set (i := 0) (us1.heap H2.out (fun e => by have e : w.heap.size + 1 + 1 = w.heap.size + 1 := e; omega)) (.int .i64 E)
      refine bodyPost_ret (results_ie rfl _ _ (w.heap.size + 1) (w.heap.size + 1 + 1) _ _ rfl rfl (blk_cell k1 0) (blk_cell k2 0)) rfl ⟨rfl, ?_⟩
      exact (((U1.out.mono (T := fun k => w.heap.size ≤ k) (fun _ _ h => h.elim)).trans us1 (fun k _ h => by have h : k = w.heap.size + 1 := h; omega)).trans us2 (fun k _ h => by have h : k = w.heap.size + 1 + 1 := h; omega)).mono (fun k hk h => by omega)
  · have HS := Lib.hid (show mstE xs lim = 1 from if_neg hlim)
    have HS2 := Lib.hid (show mstV xs lim = 0 by unfold mstV; rw [HS.out, if_neg (by decide)])
    rw [HS2.out, HS.out]
    obtain ⟨a, cap, rfl⟩ := h.form
    generalize xs.length = L at *
    clear h hW b0 b1 b2 hu HC
    by_cases hl : lim < 0
    · have t2 : decide (lim < 0) = true := decide_eq_true hl
      clear hlim hl
      go_enter Try.func29, Try.ntmps29
      go_wp2_with fail
      have hheap := (boxes3' w (.cells #[.int .i64 lim] 3) (.cells #[.int .i64 0] 3) (.cells #[.int .i64 1] 22))
      exact bodyPost_ret (results_ie rfl _ _ w.heap.size.succ (w.heap.size + 1 + 1) _ _ rfl rfl (blk_cell hheap.2.1 0) (blk_cell hheap.2.2.1 0)) rfl ⟨rfl, hheap.2.2.2⟩
    · have t2 : decide (lim < 0) = false := decide_eq_false hl
      have t3 : decide (72057594037927936 < lim) = true := decide_eq_true (by omega)
      clear hlim hl
      go_enter Try.func29, Try.ntmps29
      go_wp2_with fail
      have hheap := (boxes3' w (.cells #[.int .i64 lim] 3) (.cells #[.int .i64 0] 3) (.cells #[.int .i64 1] 22))
      exact bodyPost_ret (results_ie rfl _ _ w.heap.size.succ (w.heap.size + 1 + 1) _ _ rfl rfl (blk_cell hheap.2.1 0) (blk_cell hheap.2.2.1 0)) rfl ⟨rfl, hheap.2.2.2⟩
end Go.Proofs.Yteioaeceobgbdaa
