/- the turns of a list as steps: isPlace, stepsOf -/
import Derived.Test.YtpmhioaoniijbaaDoorJF
import Derived.Laws.MakeOwn
namespace Go.Proofs.YtpmhioaoniijbaaDoor
open Go.RowKit Go.Shelf

structure Tn where
  i : Int
  j : Int
  n : Int
  d : Int
def TnAt (w : World) (b o : Nat) (t : Tn) : Prop := w.cell? ⟨b, o, none⟩ = some (.int .i64 t.i) ∧ w.cell? ⟨b, o + 1, none⟩ = some (.int .i64 t.j) ∧ w.cell? ⟨b, o + 2, none⟩ = some (.int .i64 t.n) ∧ w.cell? ⟨b, o + 3, none⟩ = some (.int .i64 t.d)
/-- The slice v holds the turns ts. -/
def Tns (w : World) (v : Value) (ts : List Tn) : Prop :=
  ts.length ≤ 17592186044416 ∧ ∃ a cap, v = .slice a ts.length cap ∧ (ts = [] ∨ ∃ b off, a = some ⟨b, off, none⟩ ∧ ∀ k t, ts[k]? = some t → TnAt w b (off + k * 4) t)
theorem TnAt.upd {S : Nat → Prop} {w w' : World} {b o : Nat} {t : Tn} (h : TnAt w b o t) (u : Upd S w w') (hs : ¬ S b) : TnAt w' b o t := ⟨u.cell h.1 hs, u.cell h.2.1 hs, u.cell h.2.2.1 hs, u.cell h.2.2.2 hs⟩
theorem Tns.later {w w' : World} {v : Value} {ts : List Tn} (h : Tns w v ts) (u : Upd NoB w w') : Tns w' v ts := by
  obtain ⟨hb, a, cap, rfl, h3⟩ := h
  refine ⟨hb, a, cap, rfl, ?_⟩
  rcases h3 with h3 | ⟨b, off, rfl, h3⟩
  · exact .inl h3
  · exact .inr ⟨b, off, rfl, fun k t hk => (h3 k t hk).upd u (noB _)⟩
theorem Tns.form {w : World} {v : Value} {ts : List Tn} (h : Tns w v ts) : ∃ a cap, v = .slice a ts.length cap := by obtain ⟨_, a, cap, e, _⟩ := h; exact ⟨a, cap, e⟩
def plB (L : Nat) (t : Tn) : Bool := decide (0 ≤ t.i ∧ t.i < L) && decide (0 ≤ t.j ∧ t.j < L) && decide (t.i ≠ t.j)
def tnE (L : Nat) (t : Tn) : Int := if plB L t then turE t.n t.d else 1
def tnsE (L : Nat) : List Tn → Int
  | [] => 0
  | t :: ts => if tnE L t = 0 then tnsE L ts else tnE L t
def stpE (M : Int) (xs : List Int) (ts : List Tn) : Int := if 1024 < xs.length ∨ 4096 < ts.length then 2 else if allIn M xs = false then 6 else tnsE xs.length ts
theorem tnsE_take {L : Nat} : ∀ {ts : List Tn} {k : Nat} {t : Tn}, ts[k]? = some t → (∀ (j : Nat) (u : Tn), j < k → ts[j]? = some u → tnE L u = 0) → tnE L t ≠ 0 → tnsE L ts = tnE L t
  | [], k, t, h, _, _ => by simp at h
  | u :: ts, 0, t, h, _, ht => by
    simp at h
    subst h
    unfold tnsE
    rw [if_neg ht]
  | u :: ts, k + 1, t, h, hj, ht => by
    unfold tnsE
    rw [if_pos (hj 0 u (by omega) rfl)]
    exact tnsE_take (k := k) (by simpa using h) (fun j v hjk hv => hj (j + 1) v (by omega) (by simpa using hv)) ht
theorem tnsE_all {L : Nat} : ∀ {ts : List Tn}, (∀ (k : Nat) (t : Tn), ts[k]? = some t → tnE L t = 0) → tnsE L ts = 0
  | [], _ => rfl
  | u :: ts, h => by
    unfold tnsE
    rw [if_pos (h 0 u rfl)]
    exact tnsE_all (fun k t hk => h (k + 1) t (by simpa using hk))
/-- One step: a turn and two places. -/
structure Sp where
  q : Nat
  A : Int
  B : Int
  i : Int
  j : Int
def Tn.sp (t : Tn) : Sp := ⟨turQ t.n t.d, turA t.n t.d, turB t.n t.d, t.i, t.j⟩
def Sp.val (s : Sp) : Value := .agg #[.int .i64 s.q, .int .i64 s.A, .int .i64 s.B, .int .i64 s.i, .int .i64 s.j]
def SpIn (c : Array Value) (o : Nat) (s : Sp) : Prop := c[o]? = some (.int .i64 s.q) ∧ c[o + 1]? = some (.int .i64 s.A) ∧ c[o + 2]? = some (.int .i64 s.B) ∧ c[o + 3]? = some (.int .i64 s.i) ∧ c[o + 4]? = some (.int .i64 s.j)
/-- The steps lie in block g. -/
def Sps (w : World) (g : Nat) (ss : List Sp) : Prop := ∃ c : Array Value, w.heap[g]? = some (.cells c 70 (0, 0)) ∧ ∀ k s, ss[k]? = some s → SpIn c (k * 5) s
theorem Sps.upd {S : Nat → Prop} {w w' : World} {g : Nat} {ss : List Sp} (h : Sps w g ss) (u : Upd S w w') (hs : ¬ S g) : Sps w' g ss := by
  obtain ⟨c, hc, h⟩ := h
  exact ⟨c, u.heap hc hs, h⟩
theorem get_set5 (c : Array Value) (o : Nat) (v0 v1 v2 v3 v4 : Value) (h : o + 5 ≤ c.size) :
    let c' := ((((c.setIfInBounds o v0).setIfInBounds (o + 1) v1).setIfInBounds (o + 2) v2).setIfInBounds (o + 3) v3).setIfInBounds (o + 4) v4
    c'.size = c.size ∧ c'[o]? = some v0 ∧ c'[o + 1]? = some v1 ∧ c'[o + 2]? = some v2 ∧ c'[o + 3]? = some v3 ∧ c'[o + 4]? = some v4 ∧ ∀ k, (k < o ∨ o + 5 ≤ k) → c'[k]? = c[k]? := by
  intro c'
  refine ⟨by simp [c'], ?_, ?_, ?_, ?_, ?_, ?_⟩
  all_goals simp only [c', Array.getElem?_setIfInBounds, Array.size_setIfInBounds]
  · simp; omega
  · simp; omega
  · simp; omega
  · simp; omega
  · simp; omega
  · intro k hk
    rw [if_neg (by omega), if_neg (by omega), if_neg (by omega), if_neg (by omega), if_neg (by omega)]
theorem isPlace_any (a : Option Addr) (L cap : Nat) (i : Int) (w : World) (hL : L ≤ 17592186044416) : Calls Tryd.prog 83 #[.slice a L cap, .int .i64 i] w fun e w' => e = .returned (.bool (decide (0 ≤ i ∧ i < (L : Int)))) ∧ w' = w := by
  by_cases h : 0 ≤ i
  · by_cases h2 : i < (L : Int)
    · have R := Lib.hid (show decide (0 ≤ i ∧ i < (L : Int)) = true from decide_eq_true ⟨h, h2⟩)
      have t : decide (i < (L : Int)) = true := decide_eq_true h2
      go_enter Tryd.func83, Tryd.ntmps83
      go_wp2
      go_ret
      exact ⟨by rw [R.out]; rfl, rfl⟩
    · have R := Lib.hid (show decide (0 ≤ i ∧ i < (L : Int)) = false from decide_eq_false (fun h => h2 h.2))
      have t : decide (i < (L : Int)) = false := decide_eq_false h2
      go_enter Tryd.func83, Tryd.ntmps83
      go_wp2
      go_ret
      exact ⟨rfl, rfl⟩
  · rw [show decide (0 ≤ i ∧ i < (L : Int)) = false from decide_eq_false (fun h' => h h'.1)]
    have t : decide (0 ≤ i) = false := decide_eq_false h
    go_enter Tryd.func83, Tryd.ntmps83
    go_wp2
    go_ret
    exact ⟨rfl, rfl⟩
theorem stepInfo : (Tryd.prog.info? 70).map (fun i => (i.zero, i.size, i.bytes)) = some (some (.agg #[.int .i64 0, .int .i64 0, .int .i64 0, .int .i64 0, .int .i64 0]), 5, 40) := by kernel_rfl
theorem make_steps (n : Nat) (hn : n ≤ 1000000) (w : World) : ∃ c : Array Value, c.size = n * 5 ∧ (Instr.makeSlice 62 (.int .i64 (n : Int)) (.int .i64 (n : Int))).run Tryd.prog w = .ok (.slice (some ⟨w.heap.size, 0, none⟩) n n) (w.alloc (.cells c 70)) := by
  obtain ⟨i, hi, hz, hs, hb⟩ := info_parts stepInfo
  have := run_make (P := Tryd.prog) w 62 70 i _ Tryd.underlying62 hi hz .i64 .i64 n n (by omega) (Int.le_refl _) (by rw [hb]; omega) (by omega)
  rw [Int.toNat_natCast, hs] at this
  exact ⟨_, by rw [size_madeCells], this⟩
set_option maxRecDepth 100000 in
set_option maxHeartbeats 2000000 in
theorem stepsOf_any (M : Int) (xv tv : Value) (xs : List Int) (ts : List Tn) (w : World) (hM : 0 ≤ M) (hM2 : M ≤ 4611686018427387904) (hx : Ints w xv xs) (ht : Tns w tv ts) (hp : Parts w) :
    Calls Tryd.prog 59 #[xv, tv, .int .i64 M] w fun e w' => Upd NoB w w' ∧ ((stpE M xs ts ≠ 0 ∧ e = .returned (.tuple #[.slice none 0 0, .int .i64 (stpE M xs ts)])) ∨
      (stpE M xs ts = 0 ∧ ∃ g, e = .returned (.tuple #[.slice (some ⟨g, 0, none⟩) ts.length ts.length, .int .i64 0]) ∧ Sps w' g (ts.map Tn.sp) ∧ w.heap.size ≤ g)) := by
  have HX := Lib.hid hx; have HT := Lib.hid ht; have HP := Lib.hid hp
  obtain ⟨xa, xcap, rfl⟩ := hx.form
  obtain ⟨ta, tcap, rfl⟩ := ht.form
  have lx := hx.1
  have lt := ht.1
  clear hx ht hp
  obtain ⟨L, hL⟩ : ∃ L, xs.length = L := ⟨_, rfl⟩
  obtain ⟨K, hK⟩ : ∃ K, ts.length = K := ⟨_, rfl⟩
  have hst : stpE M xs ts = if 1024 < L ∨ 4096 < K then 2 else if allIn M xs = false then 6 else tnsE L ts := by unfold stpE; rw [hL, hK]
  rw [hL] at lx HX ⊢
  rw [hK] at lt HT ⊢
  have HL := Lib.hid hL; have HK := Lib.hid hK
  clear hL hK
  by_cases h1 : 1024 < L
  · have E := Lib.hid (show stpE M xs ts = 2 by rw [hst, if_pos (.inl h1)])
    clear hst
    go_enter Tryd.func59, Tryd.ntmps59
    go_wp2
    go_ret2
    rw [E.out]
    exact ⟨Upd.refl _ _, .inl ⟨by decide, rfl⟩⟩
  by_cases h2 : 4096 < K
  · have E := Lib.hid (show stpE M xs ts = 2 by rw [hst, if_pos (.inr h2)])
    clear hst
    go_enter Tryd.func59, Tryd.ntmps59
    go_wp2
    go_ret2
    rw [E.out]
    exact ⟨Upd.refl _ _, .inl ⟨by decide, rfl⟩⟩
  rw [if_neg (by omega)] at hst
  have HA := Lib.hid (areWithin_any M _ xs w hM hM2 HX.out)
  cases hall : allIn M xs with
  | false =>
    have E := Lib.hid (show stpE M xs ts = 6 by rw [hst, if_pos hall])
    rw [hall] at HA
    clear hst hall
    go_enter Tryd.func59, Tryd.ntmps59
    go_wp2_with fail
    (with_reducible refine HA.out.mono ?_)
    rintro e w' ⟨rfl, rfl⟩
    go_wp2
    go_ret2
    rw [E.out]
    exact ⟨Upd.refl _ _, .inl ⟨by decide, rfl⟩⟩
  | true =>
    have E := Lib.hid (show stpE M xs ts = tnsE L ts by rw [hst, if_neg (by rw [hall]; decide)])
    rw [hall] at HA
    clear hst hall
    obtain ⟨c0, hc0, hmk⟩ := make_steps K (by omega) w
    go_enter Tryd.func59, Tryd.ntmps59
    go_wp2_with fail
    (with_reducible refine HA.out.mono ?_)
    rintro e w' ⟨rfl, rfl⟩
    go_wp2_with fail
    obtain ⟨g, hg⟩ : ∃ g, w'.heap.size = g := ⟨_, rfl⟩
    obtain ⟨W, hW⟩ : ∃ W, W = w'.alloc (.cells c0 70) := ⟨_, rfl⟩
    have hb : W.heap[g]? = some (.cells c0 70 (0, 0)) := by rw [hW, ← hg]; exact heap_alloc_new w' _
    have hu : Upd NoB w' W := by rw [hW]; exact (Upd.refl _ _).alloc _
    rw [← hW, hg]
    have HB := Lib.hid hb; have HU := Lib.hid hu; have HC0 := Lib.hid hc0; have HG := Lib.hid hg
    clear hb hu hc0 hW hg hmk
    go_loopw [30] (fun iv wr => ∃ k : Nat, iv = .int .i64 k ∧ k ≤ K ∧ Upd NoB w' wr ∧ (∀ (j : Nat) (t : Tn), j < k → ts[j]? = some t → tnE L t = 0) ∧ ∃ c : Array Value, wr.heap[g]? = some (.cells c 70 (0, 0)) ∧ c.size = K * 5 ∧ ∀ (j : Nat) (t : Tn), j < k → ts[j]? = some t → SpIn c (j * 5) t.sp) (fun iv _ => K - (intOf iv).toNat)
    case atStart => exact ⟨0, rfl, Nat.zero_le _, HU.out, fun j _ hj => by omega, c0, HB.out, HC0.out, fun j _ hj => by omega⟩
    case round =>
      obtain ⟨k, rfl, hk, hu, hz, c, hc, hcs, hsp⟩ := hrel
      have Hu := Lib.hid hu; have Hz := Lib.hid hz; have Hc := Lib.hid hc; have Hsp := Lib.hid hsp
      clear hu hz hc hsp
      by_cases hlt : k < K
      · obtain ⟨t, ht⟩ : ∃ t, ts[k]? = some t := ⟨_, List.getElem?_eq_getElem (by rw [HK.out]; exact hlt)⟩
        have HTk := HT.out.later Hu.out
        obtain ⟨_, a', cap', e', h3⟩ := HTk
        cases e'
        rcases h3 with h3 | ⟨b, off, rfl, h3⟩
        · rw [h3] at ht; simp at ht
        have tat := h3 k t ht
        obtain ⟨i, j, n, d⟩ := t
        obtain ⟨q0, q1, q2, q3⟩ := tat
        simp only at q0 q1 q2 q3
        have Ht := Lib.hid ht
        clear ht h3
        have HI := Lib.hid (fun w => isPlace_any xa L xcap i w (by omega))
        have HJ := Lib.hid (fun w => isPlace_any xa L xcap j w (by omega))
        have hD : (plB L ⟨i, j, n, d⟩ = false → stpE M xs ts = 1) := fun h => by
          have e : tnE L ⟨i, j, n, d⟩ = 1 := by unfold tnE; rw [h]; rfl
          rw [E.out, tnsE_take Ht.out Hz.out (by rw [e]; decide), e]
        have HD := Lib.hid hD; clear hD
        have pl : plB L ⟨i, j, n, d⟩ = (decide (0 ≤ i ∧ i < (L : Int)) && decide (0 ≤ j ∧ j < (L : Int)) && decide (i ≠ j)) := rfl
        obtain ⟨W4, hW4⟩ : ∃ W4, W4 = wr.alloc (.cells #[.int .i64 i, .int .i64 j, .int .i64 n, .int .i64 d] 60) := ⟨_, rfl⟩
        have b4 : W4.heap[wr.heap.size]? = some (.cells #[.int .i64 i, .int .i64 j, .int .i64 n, .int .i64 d] 60 (0, 0)) := by rw [hW4]; exact heap_alloc_new wr _
        have u4 : Upd NoB wr W4 := by rw [hW4]; exact (Upd.refl _ _).alloc _
        have k0 : W4.cell? ⟨wr.heap.size, 0, none⟩ = some (.int .i64 i) := by rw [blk_cell b4]; rfl
        have k1 : W4.cell? ⟨wr.heap.size, 1, none⟩ = some (.int .i64 j) := by rw [blk_cell b4]; rfl
        have k2 : W4.cell? ⟨wr.heap.size, 2, none⟩ = some (.int .i64 n) := by rw [blk_cell b4]; rfl
        have k3 : W4.cell? ⟨wr.heap.size, 3, none⟩ = some (.int .i64 d) := by rw [blk_cell b4]; rfl
        have U4 := Lib.hid (Hu.out.then u4)
        have HW4 := Lib.hid hW4; have B4 := Lib.hid b4; have Hc4 := Lib.hid (u4.heap Hc.out (noB _))
        clear hW4 b4 u4
        cases b1 : decide (0 ≤ i ∧ i < (L : Int)) with
        | false =>
          have D := Lib.hid (HD.out (by rw [pl, b1]; rfl))
          rw [b1] at HI
          clear pl b1 HD
          go_wp2_with fail
          rw [← HW4.out]
          (with_reducible refine (HI.out _).mono ?_)
          rintro e w2 ⟨rfl, rfl⟩
          go_wp2
          go_ret2
          exact ⟨U4.out, .inl ⟨by rw [D.out]; decide, by rw [D.out]; rfl⟩⟩
        | true =>
          rw [b1] at HI
          cases b2 : decide (0 ≤ j ∧ j < (L : Int)) with
          | false =>
            have D := Lib.hid (HD.out (by rw [pl, b1, b2]; rfl))
            rw [b2] at HJ
            clear pl b1 b2 HD
            go_wp2_with fail
            rw [← HW4.out]
            (with_reducible refine (HI.out _).mono ?_)
            rintro e w2 ⟨rfl, rfl⟩
            go_wp2_with fail
            (with_reducible refine (HJ.out _).mono ?_)
            rintro e w3 ⟨rfl, rfl⟩
            go_wp2
            go_ret2
            exact ⟨U4.out, .inl ⟨by rw [D.out]; decide, by rw [D.out]; rfl⟩⟩
          | true =>
            rw [b2] at HJ
            by_cases b3 : i = j
            · have D := Lib.hid (HD.out (by rw [pl, b1, b2, b3]; simp))
              have t3 : (i == j) = true := beq_iff_eq.2 b3
              clear pl b1 b2 HD b3
              go_wp2_with fail
              rw [← HW4.out]
              (with_reducible refine (HI.out _).mono ?_)
              rintro e w2 ⟨rfl, rfl⟩
              go_wp2_with fail
              (with_reducible refine (HJ.out _).mono ?_)
              rintro e w3 ⟨rfl, rfl⟩
              go_wp2
              go_ret2
              exact ⟨U4.out, .inl ⟨by rw [D.out]; decide, by rw [D.out]; rfl⟩⟩
            · have t3 : (i == j) = false := beq_eq_false_iff_ne.2 b3
              have P := Lib.hid (show plB L ⟨i, j, n, d⟩ = true by rw [pl, b1, b2]; simpa using b3)
              clear pl b1 b2 HD b3
              have HTB := Lib.hid (turnBy_any n d W4 (HP.out.upd U4.out (noB _)))
              by_cases hE : turE n d = 0
              · have TE := Lib.hid (show tnE L ⟨i, j, n, d⟩ = 0 by unfold tnE; rw [P.out]; exact hE)
                obtain ⟨e1, e2, e3⟩ := tb_ok hE
                rw [e1, e2, e3, hE] at HTB
                have SP := Lib.hid (show Tn.sp ⟨i, j, n, d⟩ = ⟨turQ n d, turA n d, turB n d, i, j⟩ from rfl)
                obtain ⟨Q, eQ⟩ : ∃ Q, turQ n d = Q := ⟨_, rfl⟩
                obtain ⟨A, eA⟩ : ∃ A, turA n d = A := ⟨_, rfl⟩
                obtain ⟨B, eB⟩ : ∃ B, turB n d = B := ⟨_, rfl⟩
                rw [eQ, eA, eB] at HTB SP
                clear e1 e2 e3 hE eQ eA eB
                go_wp2_with fail
                rw [← HW4.out]
                (with_reducible refine (HI.out _).mono ?_)
                rintro e w2 ⟨rfl, rfl⟩
                go_wp2_with fail
                (with_reducible refine (HJ.out _).mono ?_)
                rintro e w3 ⟨rfl, rfl⟩
                go_wp2_with fail
                (with_reducible refine HTB.out.mono ?_)
                rintro e w5 ⟨rfl, u5⟩
                obtain ⟨W6, hW6⟩ : ∃ W6, W6 = w5.alloc (.cells #[.int .i64 Q, .int .i64 A, .int .i64 B] 52) := ⟨_, rfl⟩
                have u6 : Upd NoB w5 W6 := by rw [hW6]; exact (Upd.refl _ _).alloc _
                have b6 : W6.heap[w5.heap.size]? = some (.cells #[.int .i64 Q, .int .i64 A, .int .i64 B] 52 (0, 0)) := by rw [hW6]; exact heap_alloc_new w5 _
                obtain ⟨m0, m1, m2⟩ := cells3 b6
                have b4' := (u5.then u6).heap B4.out (noB _)
                have k0 : W6.cell? ⟨wr.heap.size, 0, none⟩ = some (.int .i64 i) := by rw [blk_cell b4']; rfl
                have k1 : W6.cell? ⟨wr.heap.size, 1, none⟩ = some (.int .i64 j) := by rw [blk_cell b4']; rfl
                have hcg := (u5.then u6).heap Hc4.out (noB _)
                have fr := fun i => blk_free hcg i
                have cl := fun i (h : i < c.size) => (blk_cell hcg i).trans (Array.getElem?_eq_getElem h)
                have g0 := cl (k * 5) (by omega)
                have g1 := cl (k * 5 + 1) (by omega)
                have g2 := cl (k * 5 + 2) (by omega)
                have g3 := cl (k * 5 + 3) (by omega)
                have g4 := cl (k * 5 + 4) (by omega)
                have f0 := fr (k * 5)
                have f1 := fr (k * 5 + 1)
                have f2 := fr (k * 5 + 2)
                have f3 := fr (k * 5 + 3)
                have f4 := fr (k * 5 + 4)
                generalize c[k * 5]'(by omega) = o0 at g0
                generalize c[k * 5 + 1]'(by omega) = o1 at g1
                generalize c[k * 5 + 2]'(by omega) = o2 at g2
                generalize c[k * 5 + 3]'(by omega) = o3 at g3
                generalize c[k * 5 + 4]'(by omega) = o4 at g4
                have U6 := Lib.hid (U4.out.then (u5.then u6)); have HW6 := Lib.hid hW6; have HCG := Lib.hid hcg
                rw [hW6] at k0 k1 m0 m1 m2 g0 g1 g2 g3 g4 f0 f1 f2 f3 f4
                clear u5 u6 b6 b4' hcg fr cl hW6
                go_wp2_with fail
                rw [← HW6.out]
                have nog : g < w'.heap.size → NoB g := fun h => by have := HG.out; omega
                obtain ⟨s0, s1, s2, s3, s4, s5, s6⟩ := get_set5 c (k * 5) (.int .i64 Q) (.int .i64 A) (.int .i64 B) (.int .i64 i) (.int .i64 j) (by omega)
                refine ⟨⟨k + 1, by go_num, by omega, ((((U6.out.setCell _ nog).setCell _ nog).setCell _ nog).setCell _ nog).setCell _ nog, fun j' t hj ht => ?_, _, block_set (block_set (block_set (block_set (block_set HCG.out _) _) _) _) _, by rw [s0]; exact hcs, fun j' t hj ht => ?_⟩, by simp [intOf]; omega⟩
                · rcases Nat.lt_or_ge j' k with h | h
                  · exact Hz.out j' t h ht
                  · obtain rfl : j' = k := by omega
                    rw [Ht.out] at ht
                    cases ht
                    exact TE.out
                · rcases Nat.lt_or_ge j' k with h | h
                  · obtain ⟨p0, p1, p2, p3, p4⟩ := Hsp.out j' t h ht
                    exact ⟨by rw [s6 _ (.inl (by omega))]; exact p0, by rw [s6 _ (.inl (by omega))]; exact p1, by rw [s6 _ (.inl (by omega))]; exact p2, by rw [s6 _ (.inl (by omega))]; exact p3, by rw [s6 _ (.inl (by omega))]; exact p4⟩
                  · obtain rfl : j' = k := by omega
                    rw [Ht.out] at ht
                    cases ht
                    rw [SP.out]
                    exact ⟨s1, s2, s3, s4, s5⟩
              · have D := Lib.hid (show stpE M xs ts = turE n d by
                  have e : tnE L ⟨i, j, n, d⟩ = turE n d := by unfold tnE; rw [P.out]; rfl
                  rw [E.out, tnsE_take Ht.out Hz.out (by rw [e]; exact hE), e])
                obtain ⟨e1, e2, e3⟩ := tb_no hE
                rw [e1, e2, e3] at HTB
                have HE := Lib.hid hE
                have t4 : (turE n d != 0) = true := by simpa using hE
                clear e1 e2 e3 hE
                go_wp2_with fail
                rw [← HW4.out]
                (with_reducible refine (HI.out _).mono ?_)
                rintro e w2 ⟨rfl, rfl⟩
                go_wp2_with fail
                (with_reducible refine (HJ.out _).mono ?_)
                rintro e w3 ⟨rfl, rfl⟩
                go_wp2_with fail
                (with_reducible refine HTB.out.mono ?_)
                rintro e w5 ⟨rfl, u5⟩
                have U5 := Lib.hid (U4.out.then u5); clear u5
                go_wp2
                go_ret2
                exact ⟨U5.out.alloc _, .inl ⟨by rw [D.out]; exact HE.out, by rw [D.out]; rfl⟩⟩
      · obtain rfl : k = ts.length := by have := HK.out; omega
        have Z := Lib.hid (show stpE M xs ts = 0 by rw [E.out]; exact tnsE_all (fun k t hk => Hz.out k t (List.getElem?_eq_some_iff.1 hk).1 hk))
        go_wp2
        go_ret2
        refine ⟨Hu.out, .inr ⟨Z.out, g, rfl, ⟨c, Hc.out, fun k s hs => ?_⟩, by rw [HG.out]; exact Nat.le_refl _⟩⟩
        rw [List.getElem?_map] at hs
        cases ht : ts[k]? with
        | none => rw [ht] at hs; cases hs
        | some t =>
          rw [ht] at hs
          cases hs
          exact Hsp.out k t (List.getElem?_eq_some_iff.1 ht).1 ht
end Go.Proofs.YtpmhioaoniijbaaDoor
