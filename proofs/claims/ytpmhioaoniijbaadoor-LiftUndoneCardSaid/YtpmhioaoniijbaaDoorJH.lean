/- one step of a list -/
import Derived.Test.YtpmhioaoniijbaaDoorJG
import Derived.BigRegion
import Derived.RegionTactic
namespace Go.Proofs.YtpmhioaoniijbaaDoor
open Go.RowKit Go.Shelf

/-- The row v of the call's own holds xs, all of it beyond B. -/
def stepL (f : Nat → Int → Int → Int × Int → Int × Int) (s : Sp) (xs : List Int) : List Int :=
  ((xs.set s.i.toNat (f s.q s.A s.B (xs.getD s.i.toNat 0, xs.getD s.j.toNat 0)).1).set s.j.toNat (f s.q s.A s.B (xs.getD s.i.toNat 0, xs.getD s.j.toNat 0)).2)
def SpOk (L : Nat) (s : Sp) : Prop := s.q ≤ 4 ∧ -16384 ≤ s.A ∧ s.A ≤ 16384 ∧ -16384 ≤ s.B ∧ s.B ≤ 16384 ∧ 0 ≤ s.i ∧ s.i < L ∧ 0 ≤ s.j ∧ s.j < L ∧ s.i ≠ s.j
/-- A row that the call made: block b, integers xs. -/
def OwnR (w : World) (b cap : Nat) (xs : List Int) : Prop := ∃ c : Array Value, w.heap[b]? = some (.cells c 3 (0, 0)) ∧ (xs.length ≤ c.size ∧ c.size = cap) ∧ ∀ (k : Nat) (x : Int), xs[k]? = some x → c[k]? = some (.int .i64 x)
theorem OwnR.upd {S : Nat → Prop} {w w' : World} {b cap : Nat} {xs : List Int} (h : OwnR w b cap xs) (u : Upd S w w') (hs : ¬ S b) : OwnR w' b cap xs := by
  obtain ⟨c, hc, h⟩ := h
  exact ⟨c, u.heap hc hs, h⟩
theorem OwnR.cell {w : World} {b cap : Nat} {xs : List Int} (h : OwnR w b cap xs) {k : Nat} (hk : k < xs.length) : w.cell? ⟨b, k, none⟩ = some (.int .i64 (xs.getD k 0)) ∧ w.frozen? ⟨b, k, none⟩ = false := by
  obtain ⟨c, hc, hl, h⟩ := h
  refine ⟨?_, blk_free hc k⟩
  rw [blk_cell hc k, List.getD_eq_getElem?_getD, List.getElem?_eq_getElem hk]
  exact h k _ (List.getElem?_eq_getElem hk)
theorem OwnR.set {w : World} {b cap : Nat} {xs : List Int} (h : OwnR w b cap xs) (k : Nat) (hk : k < xs.length) (x : Int) : OwnR (w.setCell ⟨b, k, none⟩ (.int .i64 x)) b cap (xs.set k x) := by
  obtain ⟨c, hc, hl, h⟩ := h
  refine ⟨_, block_set hc _, ⟨by simp; exact hl.1, by simp; exact hl.2⟩, fun j y hj => ?_⟩
  rw [Array.getElem?_setIfInBounds]
  rw [List.getElem?_set] at hj
  by_cases e : k = j
  · subst e
    rw [if_pos rfl, if_pos (by omega)]
    rw [if_pos rfl, if_pos hk] at hj
    rw [← Option.some.inj hj]
  · rw [if_neg e]
    rw [if_neg e] at hj
    exact h j y hj
theorem OwnR.of {w : World} {base b cap : Nat} {xs : List Int} (h : w.ownsRow base 3 1 (.slice (some ⟨b, 0, none⟩) xs.length cap) xs.length (i64s xs)) : OwnR w b cap xs ∧ base ≤ b ∧ cap ≤ maxLen := by
  rcases h.2 with ⟨h', _⟩ | ⟨g', cap', cur, h', hb, hg, hnc, hcm, hcs, htake⟩
  · simp at h'
  · simp only [Value.slice.injEq, Option.some.injEq, Addr.mk.injEq, and_true, true_and] at h'
    obtain ⟨rfl, rfl⟩ := h'
    refine ⟨⟨cur, hg, ⟨by omega, by omega⟩, fun k x hk => ?_⟩, hb, hcm⟩
    have hkl := (List.getElem?_eq_some_iff.1 hk).1
    have e : (i64s xs)[k]? = some (.int .i64 x) := by rw [i64s_get, hk]; rfl
    rw [← htake, List.getElem?_take] at e
    simp at e
    exact e.2
theorem OwnR.row {w : World} {base b cap : Nat} {xs : List Int} (h : OwnR w b cap xs) (hb : base ≤ b) (hc : cap ≤ maxLen) : w.ownsRow base 3 1 (.slice (some ⟨b, 0, none⟩) xs.length cap) xs.length (i64s xs) := by
  obtain ⟨c, hg, ⟨hl, hcs⟩, h⟩ := h
  refine ⟨by simp [i64s_length], .inr ⟨b, cap, c, rfl, hb, hg, by omega, hc, by omega, ?_⟩⟩
  refine List.ext_getElem? fun k => ?_
  rw [List.getElem?_take, i64s_get]
  by_cases hk : k < xs.length
  · have hx : xs[k]? = some xs[k] := List.getElem?_eq_getElem hk
    rw [hx]
    have := h k _ hx
    simp [hk, this]
  · rw [List.getElem?_eq_none (by omega : xs.length ≤ k)]
    simp; omega
theorem cells5 {w : World} {b : Nat} {u v x y z : Value} {t : TypeId} (h : w.heap[b]? = some (.cells #[u, v, x, y, z] t (0, 0))) : w.cell? ⟨b, 0, none⟩ = some u ∧ w.cell? ⟨b, 1, none⟩ = some v ∧ w.cell? ⟨b, 2, none⟩ = some x ∧ w.cell? ⟨b, 3, none⟩ = some y ∧ w.cell? ⟨b, 4, none⟩ = some z := by simp [World.cell?, h]
set_option maxRecDepth 100000 in
set_option maxHeartbeats 2000000 in
theorem moveF_any (q : Nat) (A B : Int) (i j : Nat) (b : Nat) (cap : Nat) (xs : List Int) (w : World) (hs : SpOk xs.length ⟨q, A, B, i, j⟩) (hx : OwnR w b cap xs) (hl : xs.length ≤ 1024) (hv : ∀ (k : Nat) (x : Int), xs[k]? = some x → -137438953472 ≤ x ∧ x ≤ 137438953472) :
    Calls Tryd.prog 62 #[.agg #[.int .i64 q, .int .i64 A, .int .i64 B, .int .i64 i, .int .i64 j], .slice (some ⟨b, 0, none⟩) xs.length cap, .func (.func 52) #[.agg #[.int .i64 q, .int .i64 A, .int .i64 B]] #[]] w fun e w' =>
      e = .returned (.tuple #[]) ∧ OwnR w' b cap (stepL forthF ⟨q, A, B, i, j⟩ xs) ∧ Upd (fun k => k = b) w w' := by
  obtain ⟨hq, a1, a2, b1, b2, i0, i1, j0, j1, hij⟩ := hs
  simp only at hq a1 a2 b1 b2 i0 i1 j0 j1 hij
  have hi : i < xs.length := by omega
  have hj : j < xs.length := by omega
  obtain ⟨W, hW⟩ : ∃ W, W = w.alloc (.cells #[.int .i64 q, .int .i64 A, .int .i64 B, .int .i64 i, .int .i64 j] 70) := ⟨_, rfl⟩
  have bW : W.heap[w.heap.size]? = some (.cells #[.int .i64 q, .int .i64 A, .int .i64 B, .int .i64 i, .int .i64 j] 70 (0, 0)) := by rw [hW]; exact heap_alloc_new w _
  have uW : Upd NoB w W := by rw [hW]; exact (Upd.refl _ _).alloc _
  obtain ⟨_, _, _, k3, k4⟩ := cells5 bW
  have hbw : b < w.heap.size := by obtain ⟨c, hc, _⟩ := hx; exact lt_of_block hc
  have hbW := uW.size
  have oW := hx.upd uW (noB _)
  have x0 := (oW.cell hi).1
  have x1 := (oW.cell hj).1
  have hX : -137438953472 ≤ xs.getD i 0 ∧ xs.getD i 0 ≤ 137438953472 := hv i _ (by rw [List.getD_eq_getElem?_getD, List.getElem?_eq_getElem hi]; rfl)
  have hY : -137438953472 ≤ xs.getD j 0 ∧ xs.getD j 0 ≤ 137438953472 := hv j _ (by rw [List.getD_eq_getElem?_getD, List.getElem?_eq_getElem hj]; rfl)
  obtain ⟨X, eX⟩ : ∃ X, xs.getD i 0 = X := ⟨_, rfl⟩
  obtain ⟨Y, eY⟩ : ∃ Y, xs.getD j 0 = Y := ⟨_, rfl⟩
  rw [eX] at x0 hX
  rw [eY] at x1 hY
  have HF := Lib.hid (fun w => forth_any q A B X Y w hq a1 a2 b1 b2 ⟨hX.1, hX.2, hY.1, hY.2⟩)
  have HS := Lib.hid (show stepL forthF ⟨q, A, B, i, j⟩ xs = (xs.set i (forthF q A B (X, Y)).1).set j (forthF q A B (X, Y)).2 by unfold stepL; simp only [Int.toNat_natCast]; rw [eX, eY])
  obtain ⟨L, hL⟩ : ∃ L, xs.length = L := ⟨_, rfl⟩
  rw [hL] at hi hj hl ⊢
  have HL := Lib.hid hL; have HW := Lib.hid hW; have BW := Lib.hid bW; have UW := Lib.hid uW; have OW := Lib.hid oW
  have hne : i ≠ j := by omega
  clear hW bW uW oW hx hv eX eY hX hY a1 a2 b1 b2 i0 i1 j0 j1 hij hL
  go_enter Tryd.func62, Tryd.ntmps62
  go_wp2_with fail
  rw [← HW.out]
  have KS := Lib.hid (show ∀ Z : World, Upd NoB W Z → Z.cell? ⟨w.heap.size, 3, none⟩ = some (.int .i64 i) ∧ Z.cell? ⟨w.heap.size, 4, none⟩ = some (.int .i64 j) ∧ Z.cell? ⟨b, i, none⟩ = some (.int .i64 X) ∧ Z.cell? ⟨b, j, none⟩ = some (.int .i64 Y) from fun Z u => ⟨u.cell k3 (noB _), u.cell k4 (noB _), u.cell x0 (noB _), u.cell x1 (noB _)⟩)
  go_region_held3 (fun Z => Z.cell? ⟨w.heap.size, 3, none⟩ = some (.int .i64 i) ∧ Z.cell? ⟨w.heap.size, 4, none⟩ = some (.int .i64 j) ∧ Z.cell? ⟨b, i, none⟩ = some (.int .i64 X) ∧ Z.cell? ⟨b, j, none⟩ = some (.int .i64 Y)) (first | exact ⟨k3, k4, x0, x1⟩ | exact KS.out _ (by exact (Upd.refl NoB W).drew) | exact KS.out _ (by exact (Upd.refl NoB W).drew.alloc _) | exact KS.out _ (by exact TU.out) | exact KS.out _ (by exact TU.out.alloc _) | exact KS.out _ (by exact (TU.out.setCell _ (fun h => absurd h (Nat.lt_irrefl _))).setCell _ (fun h => absurd h (Nat.lt_irrefl _))) | go_keep)
    (first | (go_at_call 52; (with_reducible refine (HF.out W.drew).mono ?_); rintro e w2 ⟨rfl, u2⟩; have TU := Lib.hid (show Upd NoB W w2 from (Upd.refl NoB W).drew.then u2); clear u2) | (go_at_call 52; refine (HF.out _).mono ?_; rintro e w2 ⟨rfl, u2⟩; have n2 : w2.heap[W.heap.size]? = some (.cells #[.int .i64 0, .int .i64 0] 56 (0, 0)) := u2.heap (by first | exact heap_alloc_new W _ | exact heap_alloc_new W.drew _) (noB _); have n0 := cell_of_block0 n2; have n1 := cell_of_block1 n2; have fr0 := free_of_block n2 0; have fr1 := free_of_block n2 1; have TU := Lib.hid (show Upd NoB W w2 from by first | exact ((Upd.refl NoB W).drew.alloc _).then u2 | exact ((Upd.refl NoB W).alloc _).drew.then u2); have N2 := Lib.hid n2; clear u2 n2))
  · obtain ⟨U, eU⟩ : ∃ U, (forthF q A B (X, Y)).1 = U := ⟨_, rfl⟩
    obtain ⟨V, eV⟩ : ∃ V, (forthF q A B (X, Y)).2 = V := ⟨_, rfl⟩
    rw [eU, eV] at HS ⊢
    obtain ⟨Z, hZ⟩ : ∃ Z, Z = w2.alloc (.cells #[.int .i64 U, .int .i64 V] 56) := ⟨_, rfl⟩
    have hz : Z.heap[w2.heap.size]? = some (.cells #[.int .i64 U, .int .i64 V] 56 (0, 0)) := by rw [hZ]; exact heap_alloc_new w2 _
    have uz : Upd NoB W Z := by rw [hZ]; exact TU.out.alloc _
    rw [← hZ]
    clear hZ
    have EU := Lib.hid eU; have EV := Lib.hid eV; clear eU eV
    obtain ⟨k3, k4, x0, x1⟩ := KS.out Z uz
    obtain ⟨_, f0⟩ := (OW.out.upd uz (noB _)).cell (k := i) (by rw [HL.out]; exact hi)
    obtain ⟨_, f1⟩ := (OW.out.upd uz (noB _)).cell (k := j) (by rw [HL.out]; exact hj)
    have g0 := cell_of_block0 hz
    have g1 := cell_of_block1 hz
    have UZ := Lib.hid uz
    have keep : ∀ (v : Value) (P o : Nat) (u : Value), P ≠ b → Z.cell? ⟨P, o, none⟩ = some u → (Z.setCell ⟨b, i, none⟩ v).cell? ⟨P, o, none⟩ = some u := fun v P o u hP hc => (show Upd (fun k => k = b) Z (Z.setCell ⟨b, i, none⟩ v) from (Upd.refl _ _).setCell _ (fun _ => rfl)).cell hc hP
    have e3 := fun v => keep v _ _ _ (by omega) k3
    have e4 := fun v => keep v _ _ _ (by omega) k4
    have e0 := fun v => keep v _ _ _ (by have := TU.out.size; omega) g0
    have e1 := fun v => keep v _ _ _ (by have := TU.out.size; omega) g1
    clear keep
    have hji : ¬ j = i := fun h => hne h.symm
    have x1' : ∀ v, (Z.setCell ⟨b, i, none⟩ v).cell? ⟨b, j, none⟩ = some (.int .i64 Y) := fun v => by
      have ho := (OW.out.upd uz (noB _))
      obtain ⟨c, hc, hl, hcc⟩ := ho
      rw [blk_cell (block_set hc v) j, Array.getElem?_setIfInBounds, if_neg hne]
      rw [blk_cell hc j] at x1; exact x1
    have f1' : ∀ v, (Z.setCell ⟨b, i, none⟩ v).frozen? ⟨b, j, none⟩ = false := fun v => by
      obtain ⟨c, hc, hl, hcc⟩ := (OW.out.upd uz (noB _))
      exact blk_free (block_set hc v) j
    clear hz uz
    go_wp2_with fail
    go_region
    all_goals
      go_wp2
      go_end0
      refine ⟨rfl, ?_, (((UW.out.then UZ.out).mono (T := fun k => k = b) (fun _ _ h => h.elim)).setCell _ (fun _ => rfl)).setCell _ (fun _ => rfl) |>.drew⟩
      rw [HS.out]
      exact ((((OW.out.upd UZ.out (noB _)).set i (by rw [HL.out]; exact hi) U).set j (by rw [List.length_set, HL.out]; exact hj) V).upd (S := NoB) (Upd.refl _ _).drew (noB _))
  · obtain ⟨U, eU⟩ : ∃ U, (forthF q A B (X, Y)).1 = U := ⟨_, rfl⟩
    obtain ⟨V, eV⟩ : ∃ V, (forthF q A B (X, Y)).2 = V := ⟨_, rfl⟩
    rw [eU, eV] at HS ⊢
    obtain ⟨Z, hZ⟩ : ∃ Z, Z = (w2.setCell ⟨W.heap.size, 0, none⟩ (.int .i64 U)).setCell ⟨W.heap.size, 1, none⟩ (.int .i64 V) := ⟨_, rfl⟩
    have hz : Z.heap[W.heap.size]? = some (.cells #[.int .i64 U, .int .i64 V] 56 (0, 0)) := by rw [hZ]; exact block_set (block_set N2.out _) _
    have uz : Upd NoB W Z := by rw [hZ]; exact (TU.out.setCell _ (fun h => absurd h (Nat.lt_irrefl _))).setCell _ (fun h => absurd h (Nat.lt_irrefl _))
    rw [← hZ]
    clear hZ
    have EU := Lib.hid eU; have EV := Lib.hid eV; clear eU eV
    obtain ⟨k3, k4, x0, x1⟩ := KS.out Z uz
    obtain ⟨_, f0⟩ := (OW.out.upd uz (noB _)).cell (k := i) (by rw [HL.out]; exact hi)
    obtain ⟨_, f1⟩ := (OW.out.upd uz (noB _)).cell (k := j) (by rw [HL.out]; exact hj)
    have g0 := cell_of_block0 hz
    have g1 := cell_of_block1 hz
    have UZ := Lib.hid uz
    have keep : ∀ (v : Value) (P o : Nat) (u : Value), P ≠ b → Z.cell? ⟨P, o, none⟩ = some u → (Z.setCell ⟨b, i, none⟩ v).cell? ⟨P, o, none⟩ = some u := fun v P o u hP hc => (show Upd (fun k => k = b) Z (Z.setCell ⟨b, i, none⟩ v) from (Upd.refl _ _).setCell _ (fun _ => rfl)).cell hc hP
    have e3 := fun v => keep v _ _ _ (by omega) k3
    have e4 := fun v => keep v _ _ _ (by omega) k4
    have e0 := fun v => keep v _ _ _ (by have := TU.out.size; omega) g0
    have e1 := fun v => keep v _ _ _ (by have := TU.out.size; omega) g1
    clear keep
    have hji : ¬ j = i := fun h => hne h.symm
    have x1' : ∀ v, (Z.setCell ⟨b, i, none⟩ v).cell? ⟨b, j, none⟩ = some (.int .i64 Y) := fun v => by
      have ho := (OW.out.upd uz (noB _))
      obtain ⟨c, hc, hl, hcc⟩ := ho
      rw [blk_cell (block_set hc v) j, Array.getElem?_setIfInBounds, if_neg hne]
      rw [blk_cell hc j] at x1; exact x1
    have f1' : ∀ v, (Z.setCell ⟨b, i, none⟩ v).frozen? ⟨b, j, none⟩ = false := fun v => by
      obtain ⟨c, hc, hl, hcc⟩ := (OW.out.upd uz (noB _))
      exact blk_free (block_set hc v) j
    clear hz uz
    go_wp2_with fail
    go_region
    all_goals
      go_wp2
      go_end0
      refine ⟨rfl, ?_, (((UW.out.then UZ.out).mono (T := fun k => k = b) (fun _ _ h => h.elim)).setCell _ (fun _ => rfl)).setCell _ (fun _ => rfl) |>.drew⟩
      rw [HS.out]
      exact ((((OW.out.upd UZ.out (noB _)).set i (by rw [HL.out]; exact hi) U).set j (by rw [List.length_set, HL.out]; exact hj) V).upd (S := NoB) (Upd.refl _ _).drew (noB _))
set_option maxRecDepth 100000 in
set_option maxHeartbeats 2000000 in
theorem moveB_any (q : Nat) (A B : Int) (i j : Nat) (b : Nat) (cap : Nat) (xs : List Int) (w : World) (hs : SpOk xs.length ⟨q, A, B, i, j⟩) (hx : OwnR w b cap xs) (hl : xs.length ≤ 1024) (hv : ∀ (k : Nat) (x : Int), xs[k]? = some x → -137438953472 ≤ x ∧ x ≤ 137438953472) :
    Calls Tryd.prog 62 #[.agg #[.int .i64 q, .int .i64 A, .int .i64 B, .int .i64 i, .int .i64 j], .slice (some ⟨b, 0, none⟩) xs.length cap, .func (.func 56) #[.agg #[.int .i64 q, .int .i64 A, .int .i64 B]] #[]] w fun e w' =>
      e = .returned (.tuple #[]) ∧ OwnR w' b cap (stepL backF ⟨q, A, B, i, j⟩ xs) ∧ Upd (fun k => k = b) w w' := by
  obtain ⟨hq, a1, a2, b1, b2, i0, i1, j0, j1, hij⟩ := hs
  simp only at hq a1 a2 b1 b2 i0 i1 j0 j1 hij
  have hi : i < xs.length := by omega
  have hj : j < xs.length := by omega
  obtain ⟨W, hW⟩ : ∃ W, W = w.alloc (.cells #[.int .i64 q, .int .i64 A, .int .i64 B, .int .i64 i, .int .i64 j] 70) := ⟨_, rfl⟩
  have bW : W.heap[w.heap.size]? = some (.cells #[.int .i64 q, .int .i64 A, .int .i64 B, .int .i64 i, .int .i64 j] 70 (0, 0)) := by rw [hW]; exact heap_alloc_new w _
  have uW : Upd NoB w W := by rw [hW]; exact (Upd.refl _ _).alloc _
  obtain ⟨_, _, _, k3, k4⟩ := cells5 bW
  have hbw : b < w.heap.size := by obtain ⟨c, hc, _⟩ := hx; exact lt_of_block hc
  have hbW := uW.size
  have oW := hx.upd uW (noB _)
  have x0 := (oW.cell hi).1
  have x1 := (oW.cell hj).1
  have hX : -137438953472 ≤ xs.getD i 0 ∧ xs.getD i 0 ≤ 137438953472 := hv i _ (by rw [List.getD_eq_getElem?_getD, List.getElem?_eq_getElem hi]; rfl)
  have hY : -137438953472 ≤ xs.getD j 0 ∧ xs.getD j 0 ≤ 137438953472 := hv j _ (by rw [List.getD_eq_getElem?_getD, List.getElem?_eq_getElem hj]; rfl)
  obtain ⟨X, eX⟩ : ∃ X, xs.getD i 0 = X := ⟨_, rfl⟩
  obtain ⟨Y, eY⟩ : ∃ Y, xs.getD j 0 = Y := ⟨_, rfl⟩
  rw [eX] at x0 hX
  rw [eY] at x1 hY
  have HF := Lib.hid (fun w => back_any q A B X Y w hq a1 a2 b1 b2 ⟨hX.1, hX.2, hY.1, hY.2⟩)
  have HS := Lib.hid (show stepL backF ⟨q, A, B, i, j⟩ xs = (xs.set i (backF q A B (X, Y)).1).set j (backF q A B (X, Y)).2 by unfold stepL; simp only [Int.toNat_natCast]; rw [eX, eY])
  obtain ⟨L, hL⟩ : ∃ L, xs.length = L := ⟨_, rfl⟩
  rw [hL] at hi hj hl ⊢
  have HL := Lib.hid hL; have HW := Lib.hid hW; have BW := Lib.hid bW; have UW := Lib.hid uW; have OW := Lib.hid oW
  have hne : i ≠ j := by omega
  clear hW bW uW oW hx hv eX eY hX hY a1 a2 b1 b2 i0 i1 j0 j1 hij hL
  go_enter Tryd.func62, Tryd.ntmps62
  go_wp2_with fail
  rw [← HW.out]
  have KS := Lib.hid (show ∀ Z : World, Upd NoB W Z → Z.cell? ⟨w.heap.size, 3, none⟩ = some (.int .i64 i) ∧ Z.cell? ⟨w.heap.size, 4, none⟩ = some (.int .i64 j) ∧ Z.cell? ⟨b, i, none⟩ = some (.int .i64 X) ∧ Z.cell? ⟨b, j, none⟩ = some (.int .i64 Y) from fun Z u => ⟨u.cell k3 (noB _), u.cell k4 (noB _), u.cell x0 (noB _), u.cell x1 (noB _)⟩)
  go_region_held3 (fun Z => Z.cell? ⟨w.heap.size, 3, none⟩ = some (.int .i64 i) ∧ Z.cell? ⟨w.heap.size, 4, none⟩ = some (.int .i64 j) ∧ Z.cell? ⟨b, i, none⟩ = some (.int .i64 X) ∧ Z.cell? ⟨b, j, none⟩ = some (.int .i64 Y)) (first | exact ⟨k3, k4, x0, x1⟩ | exact KS.out _ (by exact (Upd.refl NoB W).drew) | exact KS.out _ (by exact (Upd.refl NoB W).drew.alloc _) | exact KS.out _ (by exact TU.out) | exact KS.out _ (by exact TU.out.alloc _) | exact KS.out _ (by exact (TU.out.setCell _ (fun h => absurd h (Nat.lt_irrefl _))).setCell _ (fun h => absurd h (Nat.lt_irrefl _))) | go_keep)
    (first | (go_at_call 56; (with_reducible refine (HF.out W.drew).mono ?_); rintro e w2 ⟨rfl, u2⟩; have TU := Lib.hid (show Upd NoB W w2 from (Upd.refl NoB W).drew.then u2); clear u2) | (go_at_call 56; refine (HF.out _).mono ?_; rintro e w2 ⟨rfl, u2⟩; have n2 : w2.heap[W.heap.size]? = some (.cells #[.int .i64 0, .int .i64 0] 56 (0, 0)) := u2.heap (by first | exact heap_alloc_new W _ | exact heap_alloc_new W.drew _) (noB _); have n0 := cell_of_block0 n2; have n1 := cell_of_block1 n2; have fr0 := free_of_block n2 0; have fr1 := free_of_block n2 1; have TU := Lib.hid (show Upd NoB W w2 from by first | exact ((Upd.refl NoB W).drew.alloc _).then u2 | exact ((Upd.refl NoB W).alloc _).drew.then u2); have N2 := Lib.hid n2; clear u2 n2))
  · obtain ⟨U, eU⟩ : ∃ U, (backF q A B (X, Y)).1 = U := ⟨_, rfl⟩
    obtain ⟨V, eV⟩ : ∃ V, (backF q A B (X, Y)).2 = V := ⟨_, rfl⟩
    rw [eU, eV] at HS ⊢
    obtain ⟨Z, hZ⟩ : ∃ Z, Z = w2.alloc (.cells #[.int .i64 U, .int .i64 V] 56) := ⟨_, rfl⟩
    have hz : Z.heap[w2.heap.size]? = some (.cells #[.int .i64 U, .int .i64 V] 56 (0, 0)) := by rw [hZ]; exact heap_alloc_new w2 _
    have uz : Upd NoB W Z := by rw [hZ]; exact TU.out.alloc _
    rw [← hZ]
    clear hZ
    have EU := Lib.hid eU; have EV := Lib.hid eV; clear eU eV
    obtain ⟨k3, k4, x0, x1⟩ := KS.out Z uz
    obtain ⟨_, f0⟩ := (OW.out.upd uz (noB _)).cell (k := i) (by rw [HL.out]; exact hi)
    obtain ⟨_, f1⟩ := (OW.out.upd uz (noB _)).cell (k := j) (by rw [HL.out]; exact hj)
    have g0 := cell_of_block0 hz
    have g1 := cell_of_block1 hz
    have UZ := Lib.hid uz
    have keep : ∀ (v : Value) (P o : Nat) (u : Value), P ≠ b → Z.cell? ⟨P, o, none⟩ = some u → (Z.setCell ⟨b, i, none⟩ v).cell? ⟨P, o, none⟩ = some u := fun v P o u hP hc => (show Upd (fun k => k = b) Z (Z.setCell ⟨b, i, none⟩ v) from (Upd.refl _ _).setCell _ (fun _ => rfl)).cell hc hP
    have e3 := fun v => keep v _ _ _ (by omega) k3
    have e4 := fun v => keep v _ _ _ (by omega) k4
    have e0 := fun v => keep v _ _ _ (by have := TU.out.size; omega) g0
    have e1 := fun v => keep v _ _ _ (by have := TU.out.size; omega) g1
    clear keep
    have hji : ¬ j = i := fun h => hne h.symm
    have x1' : ∀ v, (Z.setCell ⟨b, i, none⟩ v).cell? ⟨b, j, none⟩ = some (.int .i64 Y) := fun v => by
      have ho := (OW.out.upd uz (noB _))
      obtain ⟨c, hc, hl, hcc⟩ := ho
      rw [blk_cell (block_set hc v) j, Array.getElem?_setIfInBounds, if_neg hne]
      rw [blk_cell hc j] at x1; exact x1
    have f1' : ∀ v, (Z.setCell ⟨b, i, none⟩ v).frozen? ⟨b, j, none⟩ = false := fun v => by
      obtain ⟨c, hc, hl, hcc⟩ := (OW.out.upd uz (noB _))
      exact blk_free (block_set hc v) j
    clear hz uz
    go_wp2_with fail
    go_region
    all_goals
      go_wp2
      go_end0
      refine ⟨rfl, ?_, (((UW.out.then UZ.out).mono (T := fun k => k = b) (fun _ _ h => h.elim)).setCell _ (fun _ => rfl)).setCell _ (fun _ => rfl) |>.drew⟩
      rw [HS.out]
      exact ((((OW.out.upd UZ.out (noB _)).set i (by rw [HL.out]; exact hi) U).set j (by rw [List.length_set, HL.out]; exact hj) V).upd (S := NoB) (Upd.refl _ _).drew (noB _))
  · obtain ⟨U, eU⟩ : ∃ U, (backF q A B (X, Y)).1 = U := ⟨_, rfl⟩
    obtain ⟨V, eV⟩ : ∃ V, (backF q A B (X, Y)).2 = V := ⟨_, rfl⟩
    rw [eU, eV] at HS ⊢
    obtain ⟨Z, hZ⟩ : ∃ Z, Z = (w2.setCell ⟨W.heap.size, 0, none⟩ (.int .i64 U)).setCell ⟨W.heap.size, 1, none⟩ (.int .i64 V) := ⟨_, rfl⟩
    have hz : Z.heap[W.heap.size]? = some (.cells #[.int .i64 U, .int .i64 V] 56 (0, 0)) := by rw [hZ]; exact block_set (block_set N2.out _) _
    have uz : Upd NoB W Z := by rw [hZ]; exact (TU.out.setCell _ (fun h => absurd h (Nat.lt_irrefl _))).setCell _ (fun h => absurd h (Nat.lt_irrefl _))
    rw [← hZ]
    clear hZ
    have EU := Lib.hid eU; have EV := Lib.hid eV; clear eU eV
    obtain ⟨k3, k4, x0, x1⟩ := KS.out Z uz
    obtain ⟨_, f0⟩ := (OW.out.upd uz (noB _)).cell (k := i) (by rw [HL.out]; exact hi)
    obtain ⟨_, f1⟩ := (OW.out.upd uz (noB _)).cell (k := j) (by rw [HL.out]; exact hj)
    have g0 := cell_of_block0 hz
    have g1 := cell_of_block1 hz
    have UZ := Lib.hid uz
    have keep : ∀ (v : Value) (P o : Nat) (u : Value), P ≠ b → Z.cell? ⟨P, o, none⟩ = some u → (Z.setCell ⟨b, i, none⟩ v).cell? ⟨P, o, none⟩ = some u := fun v P o u hP hc => (show Upd (fun k => k = b) Z (Z.setCell ⟨b, i, none⟩ v) from (Upd.refl _ _).setCell _ (fun _ => rfl)).cell hc hP
    have e3 := fun v => keep v _ _ _ (by omega) k3
    have e4 := fun v => keep v _ _ _ (by omega) k4
    have e0 := fun v => keep v _ _ _ (by have := TU.out.size; omega) g0
    have e1 := fun v => keep v _ _ _ (by have := TU.out.size; omega) g1
    clear keep
    have hji : ¬ j = i := fun h => hne h.symm
    have x1' : ∀ v, (Z.setCell ⟨b, i, none⟩ v).cell? ⟨b, j, none⟩ = some (.int .i64 Y) := fun v => by
      have ho := (OW.out.upd uz (noB _))
      obtain ⟨c, hc, hl, hcc⟩ := ho
      rw [blk_cell (block_set hc v) j, Array.getElem?_setIfInBounds, if_neg hne]
      rw [blk_cell hc j] at x1; exact x1
    have f1' : ∀ v, (Z.setCell ⟨b, i, none⟩ v).frozen? ⟨b, j, none⟩ = false := fun v => by
      obtain ⟨c, hc, hl, hcc⟩ := (OW.out.upd uz (noB _))
      exact blk_free (block_set hc v) j
    clear hz uz
    go_wp2_with fail
    go_region
    all_goals
      go_wp2
      go_end0
      refine ⟨rfl, ?_, (((UW.out.then UZ.out).mono (T := fun k => k = b) (fun _ _ h => h.elim)).setCell _ (fun _ => rfl)).setCell _ (fun _ => rfl) |>.drew⟩
      rw [HS.out]
      exact ((((OW.out.upd UZ.out (noB _)).set i (by rw [HL.out]; exact hi) U).set j (by rw [List.length_set, HL.out]; exact hj) V).upd (S := NoB) (Upd.refl _ _).drew (noB _))
end Go.Proofs.YtpmhioaoniijbaaDoor
