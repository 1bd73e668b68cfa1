/- linear: reflected -/
import Derived.Test.YtopjjdfnnjgnlaaTM
namespace Go.Proofs.Ytopjjdfnnjgnlaa
open Go.RowKit Go.Shelf

theorem rfU_at {u v : List Int} {k : Int} {i : Nat} (h : i < u.length - 1) : (rfU u v k).take (i + 1) = (rfU u v k).take i ++ [u.getD (i + 1) 0 + rnd (k * v.getD (i + 1) 0) 128] := by
  have e : (rfU u v k)[i]? = some (u.getD (i + 1) 0 + rnd (k * v.getD (i + 1) 0) 128) := by unfold rfU; rw [List.getElem?_map, List.getElem?_range h]; rfl
  rw [List.take_add_one, e]; rfl
theorem rfV_at {u v : List Int} {k : Int} {i : Nat} (h : i < u.length - 1) : (rfV u v k).take (i + 1) = (rfV u v k).take i ++ [v.getD i 0 + rnd (k * u.getD i 0) 128] := by
  have e : (rfV u v k)[i]? = some (v.getD i 0 + rnd (k * u.getD i 0) 128) := by unfold rfV; rw [List.getElem?_map, List.getElem?_range h]; rfl
  rw [List.take_add_one, e]; rfl
theorem getD_of {xs : List Int} {j : Nat} (h : j < xs.length) : xs[j]? = some (xs.getD j 0) := by
  rw [List.getD_eq_getElem?_getD, List.getElem?_eq_getElem h]; rfl
theorem next_facts {p p1 L : Nat} (h : p + 1 < L) (hL : L ≤ 100) (e : p + 1 = p1) : (p : Int) + 1 = (p1 : Int) ∧ wrap64 ((p : Int) + 1) = (p1 : Int) ∧ IntKind.i64.wrap ((p : Int) + 1) = (p1 : Int) ∧ (p1 : Int) < (L : Int) ∧ p1 < L ∧ (p : Int) < (L : Int) ∧ p < L ∧ wrap64 (p1 : Int) = (p1 : Int) ∧ IntKind.i64.wrap (p1 : Int) = (p1 : Int) := by
  have i1 : (p : Int) + 1 = (p1 : Int) := by omega
  refine ⟨i1, ?_, ?_, by omega, by omega, by omega, by omega, IntWalk.wrap64_in _ (by omega), IntWalk.i64_in _ (by omega)⟩
  · rw [IntWalk.wrap64_in _ (by omega)]; exact i1
  · rw [IntWalk.i64_in _ (by omega)]; exact i1
theorem grow_one {w wr w6 : World} {g c n : Nat} {xs ys : List Int} {q : Int} {xv yv : Value} (hx : wr.ownsRow w.heap.size 3 1 xv n (i64s xs)) (hy : wr.ownsRow w.heap.size 3 1 yv n (i64s ys)) (hd : ∀ j, xv.ownBlock = some j → yv.ownBlock = some j → False) (hu : Upd NoB w wr)
    (ho : w6.ownsRow w.heap.size 3 1 (.slice (some ⟨g, 0, none⟩) (n + 1) c) (n + 1) (i64s xs ++ [.int .i64 q])) (hg : (wr.drew.alloc (.cells #[.int .i64 q] 3)).grownBy w6 xv.ownBlock) (hat : xv.ownBlock = some g ∨ g = (wr.drew.alloc (.cells #[.int .i64 q] 3)).heap.size) :
    w6.ownsRow w.heap.size 3 1 (.slice (some ⟨g, 0, none⟩) (n + 1) c) (n + 1) (i64s xs ++ [.int .i64 q]) ∧ Upd NoB w w6 ∧ w6.ownsRow w.heap.size 3 1 yv n (i64s ys) ∧ (∀ j, (Value.slice (some ⟨g, 0, none⟩) (n + 1) c).ownBlock = some j → yv.ownBlock = some j → False) ∧ w.heap.size ≤ w6.heap.size := by
  have u1 : Upd NoB wr (wr.drew.alloc (.cells #[.int .i64 q] 3)) := (Upd.refl _ _).drew.alloc _
  have u2 : Upd (fun k => xv.ownBlock = some k) wr w6 := (u1.mono (T := fun k => xv.ownBlock = some k) (fun _ _ h => h.elim)).grown hg (fun k hk _ => hk)
  have u3 : Upd NoB w w6 := hu.trans u2 (fun j hj e => absurd hj (Nat.not_lt.2 (hx.lt j e).1))
  refine ⟨ho, u3, u2.row hy (fun j hj e => hd j e hj), fun j hj hyj => ?_, u3.size⟩
  have e : g = j := by simpa [Value.ownBlock] using hj
  subst e
  rcases hat with h | h
  · exact hd _ h hyj
  · have h1 := (hy.lt _ hyj).2
    have h2 := u1.size
    omega
theorem grow_two {w wr w6 : World} {g c n m : Nat} {xs : List Int} {ys : List Value} {q : Int} {xv yv : Value} (hx : wr.ownsRow w.heap.size 3 1 xv n (i64s xs)) (hy : wr.ownsRow w.heap.size 3 1 yv m ys) (hd : ∀ j, xv.ownBlock = some j → yv.ownBlock = some j → False) (hu : Upd NoB w wr)
    (ho : w6.ownsRow w.heap.size 3 1 (.slice (some ⟨g, 0, none⟩) (n + 1) c) (n + 1) (i64s xs ++ [.int .i64 q])) (hg : (wr.drew.alloc (.cells #[.int .i64 q] 3)).grownBy w6 xv.ownBlock) (hat : xv.ownBlock = some g ∨ g = (wr.drew.alloc (.cells #[.int .i64 q] 3)).heap.size) :
    w6.ownsRow w.heap.size 3 1 yv m ys ∧ w6.ownsRow w.heap.size 3 1 (.slice (some ⟨g, 0, none⟩) (n + 1) c) (n + 1) (i64s xs ++ [.int .i64 q]) ∧ (∀ j, yv.ownBlock = some j → (Value.slice (some ⟨g, 0, none⟩) (n + 1) c).ownBlock = some j → False) ∧ Upd NoB w w6 := by
  have u1 : Upd NoB wr (wr.drew.alloc (.cells #[.int .i64 q] 3)) := (Upd.refl _ _).drew.alloc _
  have u2 : Upd (fun k => xv.ownBlock = some k) wr w6 := (u1.mono (T := fun k => xv.ownBlock = some k) (fun _ _ h => h.elim)).grown hg (fun k hk _ => hk)
  have u3 : Upd NoB w w6 := hu.trans u2 (fun j hj e => absurd hj (Nat.not_lt.2 (hx.lt j e).1))
  refine ⟨u2.row hy (fun j hj e => hd j e hj), ho, fun j hyj hj => ?_, u3⟩
  have e : g = j := by simpa [Value.ownBlock] using hj
  subst e
  rcases hat with h | h
  · exact hd _ h hyj
  · have h1 := (hy.lt _ hyj).2
    have h2 := u1.size
    omega
/-- What reflected answers: two rows of its own. -/
def Two (w : World) (xs ys : List Int) (e : Ending) (w' : World) : Prop := ∃ a c a' c', e = .returned (.tuple #[.slice a xs.length c, .slice a' ys.length c']) ∧ w'.ownsRow w.heap.size 3 1 (.slice a xs.length c) xs.length (i64s xs) ∧ w'.ownsRow w.heap.size 3 1 (.slice a' ys.length c') ys.length (i64s ys) ∧ Upd NoB w w'
set_option maxRecDepth 100000 in
set_option maxHeartbeats 8000000 in
theorem reflected_any (su sv : Value) (u v : List Int) (k : Int) (w : World) (hu : Ints w su u) (hv : Ints w sv v) (hl : u.length = v.length) (h0 : 0 < u.length) (h12 : u.length ≤ 100) (hk : -127 ≤ k ∧ k ≤ 127)
    (bu : inM 17592186044416 u = true) (bv : inM 17592186044416 v = true) :
    Calls Try.prog 102 #[su, sv, .int .i64 k] w (Two w (rfU u v k) (rfV u v k)) := by
  have HU := Lib.hid hu; have HV := Lib.hid hv
  obtain ⟨i0, hi, hz0, hz1, hz2⟩ := info_parts Try.infoInt
  obtain ⟨ua, uc, rfl⟩ := hu.form
  obtain ⟨va, vc, rfl⟩ := hv.form
  have HGu := Lib.hid (fun j => getD_in (by decide) bu j); have HGv := Lib.hid (fun j => getD_in (by decide) bv j)
  have HAu := Lib.hid (fun i h => rfU_at (u := u) (v := v) (k := k) (i := i) h); have HAv := Lib.hid (fun i h => rfV_at (u := u) (v := v) (k := k) (i := i) h)
  have HLu := Lib.hid (rfU_len u v k); have HLv := Lib.hid (rfV_len u v k)
  rw [← hl] at HV ⊢
  have HOu := Lib.hid (fun j h => getD_of (xs := u) (j := j) h); have HOv := Lib.hid (fun j (h : j < u.length) => getD_of (xs := v) (j := j) (by omega))
  obtain ⟨L, hL⟩ : ∃ L, u.length = L := ⟨_, rfl⟩
  rw [hL] at HU HV HAu HAv HLu HLv HOu HOv h0 h12 ⊢
  obtain ⟨N, hN⟩ : ∃ N, L - 1 = N := ⟨_, rfl⟩
  rw [hN] at HAu HAv HLu HLv
  have hs : wrap64 ((L : Int) - 1) = (N : Int) := by rw [IntWalk.wrap64_in _ (by omega)]; omega
  have hs2 : IntKind.i64.wrap ((L : Int) - 1) = (N : Int) := by rw [IntWalk.i64_in _ (by omega)]; omega
  have HNL := Lib.hid (show L = N + 1 by omega)
  generalize rfU u v k = U at *
  generalize rfV u v k = V at *
  clear hu hv bu bv hl hL hN
  go_enter Try.func102, Try.ntmps102
  go_wp2_with fail
  go_loopw [6, 7, 12] (fun x y i wr => ∃ p : Nat, p ≤ N ∧ i = .int .i64 (p : Int) ∧ wr.ownsRow w.heap.size 3 1 x p (i64s (U.take p)) ∧ wr.ownsRow w.heap.size 3 1 y p (i64s (V.take p)) ∧ (∀ j, x.ownBlock = some j → y.ownBlock = some j → False) ∧ Upd NoB w wr) (fun _ _ i _ => N - (intOf i).toNat)
  case atStart => exact ⟨0, Nat.zero_le _, rfl, World.ownsRow_nil _ _ _ _, World.ownsRow_nil _ _ _ _, fun j hj => by simp [Value.ownBlock] at hj, Upd.refl _ _⟩
  case round =>
    obtain ⟨p, hp, rfl, hx, hy, hd, hu⟩ := hrel
    obtain ⟨xa, xc, rfl⟩ := row_form hx
    obtain ⟨ya, yc, rfl⟩ := row_form hy
    have HX := Lib.hid hx; have HY := Lib.hid hy; have HD := Lib.hid hd; have HUw := Lib.hid hu
    have hbs := hu.size
    by_cases hlt : p < N
    · have hNL := HNL.out
      have C3 := Lib.hid (show p + 1 ≤ maxLen by unfold maxLen; omega)
      have C4 := Lib.hid (show (p + 1) * 8 ≤ 140737488355328 by omega)
      have HIx := Lib.hid (fun p1 (hp1 : p + 1 = p1) => next_facts (L := L) (by omega) h12 hp1)
      obtain ⟨b1, o1, ea, c1⟩ := (HU.out.later hu).cellAt (HOu.out (p + 1) (by omega))
      obtain ⟨b2, o2, eb, c2⟩ := (HV.out.later hu).cellAt (HOv.out (p + 1) (by omega))
      have g1 := HGu.out (p + 1)
      have g2 := HGv.out (p + 1)
      obtain ⟨X1, hX1⟩ : ∃ X1, u.getD (p + 1) 0 = X1 := ⟨_, rfl⟩
      obtain ⟨Y1, hY1⟩ : ∃ Y1, v.getD (p + 1) 0 = Y1 := ⟨_, rfl⟩
      have HTu := Lib.hid (show i64s (U.take (p + 1)) = i64s (U.take p) ++ [.int .i64 (u.getD (p + 1) 0 + rnd (k * v.getD (p + 1) 0) 128)] by rw [HAu.out p hlt, i64s_append]; rfl); have HTv := Lib.hid (show i64s (V.take (p + 1)) = i64s (V.take p) ++ [.int .i64 (v.getD p 0 + rnd (k * u.getD p 0) 128)] by rw [HAv.out p hlt, i64s_append]; rfl)
      rw [hX1, hY1] at HTu
      rw [hX1] at c1 g1
      rw [hY1] at c2 g2
      have m1 := mul_in hk g2
      have r1 := rnd_in (by decide) m1
      have HR1 := Lib.hid (fun W => lround_any (k * Y1) 128 W (rat_ok (by decide) (by decide) (by omega) (by omega)))
      obtain ⟨q1, hq1⟩ : ∃ q1, k * Y1 = q1 := ⟨_, rfl⟩
      rw [hq1] at m1 r1 HR1 HTu
      obtain ⟨R1, hR1⟩ : ∃ R1, rnd q1 128 = R1 := ⟨_, rfl⟩
      rw [hR1] at r1 HR1 HTu
      have z1 : wrap64 (k * Y1) = q1 := by rw [hq1]; exact IntWalk.wrap64_in _ (by omega)
      have z2 : IntKind.i64.wrap (k * Y1) = q1 := by rw [hq1]; exact IntWalk.i64_in _ (by omega)
      have z3 : wrap64 (X1 + R1) = X1 + R1 := IntWalk.wrap64_in _ (by omega)
      have z4 : IntKind.i64.wrap (X1 + R1) = X1 + R1 := IntWalk.i64_in _ (by omega)
      have gu0 := HGu.out p
      have gv0 := HGv.out p
      obtain ⟨X0, hX0⟩ : ∃ X0, u.getD p 0 = X0 := ⟨_, rfl⟩
      obtain ⟨Y0, hY0⟩ : ∃ Y0, v.getD p 0 = Y0 := ⟨_, rfl⟩
      rw [hX0, hY0] at HTv
      rw [hX0] at gu0
      rw [hY0] at gv0
      have m0 := mul_in hk gu0
      have r0 := rnd_in (by decide) m0
      have HR0 := Lib.hid (fun W => lround_any (k * X0) 128 W (rat_ok (by decide) (by decide) (by omega) (by omega)))
      obtain ⟨q0, hq0⟩ : ∃ q0, k * X0 = q0 := ⟨_, rfl⟩
      rw [hq0] at m0 r0 HR0 HTv
      obtain ⟨R0, hR0⟩ : ∃ R0, rnd q0 128 = R0 := ⟨_, rfl⟩
      rw [hR0] at r0 HR0 HTv
      have y1 : wrap64 (k * X0) = q0 := by rw [hq0]; exact IntWalk.wrap64_in _ (by omega)
      have y2 : IntKind.i64.wrap (k * X0) = q0 := by rw [hq0]; exact IntWalk.i64_in _ (by omega)
      have y3 : wrap64 (Y0 + R0) = Y0 + R0 := IntWalk.wrap64_in _ (by omega)
      have y4 : IntKind.i64.wrap (Y0 + R0) = Y0 + R0 := IntWalk.i64_in _ (by omega)
      have HC0 := Lib.hid (fun W (uW : Upd NoB w W) => (show W.cell? ⟨b1, o1 + p, none⟩ = some (.int .i64 X0) ∧ W.cell? ⟨b2, o2 + p, none⟩ = some (.int .i64 Y0) by
        obtain ⟨b1', o1', ea', c1'⟩ := (HU.out.later uW).cellAt (HOu.out p (by omega))
        obtain ⟨b2', o2', eb', c2'⟩ := (HV.out.later uW).cellAt (HOv.out p (by omega))
        rw [ea] at ea'; rw [eb] at eb'
        cases ea'; cases eb'
        rw [hX0] at c1'; rw [hY0] at c2'
        exact ⟨c1', c2'⟩))
      subst ea; subst eb
      obtain ⟨p1, hp1⟩ : ∃ p1, p + 1 = p1 := ⟨_, rfl⟩
      rw [hp1] at c1 c2 HTu HTv
      obtain ⟨i1, i2, i3, j1, j2, j3, j4, j5, j6⟩ := HIx.out p1 hp1
      have d1 : wr.drew.cell? ⟨b1, o1 + p1, none⟩ = some (.int .i64 X1) := c1
      have d2 : wr.drew.cell? ⟨b2, o2 + p1, none⟩ = some (.int .i64 Y1) := c2
      have HP1 := Lib.hid hp1
      obtain ⟨xs, hxs⟩ : ∃ xs, U.take p = xs := ⟨_, rfl⟩
      obtain ⟨ys, hys⟩ : ∃ ys, V.take p = ys := ⟨_, rfl⟩
      rw [hxs] at HX HTu
      rw [hys] at HY HTv
      have HLt := Lib.hid hlt
      have HA5 := Lib.hid (fun (w6 : World) (g6 c6 : Nat) => grow_one (w := w) (wr := wr) (w6 := w6) (g := g6) (c := c6) (n := p) (xs := xs) (ys := ys) (q := X1 + R1) (xv := .slice xa p xc) (yv := .slice ya p yc) HX.out HY.out HD.out HUw.out)
      have HA7 := Lib.hid (fun (w6 : World) (g6 c6 : Nat) (r5 : w6.ownsRow w.heap.size 3 1 (.slice (some ⟨g6, 0, none⟩) (p + 1) c6) (p + 1) (i64s xs ++ [.int .i64 (X1 + R1)])) (u5 : Upd NoB w w6) (y5 : w6.ownsRow w.heap.size 3 1 (.slice ya p yc) p (i64s ys)) (d5 : ∀ j, (Value.slice (some ⟨g6, 0, none⟩) (p + 1) c6).ownBlock = some j → (Value.slice ya p yc).ownBlock = some j → False) => fun (w8 : World) (g8 c8 : Nat) => grow_two (w := w) (wr := w6) (w6 := w8) (g := g8) (c := c8) (n := p) (m := p + 1) (xs := ys) (ys := i64s xs ++ [.int .i64 (X1 + R1)]) (q := Y0 + R0) (yv := .slice (some ⟨g6, 0, none⟩) (p + 1) c6) (xv := .slice ya p yc) y5 r5 (fun j h1 h2 => d5 j h2 h1) u5)
      clear hNL hx hy hd hu g1 g2 m1 r1 hq1 hR1 hX1 hY1 gu0 gv0 m0 r0 hq0 hR0 hX0 hY0 hxs hys hp1
      go_wp2
      go_region_law (first
        | (refine step_append_lies _ (by rfl) _ _ _ (by rfl) w.heap.size 3 i0 (.int .i64 0) 1 8 Try.underlying22 hi hz0 hz1 hz2 (by rfl) (by decide) _ p (i64s xs) (by rfl) (by exact ((Upd.refl NoB wr).drew.alloc _).row HX.out (fun q _ => noB q)) ⟨wr.heap.size, 0, none⟩ 1 1 [.int .i64 (X1 + R1)] (by rfl) (by rfl) (by exact World.news_of_block (heap_alloc_new wr.drew _)) (by intro q hq; rw [List.mem_singleton] at hq; subst hq; rfl) (by decide) C3.out C4.out (by exact Nat.le_trans hbs ((Upd.refl NoB wr).drew.alloc _).size) _ (by rfl) ?_; intro g6 c6 w6 hown6 hg6 hat6 hlt6; have HX5 := Lib.hid (HA5.out w6 g6 c6 hown6 hg6 hat6); clear hown6 hg6 hat6 hlt6)
        | (go_simp; go_at_call 108; refine (HR1.out _).mono ?_; rintro e w4 ⟨rfl, rfl⟩))
      all_goals
        obtain ⟨R5', U5', Y5', D5', hb5⟩ := HX5.out
        have R5 := Lib.hid R5'; have U5 := Lib.hid U5'; have Y5 := Lib.hid Y5'; have D5 := Lib.hid D5'
        obtain ⟨e1, e2⟩ := HC0.out _ U5'
        clear R5' U5' Y5' D5' z1 z2 z3 z4
        have C5 := Lib.hid (HA7.out _ g6 c6 R5.out U5.out Y5.out D5.out)
        go_wp2_with fail
        go_region_law (first
          | (refine step_append_lies _ (by rfl) _ _ _ (by rfl) w.heap.size 3 i0 (.int .i64 0) 1 8 Try.underlying22 hi hz0 hz1 hz2 (by rfl) (by decide) _ p (i64s ys) (by rfl) (by exact ((Upd.refl NoB _).drew.alloc _).row Y5.out (fun q _ => noB q)) ⟨w6.heap.size, 0, none⟩ 1 1 [.int .i64 (Y0 + R0)] (by rfl) (by rfl) (by exact World.news_of_block (heap_alloc_new w6.drew _)) (by intro q hq; rw [List.mem_singleton] at hq; subst hq; rfl) (by decide) C3.out C4.out (by exact Nat.le_trans hb5 ((Upd.refl NoB w6).drew.alloc _).size) _ (by rfl) ?_; intro g8 c8 w8 hown8 hg8 hat8 hlt8; have HX7 := Lib.hid (C5.out w8 g8 c8 hown8 hg8 hat8); clear hown8 hg8 hat8 hlt8)
          | (go_simp; go_at_call 108; refine (HR0.out _).mono ?_; rintro e w7 ⟨rfl, rfl⟩))
        all_goals
          have hX7 := HX7.out
          clear y1 y2 y3 y4 i2 i3 j5 j6
          go_wp2_with fail
          go_roundw
          case rel => exact ⟨p + 1, HLt.out, by go_num, by rw [HP1.out, HTu.out, ← HP1.out]; exact hX7.1, by rw [HP1.out, HTv.out, ← HP1.out]; exact hX7.2.1, hX7.2.2.1, hX7.2.2.2⟩
          case measure => have := HLt.out; simp [intOf]; omega
    · obtain rfl : p = N := by omega
      have HTu := Lib.hid (show U.take p = U from List.take_of_length_le (by rw [HLu.out]; exact Nat.le_refl _))
      have HTv := Lib.hid (show V.take p = V from List.take_of_length_le (by rw [HLv.out]; exact Nat.le_refl _))
      rw [HTu.out] at HX
      rw [HTv.out] at HY
      have hpp : decide ((p : Int) < (p : Int)) = false := decide_eq_false (Int.lt_irrefl _)
      clear hx hy hd hu hlt
      go_wp2_with fail
      go_ret2
      exact ⟨xa, xc, ya, yc, by rw [HLu.out, HLv.out]; rfl, by rw [HLu.out]; exact HX.out, by rw [HLv.out]; exact HY.out, HUw.out⟩
end Go.Proofs.Ytopjjdfnnjgnlaa
