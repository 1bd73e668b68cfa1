/- energy: spread -/
import Derived.Test.YtgdndcbcdoogpaaDoorOR
import Derived.Test.YtgdndcbcdoogpaaDoorGd
import Derived.Deep.RegionHeldLaw
import Derived.OwnWalk
namespace Go.Proofs.YtgdndcbcdoogpaaDoor
open Go.RowKit Go.Shelf
attribute [local go_sem] Oper.semAt_some

/-- A row that the call made: block b, integers xs. -/
def OwnR (w : World) (b cap : Nat) (xs : List Int) : Prop := ∃ c : Array Value, w.heap[b]? = some (.cells c 3 (0, 0)) ∧ (xs.length ≤ c.size ∧ c.size = cap) ∧ ∀ (k : Nat) (x : Int), xs[k]? = some x → c[k]? = some (.int .i64 x)
theorem OwnR.upd {S : Nat → Prop} {w w' : World} {b cap : Nat} {xs : List Int} (h : OwnR w b cap xs) (u : Upd S w w') (hs : ¬ S b) : OwnR w' b cap xs := by
  obtain ⟨c, hc, h⟩ := h
  exact ⟨c, u.heap hc hs, h⟩
theorem OwnR.cell {w : World} {b cap : Nat} {xs : List Int} (h : OwnR w b cap xs) {k : Nat} (hk : k < xs.length) : w.cell? ⟨b, k, none⟩ = some (.int .i64 (xs.getD k 0)) ∧ w.frozen? ⟨b, k, none⟩ = false := by
  obtain ⟨c, hc, hl, h⟩ := h
  refine ⟨?_, blk_free hc k⟩
  rw [blk_cell hc k, List.getD_eq_getElem?_getD, List.getElem?_eq_getElem hk]
  exact h k _ (List.getElem?_eq_getElem hk)
theorem OwnR.set {w : World} {b cap : Nat} {xs : List Int} (h : OwnR w b cap xs) (k : Nat) (hk : k < xs.length) (x : Int) : OwnR (w.setCell ⟨b, k, none⟩ (.int .i64 x)) b cap (xs.set k x) := by
  obtain ⟨c, hc, hl, h⟩ := h
  refine ⟨_, block_set hc _, ⟨by simp; exact hl.1, by simp; exact hl.2⟩, fun j y hj => ?_⟩
  rw [Array.getElem?_setIfInBounds]
  rw [List.getElem?_set] at hj
  by_cases e : k = j
  · subst e
    rw [if_pos rfl, if_pos (by omega)]
    rw [if_pos rfl, if_pos hk] at hj
    rw [← Option.some.inj hj]
  · rw [if_neg e]
    rw [if_neg e] at hj
    exact h j y hj
theorem OwnR.of {w : World} {base b cap : Nat} {xs : List Int} (h : w.ownsRow base 3 1 (.slice (some ⟨b, 0, none⟩) xs.length cap) xs.length (i64s xs)) : OwnR w b cap xs ∧ base ≤ b ∧ cap ≤ maxLen := by
  rcases h.2 with ⟨h', _⟩ | ⟨g', cap', cur, h', hb, hg, hnc, hcm, hcs, htake⟩
  · simp at h'
  · simp only [Value.slice.injEq, Option.some.injEq, Addr.mk.injEq, and_true, true_and] at h'
    obtain ⟨rfl, rfl⟩ := h'
    refine ⟨⟨cur, hg, ⟨by omega, by omega⟩, fun k x hk => ?_⟩, hb, hcm⟩
    have hkl := (List.getElem?_eq_some_iff.1 hk).1
    have e : (i64s xs)[k]? = some (.int .i64 x) := by rw [i64s_get, hk]; rfl
    rw [← htake, List.getElem?_take] at e
    simp at e
    exact e.2
theorem OwnR.row {w : World} {base b cap : Nat} {xs : List Int} (h : OwnR w b cap xs) (hb : base ≤ b) (hc : cap ≤ maxLen) : w.ownsRow base 3 1 (.slice (some ⟨b, 0, none⟩) xs.length cap) xs.length (i64s xs) := by
  obtain ⟨c, hg, ⟨hl, hcs⟩, h⟩ := h
  refine ⟨by simp [i64s_length], .inr ⟨b, cap, c, rfl, hb, hg, by omega, hc, by omega, ?_⟩⟩
  refine List.ext_getElem? fun k => ?_
  rw [List.getElem?_take, i64s_get]
  by_cases hk : k < xs.length
  · have hx : xs[k]? = some xs[k] := List.getElem?_eq_getElem hk
    rw [hx]
    have := h k _ hx
    simp [hk, this]
  · rw [List.getElem?_eq_none (by omega : xs.length ≤ k)]
    simp; omega

def CoS (xs : List Int) : Prop := ∀ (j : Nat) (x : Int), xs[j]? = some x → 0 ≤ x ∧ x ≤ 15872
def spStep (off : Nat) (xs : List Int) (s : Nat × Nat × Int) : List Int := xs.set (off + s.2.1) (max (max 0 (xs.getD (off + s.2.1) 0)) (xs.getD (off + s.1) 0 - s.2.2))
def spA (off N : Nat) (xs : List Int) : List Int := (stL N).foldl (spStep off) xs
theorem spStep_len (off : Nat) (xs : List Int) (s : Nat × Nat × Int) : (spStep off xs s).length = xs.length := by unfold spStep; simp
theorem spF_len (off : Nat) (l : List (Nat × Nat × Int)) (xs : List Int) : (l.foldl (spStep off) xs).length = xs.length := by
  induction l generalizing xs with
  | nil => rfl
  | cons s l ih => rw [List.foldl_cons, ih, spStep_len]
theorem stL_mem {N : Nat} {s : Nat × Nat × Int} (h : s ∈ stL N) : s.1 ≤ N ∧ s.2.1 ≤ N ∧ s.1 ≠ s.2.1 ∧ 0 ≤ s.2.2 ∧ s.2.2 ≤ 768 := by
  unfold stL at h
  rcases List.mem_append.1 h with h | h
  · obtain ⟨k, hk, rfl⟩ := List.mem_map.1 h
    have := List.mem_range.1 hk
    unfold upT; simp; omega
  · obtain ⟨k, hk, rfl⟩ := List.mem_map.1 h
    have := List.mem_range.1 hk
    unfold dnT; simp; omega
theorem getD_cos {xs : List Int} (h : CoS xs) (k : Nat) : 0 ≤ xs.getD k 0 ∧ xs.getD k 0 ≤ 15872 := by
  rw [List.getD_eq_getElem?_getD]
  cases e : xs[k]? with
  | none => simp
  | some x => exact h k x e
theorem CoS.step {xs : List Int} (h : CoS xs) (off : Nat) {s : Nat × Nat × Int} (h0 : 0 ≤ s.2.2) : CoS (spStep off xs s) := fun j x hj => by
  unfold spStep at hj
  rw [List.getElem?_set] at hj
  have h1 := getD_cos h (off + s.2.1)
  have h2 := getD_cos h (off + s.1)
  split at hj
  · split at hj
    · cases hj; omega
    · cases hj
  · exact h j x hj
theorem CoS.foldl {xs : List Int} (h : CoS xs) (off : Nat) {l : List (Nat × Nat × Int)} (h0 : ∀ s ∈ l, 0 ≤ s.2.2) : CoS (l.foldl (spStep off) xs) := by
  induction l generalizing xs with
  | nil => exact h
  | cons s l ih => rw [List.foldl_cons]; exact ih (h.step off (h0 s (List.mem_cons_self ..))) (fun u hu => h0 u (List.mem_cons_of_mem _ hu))
set_option maxRecDepth 100000 in
set_option maxHeartbeats 4000000 in
theorem spread_any (G off N cap C : Nat) (xs : List Int) (w : World) (hG : OwnR w G C xs) (hN : N ≤ 1000) (hoff : off + N + 1 ≤ xs.length) (hxs : CoS xs) :
    Calls Tryd.prog 85 #[.slice (some ⟨G, off, none⟩) (N + 1) cap] w fun e w' => (∃ v, e = .returned v) ∧ OwnR w' G C (spA off N xs) ∧ Upd (fun k => k = G) w w' := by
  obtain ⟨L, hL⟩ : ∃ L, N + 1 = L := ⟨_, rfl⟩
  rw [hL]
  obtain ⟨b1, hb1⟩ : ∃ b, w.heap.size = b := ⟨_, rfl⟩
  obtain ⟨w1, hw1⟩ : ∃ w1, w1 = w.alloc (.cells #[.slice (some ⟨G, off, none⟩) L cap] 22) := ⟨_, rfl⟩
  have n1 : w1.heap[b1]? = some (.cells #[.slice (some ⟨G, off, none⟩) L cap] 22 (0, 0)) := by rw [hw1, ← hb1]; exact heap_alloc_new w _
  have u1 : Upd NoB w w1 := by rw [hw1]; exact (Upd.refl _ _).alloc _
  have hs1 : w1.heap.size = b1 + 1 := by rw [hw1, ← hb1]; simp
  have d1 : w1.cell? ⟨b1, 0, none⟩ = some (.slice (some ⟨G, off, none⟩) L cap) := blk_cell n1 0
  have hGb : G < b1 := by obtain ⟨c, hc, _⟩ := hG; rw [← hb1]; exact lt_of_block hc
  have HG1 := Lib.hid (hG.upd u1 (noB _)); have U1 := Lib.hid u1; have N1 := Lib.hid n1; have HW1 := Lib.hid hw1; have HB1 := Lib.hid hb1; have HL := Lib.hid hL; have HS1 := Lib.hid hs1
  have HX := Lib.hid hxs; have HOff := Lib.hid hoff; have HN := Lib.hid hN; have HGb := Lib.hid hGb
  clear hG u1 n1 hxs hoff hN hs1 hL hGb
  refine (callsIn_wide (n := 2)).1 ?_
  refine callsIn_of_wp_marks Tryd.func85 rfl trivial (wpIn_wide.2 ?_) rfl
  simp only [Tryd.ntmps85, List.size_toArray, List.length_cons, List.length_nil, Nat.reduceAdd, Nat.reduceSub, Array.replicate_succ, Array.replicate_zero, List.push_toArray, List.append_toArray, List.nil_append, List.cons_append]
  go_wp2_with fail
  rw [← hw1]
  clear hw1 hb1
  refine (steps_any _ w1).mono ?_
  rintro e W ⟨rfl, hW⟩
  rw [HS1.out]
  have u2 : Upd NoB w1 W := by rw [hW]; exact (Upd.refl _ _).alloc _
  have n2 : W.heap[b1 + 1]? = some (.cells #[.int .i64 (L : Int)] 3 (0, 0)) := by rw [hW, ← HS1.out]; exact heap_alloc_new w1 _
  have hWs : W.heap.size = b1 + 2 := by rw [hW]; simp [HS1.out]
  have HSq := Lib.hid (steps1_seq (b1 + 1) 1 N (fun k => k = G) HN.out W (by rw [HL.out]; exact blk_cell n2 0) (fun h => by have := HGb.out; omega))
  have HG2 := Lib.hid (HG1.out.upd u2 (noB _)); have U2 := Lib.hid (U1.out.then u2); have N1b := Lib.hid (u2.heap N1.out (noB _)); have HWs := Lib.hid hWs
  clear u2 n2 hW hWs d1
  go_wp2_with fail
  refine (wpIn_wide (n := 2)).1 (wpIn_rangeQ rfl (by omega) (gf := 108) (lb := #[.pointer (some ⟨b1 + 1, 0, none⟩)]) rfl trivial (enters_of Tryd.func108 (by kernel_rfl) rfl) HSq.out (fun h k => h.trans k) (fun W' l o o' _ h1 h2 => kpC_putObj h1 h2) (Below.refl _ _) (fun _ => rfl)
    (fun pre W' => OwnR W' G C (pre.foldl (spStep off) xs) ∧ Upd (fun k => k = G) W W')
    ?hI (fun _ _ _ _ _ _ hs _ _ => hs) ⟨HG2.out, Upd.refl _ _⟩
    (fun x a' W' => ∃ s0, b1 + 2 ≤ s0 ∧ W'.heap[s0]? = some (.cells #[.int .i64 (x.1 : Int), .int .i64 (x.2.1 : Int), .int .i64 x.2.2] 102 (0, 0)) ∧ a' = { tmps := #[.slice (some ⟨G, off, none⟩) L cap, .pointer (some ⟨b1, 0, none⟩), .pointer (some ⟨s0, 0, none⟩), .slice (some ⟨G, off, none⟩) L cap, .int .i64 (L : Int), .func (.func 108) #[] #[.pointer (some ⟨b1 + 1, 0, none⟩)], .agg #[.int .i64 (x.1 : Int), .int .i64 (x.2.1 : Int), .int .i64 x.2.2], undef, undef, undef, undef, undef, undef, undef, undef, undef, undef, undef, undef, undef, undef, undef, undef, undef, undef, undef], defers := [] }) ?hAx ?assign ?body ?done)
  case hI =>
    rintro pre A B' row ⟨⟨c, h1, h2⟩, h4⟩ hg hr
    refine ⟨⟨c, (hg.block _ (lt_of_block h1) (fun e => ?_)).trans h1, h2⟩, h4.grown hg (fun k e hk => ?_)⟩
    · have := (hr _ e.symm).1; have := HWs.out; have := HGb.out; omega
    · have := (hr k e).1; have := HWs.out; omega
  case hAx =>
    rintro x a' _ A A' row ⟨s0, h0, h1, h2⟩ hg hr
    refine ⟨s0, h0, (hg.block _ (lt_of_block h1) (fun e => ?_)).trans h1, h2⟩
    obtain ⟨_, o, ho, hc⟩ := hr _ e.symm
    rw [h1] at ho; cases ho; cases hc
  case assign =>
    rintro l pre x V K ⟨hr, hu⟩ hPi hK
    have uA : Upd NoB V (V.alloc (.cells #[.int .i64 (x.1 : Int), .int .i64 (x.2.1 : Int), .int .i64 x.2.2] 102)) := (Upd.refl _ _).alloc _
    have hWs := HWs.out
    have hus := hu.size
    have HR := Lib.hid hr; have HU := Lib.hid hu; have HUA := Lib.hid uA
    clear hr hu uA
    gi_wp2
    exact hK _ _ (keeps_of_upd HUA.out (fun _ _ h => h)) ⟨HUA.out.kpC (fun _ h _ => h.elim), fun j h1 h2 => by omega⟩ ⟨HR.out.upd HUA.out (noB _), HU.out.alloc _⟩ hPi ⟨_, by omega, heap_alloc_new V _, rfl⟩
  case body =>
    rintro l pre ⟨f, t, d⟩ a' V ⟨hr, hu⟩ hPi ⟨s0, hs0, hms, rfl⟩ hVs hlen
    obtain ⟨hf, ht, hne, hd0, hd1⟩ := stL_mem (hPi.subset (List.mem_append_right _ (List.mem_singleton.2 rfl)))
    have hf : f ≤ N := hf
    have ht : t ≤ N := ht
    have hne : f ≠ t := hne
    have hd0 : 0 ≤ d := hd0
    have hd1 : d ≤ 768 := hd1
    have hcs : CoS (pre.foldl (spStep off) xs) := HX.out.foldl off (fun s hs => (stL_mem (hPi.subset (List.mem_append_left _ hs))).2.2.2.1)
    have hln : (pre.foldl (spStep off) xs).length = xs.length := spF_len _ _ _
    have hoff := HOff.out
    have HF := Lib.hid (show (pre ++ [(f, t, d)]).foldl (spStep off) xs = spStep off (pre.foldl (spStep off) xs) (f, t, d) by rw [List.foldl_append]; rfl)
    obtain ⟨ys, hys⟩ : ∃ ys, pre.foldl (spStep off) xs = ys := ⟨_, rfl⟩
    rw [hys] at hcs hln HF hr
    have cX := (hr.cell (k := off + f) (by omega)).1
    obtain ⟨cY, fY⟩ := hr.cell (k := off + t) (by omega)
    have bX := getD_cos hcs (off + f)
    have bY := getD_cos hcs (off + t)
    have HSp := Lib.hid (show spStep off ys (f, t, d) = ys.set (off + t) (max (max 0 (ys.getD (off + t) 0)) (ys.getD (off + f) 0 - d)) from rfl)
    have hLN := HL.out
    have hGb := HGb.out
    have hRs := hr.set (off + t) (by omega)
    have hRs : ∀ Z, Upd NoB V Z → OwnR (Z.setCell ⟨G, off + t, none⟩ (.int .i64 (max (max 0 (ys.getD (off + t) 0)) (ys.getD (off + f) 0 - d)))) G C (ys.set (off + t) (max (max 0 (ys.getD (off + t) 0)) (ys.getD (off + f) 0 - d))) := fun Z u => (hr.upd u (noB _)).set (off + t) (by omega) _
    rw [← HSp.out, ← HF.out] at hRs
    have c0 : V.cell? ⟨b1, 0, none⟩ = some (.slice (some ⟨G, off, none⟩) L cap) := blk_cell (hu.heap N1b.out (by omega)) 0
    have s0c : V.cell? ⟨s0, 0, none⟩ = some (.int .i64 (f : Int)) := blk_cell hms 0
    have s1c : V.cell? ⟨s0, 1, none⟩ = some (.int .i64 (t : Int)) := blk_cell hms 1
    have s2c : V.cell? ⟨s0, 2, none⟩ = some (.int .i64 d) := blk_cell hms 2
    generalize ys.getD (off + f) 0 = X at *
    generalize ys.getD (off + t) 0 = Y at *
    have HMx := Lib.hid (show mxL 0 [Y, X - d] = max (max 0 Y) (X - d) from rfl)
    generalize max (max 0 Y) (X - d) = M at *
    have hw1 : wrap64 (X - d) = X - d := IntWalk.wrap64_in _ (by omega)
    have hw2 : IntKind.i64.wrap (X - d) = X - d := IntWalk.i64_in _ (by omega)
    have hfL : f < L := by omega
    have htL : t < L := by omega
    obtain ⟨W1, hW1⟩ : ∃ W1, W1 = (V.alloc (.cells #[.int .i64 Y, .int .i64 (X - d)] 3)).drew := ⟨_, rfl⟩
    have u0 : Upd NoB V V.drew := (Upd.refl _ _).drew
    have u1 : Upd NoB V W1 := by rw [hW1]; exact ((Upd.refl NoB V).alloc _).drew
    have nW : W1.heap[V.heap.size]? = some (.cells #[.int .i64 Y, .int .i64 (X - d)] 3 (0, 0)) := by rw [hW1]; exact heap_alloc_new V _
    have HS0 := Lib.hid (show V.drew.cell? ⟨b1, 0, none⟩ = some (.slice (some ⟨G, off, none⟩) L cap) ∧ V.drew.cell? ⟨s0, 0, none⟩ = some (.int .i64 (f : Int)) ∧ V.drew.cell? ⟨s0, 1, none⟩ = some (.int .i64 (t : Int)) ∧ V.drew.cell? ⟨s0, 2, none⟩ = some (.int .i64 d) ∧ V.drew.cell? ⟨G, off + f, none⟩ = some (.int .i64 X) from ⟨c0, s0c, s1c, s2c, cX⟩)
    have HS1 := Lib.hid (show W1.cell? ⟨b1, 0, none⟩ = some (.slice (some ⟨G, off, none⟩) L cap) ∧ W1.cell? ⟨s0, 0, none⟩ = some (.int .i64 (f : Int)) ∧ W1.cell? ⟨s0, 1, none⟩ = some (.int .i64 (t : Int)) ∧ W1.cell? ⟨s0, 2, none⟩ = some (.int .i64 d) ∧ W1.cell? ⟨G, off + f, none⟩ = some (.int .i64 X) from ⟨u1.cell c0 (noB _), u1.cell s0c (noB _), u1.cell s1c (noB _), u1.cell s2c (noB _), u1.cell cX (noB _)⟩)
    have HI1 := Lib.hid (show Ints W1 (.slice (some ⟨V.heap.size, 0, none⟩) 2 2) [Y, X - d] from ⟨by simp, _, _, rfl, ⟨by simp, fun e => by cases e⟩, .inr ⟨_, 0, rfl, fun j x hx => by
      rcases j with _ | _ | j
      · rw [blk_cell nW]; cases hx; rfl
      · rw [blk_cell nW]; cases hx; rfl
      · simp at hx⟩⟩)
    have fW := (show W1.frozen? ⟨G, off + t, none⟩ = false from by obtain ⟨c, hc, _⟩ := hr.upd u1 (noB _); exact blk_free hc _)
    have cW := u1.cell cY (noB _)
    have u9 : Upd (fun k => k = G) V (W1.setCell ⟨G, off + t, none⟩ (.int .i64 M)) := (u1.mono (T := fun k => k = G) (fun _ _ h => h.elim)).setCell _ (fun _ => rfl)
    have hoth : ∀ (P o : Nat) (u : Value), P ≠ G → W1.cell? ⟨P, o, none⟩ = some u → (W1.setCell ⟨G, off + t, none⟩ (.int .i64 M)).cell? ⟨P, o, none⟩ = some u := fun P o u hP hc => ((Upd.refl (fun k => k = G) W1).setCell _ (fun _ => rfl)).cell hc hP
    have hsG : s0 ≠ G := by omega
    have hXk : (W1.setCell ⟨G, off + t, none⟩ (.int .i64 M)).cell? ⟨G, off + f, none⟩ = some (.int .i64 X) := by
      obtain ⟨c, hc, _⟩ := hr.upd u1 (noB _)
      have hb := block_set hc (i := off + t) (.int .i64 M)
      rw [blk_cell hb, Array.getElem?_setIfInBounds, if_neg (by omega)]
      have := u1.cell cX (noB _)
      rw [blk_cell hc] at this; exact this
    have HS2 := Lib.hid (show (W1.setCell ⟨G, off + t, none⟩ (.int .i64 M)).cell? ⟨b1, 0, none⟩ = some (.slice (some ⟨G, off, none⟩) L cap) ∧ (W1.setCell ⟨G, off + t, none⟩ (.int .i64 M)).cell? ⟨s0, 0, none⟩ = some (.int .i64 (f : Int)) ∧ (W1.setCell ⟨G, off + t, none⟩ (.int .i64 M)).cell? ⟨s0, 1, none⟩ = some (.int .i64 (t : Int)) ∧ (W1.setCell ⟨G, off + t, none⟩ (.int .i64 M)).cell? ⟨s0, 2, none⟩ = some (.int .i64 d) ∧ (W1.setCell ⟨G, off + t, none⟩ (.int .i64 M)).cell? ⟨G, off + f, none⟩ = some (.int .i64 X) from
      ⟨hoth _ _ _ (by omega) (u1.cell c0 (noB _)), hoth _ _ _ hsG (u1.cell s0c (noB _)), hoth _ _ _ hsG (u1.cell s1c (noB _)), hoth _ _ _ hsG (u1.cell s2c (noB _)), hXk⟩)
    have HFin := Lib.hid (show KeepsFrom W.heap.size V (W1.setCell ⟨G, off + t, none⟩ (.int .i64 M)) ∧ (KpC (fun k => k = G) V (W1.setCell ⟨G, off + t, none⟩ (.int .i64 M)) ∧ Win (W.heap.size + 2) 0 V (W1.setCell ⟨G, off + t, none⟩ (.int .i64 M))) ∧ (OwnR (W1.setCell ⟨G, off + t, none⟩ (.int .i64 M)) G C ((pre ++ [(f, t, d)]).foldl (spStep off) xs) ∧ Upd (fun k => k = G) W (W1.setCell ⟨G, off + t, none⟩ (.int .i64 M))) from
      ⟨keeps_of_upd u9 (fun k h1 h2 => by have := HWs.out; omega), ⟨u9.kpC (fun k h _ => h), fun j h1 h2 => by omega⟩, hRs _ u1, hu.trans u9 (fun _ _ h => h)⟩)
    have HW1 := Lib.hid hW1; have HCY := Lib.hid cY; have HCW := Lib.hid cW; have HFW := Lib.hid fW
    have cYd : V.drew.cell? ⟨G, off + t, none⟩ = some (.int .i64 Y) := u0.cell cY (noB _)
    clear hr hu hPi hms hVs hlen hcs hln hys cX cY fY bX bY hRs hXk hoth u9 u0 u1 nW c0 s0c s1c s2c hoff hf ht hd0 hd1 hLN hW1 cW fW
    gi_wp2
    refine region_held_in (fun Z => Z.cell? ⟨b1, 0, none⟩ = some (.slice (some ⟨G, off, none⟩) L cap) ∧ Z.cell? ⟨s0, 0, none⟩ = some (.int .i64 (f : Int)) ∧ Z.cell? ⟨s0, 1, none⟩ = some (.int .i64 (t : Int)) ∧ Z.cell? ⟨s0, 2, none⟩ = some (.int .i64 d) ∧ Z.cell? ⟨G, off + f, none⟩ = some (.int .i64 X)) (by kernel_rfl) (by kernel_rfl) (fun ⟨_, _, h⟩ => h) ?_
    change wpAnyH _ _ _ _ _ 20 #[false, false, false, false, false, false, false, false, false, false, false, false, false, false, false, false, false, false, false, false] { tmps := #[.slice (some ⟨G, off, none⟩) L cap, .pointer (some ⟨b1, 0, none⟩), .pointer (some ⟨s0, 0, none⟩), .slice (some ⟨G, off, none⟩) L cap, .int IntKind.i64 (L : Int), .func (Fn.func 108) #[] #[.pointer (some ⟨b1 + 1, 0, none⟩)], .agg #[.int IntKind.i64 (f : Int), .int IntKind.i64 (t : Int), .int IntKind.i64 d], undef, undef, undef, undef, undef, undef, undef, undef, undef, undef, undef, undef, undef, undef, undef, undef, undef, undef, undef], defers := [] } V.drew
    refine wpAnyH_take (i := 0) (v := .slice (some ⟨G, off, none⟩) L cap) rfl (by kernel_rfl) (by kernel_rfl) (by kernel_rfl) (fun _ _ _ h => h) (Or.inl ⟨by rfl, fun Z hZ => ?_⟩) HS0.out ?_
    · obtain ⟨k0, k1, k2, k3, k4⟩ := hZ
      go_simp
    change wpAnyH _ _ _ _ _ 19 #[true, false, false, false, false, false, false, false, false, false, false, false, false, false, false, false, false, false, false, false] { tmps := #[.slice (some ⟨G, off, none⟩) L cap, .pointer (some ⟨b1, 0, none⟩), .pointer (some ⟨s0, 0, none⟩), .slice (some ⟨G, off, none⟩) L cap, .int IntKind.i64 (L : Int), .func (Fn.func 108) #[] #[.pointer (some ⟨b1 + 1, 0, none⟩)], .agg #[.int IntKind.i64 (f : Int), .int IntKind.i64 (t : Int), .int IntKind.i64 d], .slice (some ⟨G, off, none⟩) L cap, undef, undef, undef, undef, undef, undef, undef, undef, undef, undef, undef, undef, undef, undef, undef, undef, undef, undef], defers := [] } V.drew
    refine wpAnyH_take (i := 1) (v := .pointer (some ⟨s0, 1, none⟩)) rfl (by kernel_rfl) (by kernel_rfl) (by kernel_rfl) (fun _ _ _ h => h) (Or.inl ⟨by rfl, fun Z hZ => ?_⟩) HS0.out ?_
    · obtain ⟨k0, k1, k2, k3, k4⟩ := hZ
      go_simp
    change wpAnyH _ _ _ _ _ 18 #[true, true, false, false, false, false, false, false, false, false, false, false, false, false, false, false, false, false, false, false] { tmps := #[.slice (some ⟨G, off, none⟩) L cap, .pointer (some ⟨b1, 0, none⟩), .pointer (some ⟨s0, 0, none⟩), .slice (some ⟨G, off, none⟩) L cap, .int IntKind.i64 (L : Int), .func (Fn.func 108) #[] #[.pointer (some ⟨b1 + 1, 0, none⟩)], .agg #[.int IntKind.i64 (f : Int), .int IntKind.i64 (t : Int), .int IntKind.i64 d], .slice (some ⟨G, off, none⟩) L cap, .pointer (some ⟨s0, 1, none⟩), undef, undef, undef, undef, undef, undef, undef, undef, undef, undef, undef, undef, undef, undef, undef, undef, undef], defers := [] } V.drew
    refine wpAnyH_take (i := 2) (v := .int .i64 (t : Int)) rfl (by kernel_rfl) (by kernel_rfl) (by kernel_rfl) (fun _ _ _ h => h) (Or.inl ⟨by rfl, fun Z hZ => ?_⟩) HS0.out ?_
    · obtain ⟨k0, k1, k2, k3, k4⟩ := hZ
      go_simp
    change wpAnyH _ _ _ _ _ 17 #[true, true, true, false, false, false, false, false, false, false, false, false, false, false, false, false, false, false, false, false] { tmps := #[.slice (some ⟨G, off, none⟩) L cap, .pointer (some ⟨b1, 0, none⟩), .pointer (some ⟨s0, 0, none⟩), .slice (some ⟨G, off, none⟩) L cap, .int IntKind.i64 (L : Int), .func (Fn.func 108) #[] #[.pointer (some ⟨b1 + 1, 0, none⟩)], .agg #[.int IntKind.i64 (f : Int), .int IntKind.i64 (t : Int), .int IntKind.i64 d], .slice (some ⟨G, off, none⟩) L cap, .pointer (some ⟨s0, 1, none⟩), .int .i64 (t : Int), undef, undef, undef, undef, undef, undef, undef, undef, undef, undef, undef, undef, undef, undef, undef, undef], defers := [] } V.drew
    refine wpAnyH_take (i := 3) (v := .slice (some ⟨G, off, none⟩) L cap) rfl (by kernel_rfl) (by kernel_rfl) (by kernel_rfl) (fun _ _ _ h => h) (Or.inl ⟨by rfl, fun Z hZ => ?_⟩) HS0.out ?_
    · obtain ⟨k0, k1, k2, k3, k4⟩ := hZ
      go_simp
    change wpAnyH _ _ _ _ _ 16 #[true, true, true, true, false, false, false, false, false, false, false, false, false, false, false, false, false, false, false, false] { tmps := #[.slice (some ⟨G, off, none⟩) L cap, .pointer (some ⟨b1, 0, none⟩), .pointer (some ⟨s0, 0, none⟩), .slice (some ⟨G, off, none⟩) L cap, .int IntKind.i64 (L : Int), .func (Fn.func 108) #[] #[.pointer (some ⟨b1 + 1, 0, none⟩)], .agg #[.int IntKind.i64 (f : Int), .int IntKind.i64 (t : Int), .int IntKind.i64 d], .slice (some ⟨G, off, none⟩) L cap, .pointer (some ⟨s0, 1, none⟩), .int .i64 (t : Int), .slice (some ⟨G, off, none⟩) L cap, undef, undef, undef, undef, undef, undef, undef, undef, undef, undef, undef, undef, undef, undef, undef], defers := [] } V.drew
    refine wpAnyH_take (i := 4) (v := .pointer (some ⟨s0, 1, none⟩)) rfl (by kernel_rfl) (by kernel_rfl) (by kernel_rfl) (fun _ _ _ h => h) (Or.inl ⟨by rfl, fun Z hZ => ?_⟩) HS0.out ?_
    · obtain ⟨k0, k1, k2, k3, k4⟩ := hZ
      go_simp
    change wpAnyH _ _ _ _ _ 15 #[true, true, true, true, true, false, false, false, false, false, false, false, false, false, false, false, false, false, false, false] { tmps := #[.slice (some ⟨G, off, none⟩) L cap, .pointer (some ⟨b1, 0, none⟩), .pointer (some ⟨s0, 0, none⟩), .slice (some ⟨G, off, none⟩) L cap, .int IntKind.i64 (L : Int), .func (Fn.func 108) #[] #[.pointer (some ⟨b1 + 1, 0, none⟩)], .agg #[.int IntKind.i64 (f : Int), .int IntKind.i64 (t : Int), .int IntKind.i64 d], .slice (some ⟨G, off, none⟩) L cap, .pointer (some ⟨s0, 1, none⟩), .int .i64 (t : Int), .slice (some ⟨G, off, none⟩) L cap, .pointer (some ⟨s0, 1, none⟩), undef, undef, undef, undef, undef, undef, undef, undef, undef, undef, undef, undef, undef, undef], defers := [] } V.drew
    refine wpAnyH_take (i := 5) (v := .int .i64 (t : Int)) rfl (by kernel_rfl) (by kernel_rfl) (by kernel_rfl) (fun _ _ _ h => h) (Or.inl ⟨by rfl, fun Z hZ => ?_⟩) HS0.out ?_
    · obtain ⟨k0, k1, k2, k3, k4⟩ := hZ
      go_simp
    change wpAnyH _ _ _ _ _ 14 #[true, true, true, true, true, true, false, false, false, false, false, false, false, false, false, false, false, false, false, false] { tmps := #[.slice (some ⟨G, off, none⟩) L cap, .pointer (some ⟨b1, 0, none⟩), .pointer (some ⟨s0, 0, none⟩), .slice (some ⟨G, off, none⟩) L cap, .int IntKind.i64 (L : Int), .func (Fn.func 108) #[] #[.pointer (some ⟨b1 + 1, 0, none⟩)], .agg #[.int IntKind.i64 (f : Int), .int IntKind.i64 (t : Int), .int IntKind.i64 d], .slice (some ⟨G, off, none⟩) L cap, .pointer (some ⟨s0, 1, none⟩), .int .i64 (t : Int), .slice (some ⟨G, off, none⟩) L cap, .pointer (some ⟨s0, 1, none⟩), .int .i64 (t : Int), undef, undef, undef, undef, undef, undef, undef, undef, undef, undef, undef, undef, undef], defers := [] } V.drew
    refine wpAnyH_take (i := 6) (v := .pointer (some ⟨G, off + t, none⟩)) rfl (by kernel_rfl) (by kernel_rfl) (by kernel_rfl) (fun _ _ _ h => h) (Or.inl ⟨by rfl, fun Z hZ => ?_⟩) HS0.out ?_
    · obtain ⟨k0, k1, k2, k3, k4⟩ := hZ
      go_simp
    change wpAnyH _ _ _ _ _ 13 #[true, true, true, true, true, true, true, false, false, false, false, false, false, false, false, false, false, false, false, false] { tmps := #[.slice (some ⟨G, off, none⟩) L cap, .pointer (some ⟨b1, 0, none⟩), .pointer (some ⟨s0, 0, none⟩), .slice (some ⟨G, off, none⟩) L cap, .int IntKind.i64 (L : Int), .func (Fn.func 108) #[] #[.pointer (some ⟨b1 + 1, 0, none⟩)], .agg #[.int IntKind.i64 (f : Int), .int IntKind.i64 (t : Int), .int IntKind.i64 d], .slice (some ⟨G, off, none⟩) L cap, .pointer (some ⟨s0, 1, none⟩), .int .i64 (t : Int), .slice (some ⟨G, off, none⟩) L cap, .pointer (some ⟨s0, 1, none⟩), .int .i64 (t : Int), .pointer (some ⟨G, off + t, none⟩), undef, undef, undef, undef, undef, undef, undef, undef, undef, undef, undef, undef], defers := [] } V.drew
    refine wpAnyH_take (i := 8) (v := .slice (some ⟨G, off, none⟩) L cap) rfl (by kernel_rfl) (by kernel_rfl) (by kernel_rfl) (fun _ _ _ h => h) (Or.inl ⟨by rfl, fun Z hZ => ?_⟩) HS0.out ?_
    · obtain ⟨k0, k1, k2, k3, k4⟩ := hZ
      go_simp
    change wpAnyH _ _ _ _ _ 12 #[true, true, true, true, true, true, true, false, true, false, false, false, false, false, false, false, false, false, false, false] { tmps := #[.slice (some ⟨G, off, none⟩) L cap, .pointer (some ⟨b1, 0, none⟩), .pointer (some ⟨s0, 0, none⟩), .slice (some ⟨G, off, none⟩) L cap, .int IntKind.i64 (L : Int), .func (Fn.func 108) #[] #[.pointer (some ⟨b1 + 1, 0, none⟩)], .agg #[.int IntKind.i64 (f : Int), .int IntKind.i64 (t : Int), .int IntKind.i64 d], .slice (some ⟨G, off, none⟩) L cap, .pointer (some ⟨s0, 1, none⟩), .int .i64 (t : Int), .slice (some ⟨G, off, none⟩) L cap, .pointer (some ⟨s0, 1, none⟩), .int .i64 (t : Int), .pointer (some ⟨G, off + t, none⟩), undef, .slice (some ⟨G, off, none⟩) L cap, undef, undef, undef, undef, undef, undef, undef, undef, undef, undef], defers := [] } V.drew
    refine wpAnyH_take (i := 9) (v := .pointer (some ⟨s0, 0, none⟩)) rfl (by kernel_rfl) (by kernel_rfl) (by kernel_rfl) (fun _ _ _ h => h) (Or.inl ⟨by rfl, fun Z hZ => ?_⟩) HS0.out ?_
    · obtain ⟨k0, k1, k2, k3, k4⟩ := hZ
      go_simp
    change wpAnyH _ _ _ _ _ 11 #[true, true, true, true, true, true, true, false, true, true, false, false, false, false, false, false, false, false, false, false] { tmps := #[.slice (some ⟨G, off, none⟩) L cap, .pointer (some ⟨b1, 0, none⟩), .pointer (some ⟨s0, 0, none⟩), .slice (some ⟨G, off, none⟩) L cap, .int IntKind.i64 (L : Int), .func (Fn.func 108) #[] #[.pointer (some ⟨b1 + 1, 0, none⟩)], .agg #[.int IntKind.i64 (f : Int), .int IntKind.i64 (t : Int), .int IntKind.i64 d], .slice (some ⟨G, off, none⟩) L cap, .pointer (some ⟨s0, 1, none⟩), .int .i64 (t : Int), .slice (some ⟨G, off, none⟩) L cap, .pointer (some ⟨s0, 1, none⟩), .int .i64 (t : Int), .pointer (some ⟨G, off + t, none⟩), undef, .slice (some ⟨G, off, none⟩) L cap, .pointer (some ⟨s0, 0, none⟩), undef, undef, undef, undef, undef, undef, undef, undef, undef], defers := [] } V.drew
    refine wpAnyH_take (i := 10) (v := .int .i64 (f : Int)) rfl (by kernel_rfl) (by kernel_rfl) (by kernel_rfl) (fun _ _ _ h => h) (Or.inl ⟨by rfl, fun Z hZ => ?_⟩) HS0.out ?_
    · obtain ⟨k0, k1, k2, k3, k4⟩ := hZ
      go_simp
    change wpAnyH _ _ _ _ _ 10 #[true, true, true, true, true, true, true, false, true, true, true, false, false, false, false, false, false, false, false, false] { tmps := #[.slice (some ⟨G, off, none⟩) L cap, .pointer (some ⟨b1, 0, none⟩), .pointer (some ⟨s0, 0, none⟩), .slice (some ⟨G, off, none⟩) L cap, .int IntKind.i64 (L : Int), .func (Fn.func 108) #[] #[.pointer (some ⟨b1 + 1, 0, none⟩)], .agg #[.int IntKind.i64 (f : Int), .int IntKind.i64 (t : Int), .int IntKind.i64 d], .slice (some ⟨G, off, none⟩) L cap, .pointer (some ⟨s0, 1, none⟩), .int .i64 (t : Int), .slice (some ⟨G, off, none⟩) L cap, .pointer (some ⟨s0, 1, none⟩), .int .i64 (t : Int), .pointer (some ⟨G, off + t, none⟩), undef, .slice (some ⟨G, off, none⟩) L cap, .pointer (some ⟨s0, 0, none⟩), .int .i64 (f : Int), undef, undef, undef, undef, undef, undef, undef, undef], defers := [] } V.drew
    refine wpAnyH_take (i := 11) (v := .pointer (some ⟨G, off + f, none⟩)) rfl (by kernel_rfl) (by kernel_rfl) (by kernel_rfl) (fun _ _ _ h => h) (Or.inl ⟨by rfl, fun Z hZ => ?_⟩) HS0.out ?_
    · obtain ⟨k0, k1, k2, k3, k4⟩ := hZ
      go_simp
    change wpAnyH _ _ _ _ _ 9 #[true, true, true, true, true, true, true, false, true, true, true, true, false, false, false, false, false, false, false, false] { tmps := #[.slice (some ⟨G, off, none⟩) L cap, .pointer (some ⟨b1, 0, none⟩), .pointer (some ⟨s0, 0, none⟩), .slice (some ⟨G, off, none⟩) L cap, .int IntKind.i64 (L : Int), .func (Fn.func 108) #[] #[.pointer (some ⟨b1 + 1, 0, none⟩)], .agg #[.int IntKind.i64 (f : Int), .int IntKind.i64 (t : Int), .int IntKind.i64 d], .slice (some ⟨G, off, none⟩) L cap, .pointer (some ⟨s0, 1, none⟩), .int .i64 (t : Int), .slice (some ⟨G, off, none⟩) L cap, .pointer (some ⟨s0, 1, none⟩), .int .i64 (t : Int), .pointer (some ⟨G, off + t, none⟩), undef, .slice (some ⟨G, off, none⟩) L cap, .pointer (some ⟨s0, 0, none⟩), .int .i64 (f : Int), .pointer (some ⟨G, off + f, none⟩), undef, undef, undef, undef, undef, undef, undef], defers := [] } V.drew
    refine wpAnyH_take (i := 12) (v := .int .i64 X) rfl (by kernel_rfl) (by kernel_rfl) (by kernel_rfl) (fun _ _ _ h => h) (Or.inl ⟨by rfl, fun Z hZ => ?_⟩) HS0.out ?_
    · obtain ⟨k0, k1, k2, k3, k4⟩ := hZ
      go_simp
    change wpAnyH _ _ _ _ _ 8 #[true, true, true, true, true, true, true, false, true, true, true, true, true, false, false, false, false, false, false, false] { tmps := #[.slice (some ⟨G, off, none⟩) L cap, .pointer (some ⟨b1, 0, none⟩), .pointer (some ⟨s0, 0, none⟩), .slice (some ⟨G, off, none⟩) L cap, .int IntKind.i64 (L : Int), .func (Fn.func 108) #[] #[.pointer (some ⟨b1 + 1, 0, none⟩)], .agg #[.int IntKind.i64 (f : Int), .int IntKind.i64 (t : Int), .int IntKind.i64 d], .slice (some ⟨G, off, none⟩) L cap, .pointer (some ⟨s0, 1, none⟩), .int .i64 (t : Int), .slice (some ⟨G, off, none⟩) L cap, .pointer (some ⟨s0, 1, none⟩), .int .i64 (t : Int), .pointer (some ⟨G, off + t, none⟩), undef, .slice (some ⟨G, off, none⟩) L cap, .pointer (some ⟨s0, 0, none⟩), .int .i64 (f : Int), .pointer (some ⟨G, off + f, none⟩), .int .i64 X, undef, undef, undef, undef, undef, undef], defers := [] } V.drew
    refine wpAnyH_take (i := 13) (v := .pointer (some ⟨s0, 2, none⟩)) rfl (by kernel_rfl) (by kernel_rfl) (by kernel_rfl) (fun _ _ _ h => h) (Or.inl ⟨by rfl, fun Z hZ => ?_⟩) HS0.out ?_
    · obtain ⟨k0, k1, k2, k3, k4⟩ := hZ
      go_simp
    change wpAnyH _ _ _ _ _ 7 #[true, true, true, true, true, true, true, false, true, true, true, true, true, true, false, false, false, false, false, false] { tmps := #[.slice (some ⟨G, off, none⟩) L cap, .pointer (some ⟨b1, 0, none⟩), .pointer (some ⟨s0, 0, none⟩), .slice (some ⟨G, off, none⟩) L cap, .int IntKind.i64 (L : Int), .func (Fn.func 108) #[] #[.pointer (some ⟨b1 + 1, 0, none⟩)], .agg #[.int IntKind.i64 (f : Int), .int IntKind.i64 (t : Int), .int IntKind.i64 d], .slice (some ⟨G, off, none⟩) L cap, .pointer (some ⟨s0, 1, none⟩), .int .i64 (t : Int), .slice (some ⟨G, off, none⟩) L cap, .pointer (some ⟨s0, 1, none⟩), .int .i64 (t : Int), .pointer (some ⟨G, off + t, none⟩), undef, .slice (some ⟨G, off, none⟩) L cap, .pointer (some ⟨s0, 0, none⟩), .int .i64 (f : Int), .pointer (some ⟨G, off + f, none⟩), .int .i64 X, .pointer (some ⟨s0, 2, none⟩), undef, undef, undef, undef, undef], defers := [] } V.drew
    refine wpAnyH_take (i := 14) (v := .int .i64 d) rfl (by kernel_rfl) (by kernel_rfl) (by kernel_rfl) (fun _ _ _ h => h) (Or.inl ⟨by rfl, fun Z hZ => ?_⟩) HS0.out ?_
    · obtain ⟨k0, k1, k2, k3, k4⟩ := hZ
      go_simp
    change wpAnyH _ _ _ _ _ 6 #[true, true, true, true, true, true, true, false, true, true, true, true, true, true, true, false, false, false, false, false] { tmps := #[.slice (some ⟨G, off, none⟩) L cap, .pointer (some ⟨b1, 0, none⟩), .pointer (some ⟨s0, 0, none⟩), .slice (some ⟨G, off, none⟩) L cap, .int IntKind.i64 (L : Int), .func (Fn.func 108) #[] #[.pointer (some ⟨b1 + 1, 0, none⟩)], .agg #[.int IntKind.i64 (f : Int), .int IntKind.i64 (t : Int), .int IntKind.i64 d], .slice (some ⟨G, off, none⟩) L cap, .pointer (some ⟨s0, 1, none⟩), .int .i64 (t : Int), .slice (some ⟨G, off, none⟩) L cap, .pointer (some ⟨s0, 1, none⟩), .int .i64 (t : Int), .pointer (some ⟨G, off + t, none⟩), undef, .slice (some ⟨G, off, none⟩) L cap, .pointer (some ⟨s0, 0, none⟩), .int .i64 (f : Int), .pointer (some ⟨G, off + f, none⟩), .int .i64 X, .pointer (some ⟨s0, 2, none⟩), .int .i64 d, undef, undef, undef, undef], defers := [] } V.drew
    refine wpAnyH_take (i := 15) (v := .int .i64 (X - d)) rfl (by kernel_rfl) (by kernel_rfl) (by kernel_rfl) (fun _ _ _ h => h) (Or.inl ⟨by rfl, fun Z hZ => ?_⟩) HS0.out ?_
    · obtain ⟨k0, k1, k2, k3, k4⟩ := hZ
      go_simp
    change wpAnyH _ _ _ _ _ 5 #[true, true, true, true, true, true, true, false, true, true, true, true, true, true, true, true, false, false, false, false] { tmps := #[.slice (some ⟨G, off, none⟩) L cap, .pointer (some ⟨b1, 0, none⟩), .pointer (some ⟨s0, 0, none⟩), .slice (some ⟨G, off, none⟩) L cap, .int IntKind.i64 (L : Int), .func (Fn.func 108) #[] #[.pointer (some ⟨b1 + 1, 0, none⟩)], .agg #[.int IntKind.i64 (f : Int), .int IntKind.i64 (t : Int), .int IntKind.i64 d], .slice (some ⟨G, off, none⟩) L cap, .pointer (some ⟨s0, 1, none⟩), .int .i64 (t : Int), .slice (some ⟨G, off, none⟩) L cap, .pointer (some ⟨s0, 1, none⟩), .int .i64 (t : Int), .pointer (some ⟨G, off + t, none⟩), undef, .slice (some ⟨G, off, none⟩) L cap, .pointer (some ⟨s0, 0, none⟩), .int .i64 (f : Int), .pointer (some ⟨G, off + f, none⟩), .int .i64 X, .pointer (some ⟨s0, 2, none⟩), .int .i64 d, .int .i64 (X - d), undef, undef, undef], defers := [] } V.drew
    refine wpAnyH_ready (rs := [7]) (by kernel_rfl) (by simp) ?_
    refine AllReadyH.cons rfl (fun K hK => ?_) ?_
    · go_simp
      refine hK.out _ _ HS0.out (fun _ => ?_)
      change wpAnyH _ _ _ _ _ 4 #[true, true, true, true, true, true, true, true, true, true, true, true, true, true, true, true, false, false, false, false] { tmps := #[.slice (some ⟨G, off, none⟩) L cap, .pointer (some ⟨b1, 0, none⟩), .pointer (some ⟨s0, 0, none⟩), .slice (some ⟨G, off, none⟩) L cap, .int IntKind.i64 (L : Int), .func (Fn.func 108) #[] #[.pointer (some ⟨b1 + 1, 0, none⟩)], .agg #[.int IntKind.i64 (f : Int), .int IntKind.i64 (t : Int), .int IntKind.i64 d], .slice (some ⟨G, off, none⟩) L cap, .pointer (some ⟨s0, 1, none⟩), .int .i64 (t : Int), .slice (some ⟨G, off, none⟩) L cap, .pointer (some ⟨s0, 1, none⟩), .int .i64 (t : Int), .pointer (some ⟨G, off + t, none⟩), .int .i64 Y, .slice (some ⟨G, off, none⟩) L cap, .pointer (some ⟨s0, 0, none⟩), .int .i64 (f : Int), .pointer (some ⟨G, off + f, none⟩), .int .i64 X, .pointer (some ⟨s0, 2, none⟩), .int .i64 d, .int .i64 (X - d), undef, undef, undef], defers := [] } V.drew
      refine wpAnyH_ready (rs := [16]) (by kernel_rfl) (by simp) ?_
      refine AllReadyH.cons rfl (fun K hK => ?_) ?_
      · go_simp
        rw [← HW1.out]
        refine hK.out _ _ HS1.out (fun _ => ?_)
        change wpAnyH _ _ _ _ _ 3 #[true, true, true, true, true, true, true, true, true, true, true, true, true, true, true, true, true, false, false, false] { tmps := #[.slice (some ⟨G, off, none⟩) L cap, .pointer (some ⟨b1, 0, none⟩), .pointer (some ⟨s0, 0, none⟩), .slice (some ⟨G, off, none⟩) L cap, .int IntKind.i64 (L : Int), .func (Fn.func 108) #[] #[.pointer (some ⟨b1 + 1, 0, none⟩)], .agg #[.int IntKind.i64 (f : Int), .int IntKind.i64 (t : Int), .int IntKind.i64 d], .slice (some ⟨G, off, none⟩) L cap, .pointer (some ⟨s0, 1, none⟩), .int .i64 (t : Int), .slice (some ⟨G, off, none⟩) L cap, .pointer (some ⟨s0, 1, none⟩), .int .i64 (t : Int), .pointer (some ⟨G, off + t, none⟩), .int .i64 Y, .slice (some ⟨G, off, none⟩) L cap, .pointer (some ⟨s0, 0, none⟩), .int .i64 (f : Int), .pointer (some ⟨G, off + f, none⟩), .int .i64 X, .pointer (some ⟨s0, 2, none⟩), .int .i64 d, .int .i64 (X - d), .slice (some ⟨V.heap.size, 0, none⟩) 2 2, undef, undef], defers := [] } W1
        refine wpAnyH_ready (rs := [17]) (by kernel_rfl) (by simp) ?_
        refine AllReadyH.cons rfl (fun K hK => ?_) ?_
        · go_simp
          refine (greatest_any 0 _ [Y, X - d] W1 HI1.out).mono ?_
          rintro e w4 ⟨rfl, rfl⟩
          rw [HMx.out]
          refine hK.out _ _ HS1.out (fun _ => ?_)
          change wpAnyH _ _ _ _ _ 2 #[true, true, true, true, true, true, true, true, true, true, true, true, true, true, true, true, true, true, false, false] { tmps := #[.slice (some ⟨G, off, none⟩) L cap, .pointer (some ⟨b1, 0, none⟩), .pointer (some ⟨s0, 0, none⟩), .slice (some ⟨G, off, none⟩) L cap, .int IntKind.i64 (L : Int), .func (Fn.func 108) #[] #[.pointer (some ⟨b1 + 1, 0, none⟩)], .agg #[.int IntKind.i64 (f : Int), .int IntKind.i64 (t : Int), .int IntKind.i64 d], .slice (some ⟨G, off, none⟩) L cap, .pointer (some ⟨s0, 1, none⟩), .int .i64 (t : Int), .slice (some ⟨G, off, none⟩) L cap, .pointer (some ⟨s0, 1, none⟩), .int .i64 (t : Int), .pointer (some ⟨G, off + t, none⟩), .int .i64 Y, .slice (some ⟨G, off, none⟩) L cap, .pointer (some ⟨s0, 0, none⟩), .int .i64 (f : Int), .pointer (some ⟨G, off + f, none⟩), .int .i64 X, .pointer (some ⟨s0, 2, none⟩), .int .i64 d, .int .i64 (X - d), .slice (some ⟨V.heap.size, 0, none⟩) 2 2, .int .i64 M, undef], defers := [] } W1
          refine wpAnyH_take (i := 18) (v := .pointer (some ⟨G, off + t, none⟩)) rfl (by kernel_rfl) (by kernel_rfl) (by kernel_rfl) (fun _ _ _ h => h) (Or.inl ⟨by rfl, fun Z hZ => ?_⟩) HS1.out ?_
          · obtain ⟨k0, k1, k2, k3, k4⟩ := hZ
            go_simp
          change wpAnyH _ _ _ _ _ 1 #[true, true, true, true, true, true, true, true, true, true, true, true, true, true, true, true, true, true, true, false] { tmps := #[.slice (some ⟨G, off, none⟩) L cap, .pointer (some ⟨b1, 0, none⟩), .pointer (some ⟨s0, 0, none⟩), .slice (some ⟨G, off, none⟩) L cap, .int IntKind.i64 (L : Int), .func (Fn.func 108) #[] #[.pointer (some ⟨b1 + 1, 0, none⟩)], .agg #[.int IntKind.i64 (f : Int), .int IntKind.i64 (t : Int), .int IntKind.i64 d], .slice (some ⟨G, off, none⟩) L cap, .pointer (some ⟨s0, 1, none⟩), .int .i64 (t : Int), .slice (some ⟨G, off, none⟩) L cap, .pointer (some ⟨s0, 1, none⟩), .int .i64 (t : Int), .pointer (some ⟨G, off + t, none⟩), .int .i64 Y, .slice (some ⟨G, off, none⟩) L cap, .pointer (some ⟨s0, 0, none⟩), .int .i64 (f : Int), .pointer (some ⟨G, off + f, none⟩), .int .i64 X, .pointer (some ⟨s0, 2, none⟩), .int .i64 d, .int .i64 (X - d), .slice (some ⟨V.heap.size, 0, none⟩) 2 2, .int .i64 M, .pointer (some ⟨G, off + t, none⟩)], defers := [] } W1
          refine wpAnyH_ready (rs := [19]) (by kernel_rfl) (by simp) ?_
          refine AllReadyH.cons rfl (fun K hK => ?_) ?_
          · have cW := HCW.out
            have fW := HFW.out
            go_simp
            refine hK.out _ _ HS2.out (fun _ => ?_)
            exact wpAnyH_done (by kernel_rfl) HFin.out _
          · exact AllReadyH.nil
        · exact AllReadyH.nil
      · exact AllReadyH.nil
    · exact AllReadyH.nil
  case done =>
    rintro D xs' V hD hS ⟨hr, hu⟩ hK
    subst hS
    have HR := Lib.hid hr; have HU := Lib.hid hu; have HK := Lib.hid hK
    have HA := Lib.hid (show spA off N xs = (stL N).foldl (spStep off) xs from rfl)
    clear hr hu hK
    go_wp2
    refine ⟨by simp, .inl ⟨_, _, rfl, run_takeDeferred HK.out, ?_⟩⟩
    refine ⟨_, results_none rfl _ _ _, ⟨_, rfl⟩, ?_, ?_⟩
    · rw [HA.out]
      obtain ⟨c, hc, h1, h2⟩ := HR.out
      have := HWs.out
      have := HGb.out
      exact ⟨c, (World.putObj_heap_other (by omega)).trans hc, h1, h2⟩
    · have hall : Upd (fun j => j = G ∨ w.heap.size ≤ j) w (V.putObj D (.deferred none)) :=
        ((U2.out.mono (T := fun j => j = G ∨ w.heap.size ≤ j) (fun _ _ h => h.elim)).trans HU.out (fun k _ h => .inl h)).grown (grownBy_putObj' _ _ _) (fun k e hlt => by have := HWs.out; have := HB1.out; injection e with e; exact .inr (by omega))
      exact hall.mono (fun k hk h => by omega)
end Go.Proofs.YtgdndcbcdoogpaaDoor
