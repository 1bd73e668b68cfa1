/- Exp of the program -/
import Derived.Test.YtpmhioaoniijbaaDoorFR
namespace Go.Proofs.YtpmhioaoniijbaaDoor
open Go.RowKit Go.Shelf
attribute [local go_sem] Oper.semAt_some

/-- m after bits, the last one first -/
def exR : List Nat → Nat
  | [] => 1073741824
  | b :: t => if b = 1 then exR t * c8 (t.length + 1) / 1073741824 else exR t
def bitsR (v n : Nat) (pre : List Nat) : List Nat := (pre.map (bitAt v n)).reverse
theorem bitsR_snoc (v n : Nat) (pre : List Nat) (x : Nat) : bitsR v n (pre ++ [x]) = bitAt v n x :: bitsR v n pre := by simp [bitsR]
theorem bitsR_length (v n : Nat) (pre : List Nat) : (bitsR v n pre).length = pre.length := by simp [bitsR]
theorem exR_end (j : Nat) : ∀ k, exR (bitsR j 8 (List.range k)) = exM j k
  | 0 => rfl
  | k + 1 => by
    rw [List.range_succ, bitsR_snoc, exR, exR_end j k, bitsR_length, List.length_range, exM]
    rfl
theorem exM_ones : ∀ k, k < 8 → exM 255 (k + 1) = exM 255 k * c8 (k + 1) / 1073741824 := by
  intro k hk
  have : ∀ k, k < 8 → 255 / 2 ^ (7 - k) % 2 = 1 := by decide +kernel
  rw [exM, if_pos (this k hk)]
theorem exR_in : ∀ t : List Nat, t.length ≤ 8 → 1073741824 ≤ exR t ∧ exR t ≤ exM 255 t.length
  | [], _ => ⟨Nat.le_refl _, Nat.le_refl _⟩
  | b :: t, h => by
    simp only [List.length_cons] at h
    have ih := exR_in t (by omega)
    have hc := c8_le (t.length + 1) (by omega)
    have ho := exM_ones t.length (by omega)
    rw [List.length_cons, ho]
    have hup : exR t * c8 (t.length + 1) ≤ exM 255 t.length * c8 (t.length + 1) := Nat.mul_le_mul_right _ ih.2
    have hlo : 1073741824 * 1073741824 ≤ exR t * c8 (t.length + 1) := Nat.mul_le_mul ih.1 hc.1
    have hid : exR t * 1073741824 ≤ exR t * c8 (t.length + 1) := Nat.mul_le_mul_left _ hc.1
    unfold exR
    generalize exR t * c8 (t.length + 1) = x at *
    generalize exM 255 t.length * c8 (t.length + 1) = y at *
    generalize exR t = z at *
    split <;> omega
theorem exR_InM (t : List Nat) (h : t.length ≤ 8) : InM (exR t) := by
  have a := exR_in t h
  have b := exM_in 255 t.length (by omega) h
  unfold InM at *
  omega
theorem root_at (x : Int) (N c : Nat) (w : World) (hx : x.toNat = N) (h0 : 0 ≤ x) (h1 : x ≤ 4611686018427387904) (hr : rt N = c) :
    Calls Tryd.prog 72 #[.int .i64 x] w fun e w' => e = .returned (.int .i64 c) ∧ Upd NoB w w' := by
  have h := root_any x w h0 h1
  rw [hx, hr] at h
  exact h

theorem boxes4 (W : World) (o0 o1 o2 o3 : Obj) : ((((W.alloc o0).alloc o1).alloc o2).alloc o3).heap[W.heap.size]? = some o0 ∧ ((((W.alloc o0).alloc o1).alloc o2).alloc o3).heap[W.heap.size + 1]? = some o1 ∧
    ((((W.alloc o0).alloc o1).alloc o2).alloc o3).heap[W.heap.size + 2]? = some o2 ∧ ((((W.alloc o0).alloc o1).alloc o2).alloc o3).heap[W.heap.size + 3]? = some o3 ∧ Upd NoB W ((((W.alloc o0).alloc o1).alloc o2).alloc o3) := by
  have s1 : (W.alloc o0).heap.size = W.heap.size + 1 := by simp
  have s2 : ((W.alloc o0).alloc o1).heap.size = W.heap.size + 2 := by simp
  have s3 : (((W.alloc o0).alloc o1).alloc o2).heap.size = W.heap.size + 3 := by simp
  have h1 := heap_alloc_new (W.alloc o0) o1
  have h2 := heap_alloc_new ((W.alloc o0).alloc o1) o2
  have h3 := heap_alloc_new (((W.alloc o0).alloc o1).alloc o2) o3
  rw [s1] at h1
  rw [s2] at h2
  rw [s3] at h3
  have e1 : ∀ k, k < W.heap.size + 3 → ((((W.alloc o0).alloc o1).alloc o2).alloc o3).heap[k]? = (((W.alloc o0).alloc o1).alloc o2).heap[k]? := fun k hk => Below.heap_alloc _ _ _ (by omega)
  have e2 : ∀ k, k < W.heap.size + 2 → (((W.alloc o0).alloc o1).alloc o2).heap[k]? = ((W.alloc o0).alloc o1).heap[k]? := fun k hk => Below.heap_alloc _ _ _ (by omega)
  have e3 : ∀ k, k < W.heap.size + 1 → ((W.alloc o0).alloc o1).heap[k]? = (W.alloc o0).heap[k]? := fun k hk => Below.heap_alloc _ _ _ (by omega)
  exact ⟨(e1 _ (by omega)).trans ((e2 _ (by omega)).trans ((e3 _ (by omega)).trans (heap_alloc_new W _))), (e1 _ (by omega)).trans ((e2 _ (by omega)).trans h1), (e1 _ (by omega)).trans h2, h3, ((((Upd.refl _ _).alloc _).alloc _).alloc _).alloc _⟩
theorem keeps_of_upd {S : Nat → Prop} {W W' : World} {B : Nat} (h : Upd S W W') (hs : ∀ k, B ≤ k → ¬ S k) : KeepsFrom B W W' :=
  ⟨h.size, fun k o hB hk _ => (h.block k (lt_of_block hk) (hs k hB)).trans hk⟩
theorem heap_later {W : World} {D : Nat} {o : Obj} (h : W.heap[D]? = some o) {b i : Nat} {u : Value} (hb : b ≠ D) : (W.setCell ⟨b, i, none⟩ u).heap[D]? = some o :=
  (Below.heap_setCell _ _ _ _ (fun e => hb e.symm)).trans h
set_option maxRecDepth 100000 in
set_option maxHeartbeats 2000000 in
theorem Exp_any (q : Int) (w : World) : Calls Tryd.prog 47 #[.int .i64 q] w fun e w' => e = .returned (.tuple #[.int .i64 (onOk (exE q) (expN q.toNat : Nat)), .int .i64 (exE q)]) ∧ Upd NoB w w' := by
  rcases exE_cases q with ⟨h, e⟩ | ⟨h1, h, e⟩ | ⟨h1, h, e⟩
  · have V := Lib.hid (show onOk (exE q) (expN q.toNat : Nat) = 0 by rw [e]; rfl)
    have E := Lib.hid e; clear e
    go_enter Tryd.func47, Tryd.ntmps47
    go_wp2
    go_ret2
    exact ⟨ret2_int V.out.symm E.out.symm, Upd.refl _ _⟩
  · have V := Lib.hid (show onOk (exE q) (expN q.toNat : Nat) = 0 by rw [e]; rfl)
    have E := Lib.hid e; clear e
    go_enter Tryd.func47, Tryd.ntmps47
    go_wp2
    go_ret2
    exact ⟨ret2_int V.out.symm E.out.symm, Upd.refl _ _⟩
  · have V := Lib.hid (show onOk (exE q) (expN q.toNat : Nat) = (expN q.toNat : Nat) by rw [e]; rfl)
    have E := Lib.hid e; clear e
    obtain ⟨n, rfl⟩ : ∃ n : Nat, q = n := ⟨q.toNat, by omega⟩
    rw [Int.toNat_natCast] at V ⊢
    have hx : expN n = shl (exM (n % 256) 8) (n / 256) := expN_eq n
    obtain ⟨j, hj⟩ : ∃ j, n % 256 = j := ⟨_, rfl⟩
    obtain ⟨g, hg⟩ : ∃ g, n / 256 = g := ⟨_, rfl⟩
    rw [hj, hg] at hx
    have j1 : (n : Int) % 256 = (j : Int) := by omega
    have g1 : (n : Int) / 256 = (g : Int) := by omega
    have j2 : j ≤ 255 := by omega
    have g2 : g ≤ 61 := by omega
    have X := Lib.hid hx; clear hx hj hg
    refine (callsIn_wide (n := 2)).1 ?_
    refine callsIn_of_wp_marks Tryd.func47 rfl trivial (wpIn_wide.2 ?_) rfl
    simp only [Tryd.ntmps47, List.size_toArray, List.length_cons, List.length_nil, Nat.reduceAdd, Nat.reduceSub, Array.replicate_succ, Array.replicate_zero, List.push_toArray, List.append_toArray, List.nil_append, List.cons_append]
    go_wp2_with fail
    refine (digits_in (j : Int) 8 _).mono ?_
    rintro e w2 ⟨rfl, rfl⟩
    obtain ⟨W, hW⟩ : ∃ W, W = (((w.alloc (.cells #[.int .i64 1073741824] 3)).alloc (.cells #[.int .i64 2147483648] 3)).alloc (.cells #[.int .i64 j] 3)).alloc (.cells #[.int .i64 8] 3) := ⟨_, rfl⟩
    rw [← hW]
    obtain ⟨b0, b1, b2, b3, hu⟩ := boxes4 w (.cells #[.int .i64 1073741824] 3) (.cells #[.int .i64 2147483648] 3) (.cells #[.int .i64 j] 3) (.cells #[.int .i64 8] 3)
    rw [← hW] at b0 b1 b2 b3 hu
    clear hW
    have hsz := lt_of_block b3
    go_wp2_with fail
    have hkD : ∀ {k : Nat}, digD (w.heap.size + 2) k → ∀ W' : World, Upd (fun k => k = w.heap.size ∨ k = w.heap.size + 1) W W' → k < W'.heap.size := fun hk W' h => by
      have := h.size
      rcases hk with rfl | rfl <;> omega
    refine (wpIn_wide (n := 2)).1 (wpIn_rangeFunc_ownG rfl (by omega) (gf := 88) (lb := #[.pointer (some ⟨w.heap.size + 2 + 1, 0, none⟩), .pointer (some ⟨w.heap.size + 2, 0, none⟩)]) rfl trivial (enters_of Tryd.func88 (by kernel_rfl) rfl)
      (digits_seq (w.heap.size + 2) j 8 W (by omega) (by omega) (cell_of_one b3) (cell_of_one b2) hsz) (fun h k => h.trans k)
      (fun W' l o o' hl _ _ _ => keepD_putObj (fun hd => by rcases hd with rfl | rfl <;> omega)) (Below.refl _ _) (fun _ => rfl)
      (fun pre W' => W'.heap[w.heap.size]? = some (.cells #[.int .i64 (exR (bitsR j 8 pre) : Nat)] 3 (0, 0)) ∧ W'.heap[w.heap.size + 1]? = some (.cells #[.int .i64 (c8 pre.length : Nat)] 3 (0, 0)) ∧ Upd (fun k => k = w.heap.size ∨ k = w.heap.size + 1) W W' ∧ pre.length ≤ 8)
      (fun _ _ _ => False) ?hI (fun _ _ _ _ _ hs _ _ => hs) ⟨b0, b1, Upd.refl _ _, by simp⟩
      (fun x => { tmps := #[.int .i64 n, undef, .int .i64 0, .int .i64 0, .pointer (some ⟨w.heap.size, 0, none⟩), .pointer (some ⟨w.heap.size + 1, 0, none⟩), undef, .int .i64 (bitAt j 8 x : Nat), .int .i64 n, .bool false, .bool false, .int .i64 n, .bool false, .bool false, .int .i64 n, .int .i64 j, .func (.func 88) #[] #[.pointer (some ⟨w.heap.size + 1 + 1 + 1, 0, none⟩), .pointer (some ⟨w.heap.size + 1 + 1, 0, none⟩)], .int .i64 x, .int .i64 (bitAt j 8 x : Nat), undef, undef, undef, undef, undef, undef, undef, undef, undef, undef, undef, undef, undef, undef], defers := [] }) ?assign ?body ?done ?stop)
    case hI =>
      rintro s A B row ⟨h1, h2, h3, h4⟩ hg hr
      refine ⟨(hg.block _ (lt_of_block h1) (fun e => ?_)).trans h1, (hg.block _ (lt_of_block h2) (fun e => ?_)).trans h2, h3.grown hg (fun k e hk => ?_), h4⟩
      · have := (hr _ e.symm).1; omega
      · have := (hr _ e.symm).1; omega
      · have := (hr k e).1; omega
    case assign =>
      intro l x W' K hK
      gi_wp2
      exact hK
    case body =>
      rintro l pre x W' ⟨hm, hc, hu', hl⟩ hN
      have hlen := bitsR_length j 8 pre
      have hin := exR_InM (bitsR j 8 pre) (by omega)
      have hnext : exR (bitsR j 8 (pre ++ [x])) = if bitAt j 8 x = 1 then exR (bitsR j 8 pre) * c8 (pre.length + 1) / 1073741824 else exR (bitsR j 8 pre) := by
        rw [bitsR_snoc, exR, hlen]
      have hy1 : bitAt j 8 x ≤ 1 := by unfold bitAt; omega
      have Hroot := Lib.hid (c8_root pre.length hN)
      have c1 := c8_le pre.length (by omega)
      have c2 := c8_le (pre.length + 1) (by omega)
      unfold InM at hin
      obtain ⟨c', ec'⟩ : ∃ c', c8 (pre.length + 1) = c' := ⟨_, rfl⟩
      have hlen2 : (pre ++ [x]).length = pre.length + 1 := by simp
      rw [ec'] at Hroot c2 hnext
      have Ec' := Lib.hid ec'; clear ec'
      have Hlen2 := Lib.hid hlen2; clear hlen2 hlen
      generalize exR (bitsR j 8 pre) = m at *
      generalize c8 pre.length = c at *
      generalize bitAt j 8 x = y at *
      have d0 := cell_of_one hm
      have d1 := cell_of_one hc
      have f0 := free_of_one hm
      have f1 := free_of_one hc
      obtain ⟨X1, ex⟩ : ∃ X1 : Int, (c : Int) * 1073741824 = X1 := ⟨_, rfl⟩
      obtain ⟨N, eN⟩ : ∃ N : Nat, c * 1073741824 = N := ⟨_, rfl⟩
      rw [eN] at Hroot
      have Ro := Lib.hid (fun w => root_at X1 N c' w (by omega) (by omega) (by omega) Hroot.out)
      have w1 : wrap64 ((c : Int) * 1073741824) = X1 := by rw [ex]; exact IntWalk.wrap64_in _ (by omega)
      have w1' : wrap64 X1 = X1 := IntWalk.wrap64_in _ (by omega)
      have w1'' : IntKind.i64.wrap ((c : Int) * 1073741824) = X1 := by rw [ex]; exact IntWalk.i64_in _ (by omega)
      have hb := Nat.mul_lt_mul_of_lt_of_le hin.2 c2.2 (by omega)
      obtain ⟨z, hz⟩ : ∃ z, m * c' / 1073741824 = z := ⟨_, rfl⟩
      have b2 : (m : Int) * c' = ((m * c' : Nat) : Int) := by simp
      have w2 : IntKind.i64.wrap ((m : Int) * c') = (m : Int) * c' := IntWalk.i64_in _ (by omega)
      have w3 : (m : Int) * c' / 1073741824 = (z : Int) := by omega
      have b3 : (0 : Int) ≤ (m : Int) * c' := by omega
      have b4 : (m : Int) * c' ≤ 4611686018427387904 := by omega
      have W3 := Lib.hid w3
      rw [hz] at hnext
      have Hnext := Lib.hid hnext; clear hnext
      have Hm := Lib.hid hm; have Hc := Lib.hid hc; have Hu := Lib.hid hu'; clear hm hc hu'
      clear hb hz b2 ex eN hin c1 c2
      gi_wp2
      refine ⟨trivial, rfl, ((callsIn_wide.2 (Ro.out W')).inRound l).mono ?_⟩
      rintro e W2 ⟨rfl, u2⟩
      have hm2 := u2.heap Hm.out (noB _)
      have hc2 := u2.heap Hc.out (noB _)
      have d0 := cell_of_one hm2
      have d1 := cell_of_one hc2
      have f0 := free_of_one hm2
      have f1 := free_of_one hc2
      have Hm2 := Lib.hid hm2; have Hc2 := Lib.hid hc2; have U2 := Lib.hid u2; clear hm2 hc2 u2
      by_cases hy : y = 1
      · subst hy
        gi_wp2
        have hall : Upd (fun k => k = w.heap.size ∨ k = w.heap.size + 1) W' ((W2.setCell ⟨w.heap.size + 1, 0, none⟩ (.int .i64 c')).setCell ⟨w.heap.size, 0, none⟩ (.int .i64 z)) :=
          ((U2.out.mono (fun _ _ h => h.elim)).setCell _ (fun _ => .inr rfl)).setCell _ (fun _ => .inl rfl)
        first
          | refine ⟨keeps_of_upd hall (fun k hB e => by omega), fun k hk => hall.block k (hkD hk W' Hu.out) (by rcases hk with rfl | rfl <;> omega), ?_, ?_, Hu.out.trans hall (fun _ _ h => h), by rw [Hlen2.out]; omega⟩
          | (rw [W3.out]; refine ⟨keeps_of_upd hall (fun k hB e => by omega), fun k hk => hall.block k (hkD hk W' Hu.out) (by rcases hk with rfl | rfl <;> omega), ?_, ?_, Hu.out.trans hall (fun _ _ h => h), by rw [Hlen2.out]; omega⟩)
        · rw [Hnext.out]
          simp only [if_true, reduceIte]
          exact one_setCell (heap_later Hm2.out (by omega))
        · rw [Hlen2.out, Ec'.out]
          exact heap_later (one_setCell Hc2.out) (by omega)
      · obtain rfl : y = 0 := by omega
        gi_wp2
        have hall : Upd (fun k => k = w.heap.size ∨ k = w.heap.size + 1) W' (W2.setCell ⟨w.heap.size + 1, 0, none⟩ (.int .i64 c')) :=
          (U2.out.mono (fun _ _ h => h.elim)).setCell _ (fun _ => .inr rfl)
        refine ⟨keeps_of_upd hall (fun k hB e => by omega), fun k hk => hall.block k (hkD hk W' Hu.out) (by rcases hk with rfl | rfl <;> omega), ?_, ?_, Hu.out.trans hall (fun _ _ h => h), by rw [Hlen2.out]; omega⟩
        · rw [Hnext.out, if_neg (by omega)]
          exact heap_later Hm2.out (by omega)
        · rw [Hlen2.out, Ec'.out]
          exact one_setCell Hc2.out
    case done =>
      rintro D ys W' hD' hS ⟨hm, hc, hu', hl⟩ hK
      rw [hS, exR_end] at hm
      have d0 := cell_of_one hm
      obtain ⟨m, em⟩ : ∃ m, exM j 8 = m := ⟨_, rfl⟩
      have hmI := exM_in j 8 (by omega) (by omega)
      have hs := shl_in g hmI
      have hg3 := Nat.pow_le_pow_right (show 0 < 2 by omega) (show g + 1 ≤ 62 by omega)
      rw [em] at X d0 hs hmI
      have sc : ∀ w, Calls Tryd.prog 78 #[.int .i64 m, .int .i64 ((g : Int) - 30)] w fun r w' => r = .returned (.int .i64 (shl m g : Nat)) ∧ w' = w := by
        intro w
        unfold InM at hmI
        have hs2 : shl m g ≤ 4611686018427387904 := by omega
        unfold shl at hs2 ⊢
        by_cases h30 : g ≤ 30
        · rw [if_pos h30]
          by_cases h31 : g = 30
          · subst h31
            have := scaled_left m 0 w (by omega) (by omega)
            simpa using this
          · rw [show ((g : Int) - 30) = -((30 - g : Nat) : Int) by omega]
            exact scaled_right m (30 - g) w (by omega) (by omega)
        · rw [if_neg h30] at hs2 ⊢
          rw [show ((g : Int) - 30) = ((g - 30 : Nat) : Int) by omega]
          exact scaled_left m (g - 30) w (by omega) (by omega)
      have Sc := Lib.hid sc
      have HK := Lib.hid hK
      have UU := Lib.hid (((hu.mono (fun _ _ h => h.elim)).trans hu' (fun _ _ h => h)).grown (grownBy_putObj' W' D (.deferred none)) (fun k e hlt => by cases e; have := hu.size; omega))
      clear sc hs hg3 hmI em hK hm hc hS
      go_wp2_with fail
      refine (Sc.out _).mono ?_
      rintro e w3 ⟨rfl, rfl⟩
      go_wp2
      refine ⟨by simp, .inl ⟨_, _, rfl, run_takeDeferred HK.out, ?_⟩⟩
      refine ⟨_, results_tmp2 (t := 2) (u := 3) rfl _ _ _, ?_, UU.out.mono (fun k hk h => by rcases h with rfl | rfl <;> omega)⟩
      exact ret2_int (by rw [V.out, X.out]) E.out.symm
    case stop =>
      rintro D c pre W _ _ h _
      exact h.elim
end Go.Proofs.YtpmhioaoniijbaaDoor
