/- energy: Spread -/
import Derived.Test.YtgdndcbcdoogpaaDoorOS
namespace Go.Proofs.YtgdndcbcdoogpaaDoor
open Go.RowKit Go.Shelf
attribute [local go_sem] Oper.semAt_some

def sdK (m : Nat) : Nat → List Int → List Int
  | 0, xs => xs
  | k + 1, xs => spA (m * k) (m - 1) (sdK m k xs)
def sdE (xs : List Int) (n : Int) : Int := if n < 1 ∨ 15 < n then 1 else if 32 < xs.length then 2 else if xs.length % n.toNat = 0 then (if inB 0 15872 xs then 0 else 6) else 4
def sdS (xs : List Int) (n : Int) : List Int := if sdE xs n = 0 then sdK n.toNat (xs.length / n.toNat) xs else []
theorem spA_len (off N : Nat) (xs : List Int) : (spA off N xs).length = xs.length := spF_len _ _ _
theorem sdK_len (m k : Nat) (xs : List Int) : (sdK m k xs).length = xs.length := by
  induction k with
  | zero => rfl
  | succ k ih => show (spA _ _ _).length = _; rw [spA_len, ih]
theorem CoS.spA {xs : List Int} (h : CoS xs) (off N : Nat) : CoS (spA off N xs) := h.foldl off fun _s hs => (stL_mem hs).2.2.2.1
theorem CoS.sdK {xs : List Int} (h : CoS xs) (m : Nat) : ∀ k, CoS (sdK m k xs)
  | 0 => h
  | k + 1 => (CoS.sdK h m k).spA _ _
theorem coS_of {xs : List Int} (h : inB 0 15872 xs = true) : CoS xs := fun _ _ hj => inB_yes h hj
theorem sd_full (m k L : Nat) (hm : 1 ≤ m) (hL : L % m = 0) (hk : k < L / m) : m * k + (m - 1) + 1 ≤ L := by
  have h1 : m * (L / m) = L := by have := Nat.div_add_mod L m; omega
  have h2 : m * (k + 1) ≤ m * (L / m) := Nat.mul_le_mul_left m (by omega)
  rw [Nat.mul_add, Nat.mul_one, h1] at h2
  omega
theorem Spread_few (sv : Value) (xs : List Int) (n : Int) (w : World) (h : Ints w sv xs) (hn : n < 1 ∨ 15 < n) : Calls Tryd.prog 47 #[sv, .int .i64 n] w (EInts w (sdS xs n) (sdE xs n)) := by
  have HE := Lib.hid (show sdE xs n = 1 from if_pos hn)
  have HS := Lib.hid (show sdS xs n = [] from if_neg (by rw [HE.out]; decide))
  rw [HE.out, HS.out]
  obtain ⟨a, cap, rfl⟩ := h.form
  by_cases h1 : n < 1
  · have t1 : decide (n < 1) = true := decide_eq_true h1
    clear h hn
    go_enter Tryd.func47, Tryd.ntmps47
    go_wp2_with fail
    go_ret2
    exact ⟨none, 0, 0, rfl, World.ownsRow_nil _ _ _ _, Upd.refl _ _⟩
  · have h2 : 15 < n := by omega
    have t1 : decide (n < 1) = false := decide_eq_false h1
    have t2 : decide (15 < n) = true := decide_eq_true h2
    clear h hn
    go_enter Tryd.func47, Tryd.ntmps47
    go_wp2_with fail
    go_ret2
    exact ⟨none, 0, 0, rfl, World.ownsRow_nil _ _ _ _, Upd.refl _ _⟩
set_option maxRecDepth 100000 in
set_option maxHeartbeats 4000000 in
theorem Spread_any (sv : Value) (xs : List Int) (n : Int) (w : World) (h : Ints w sv xs) : Calls Tryd.prog 47 #[sv, .int .i64 n] w (EInts w (sdS xs n) (sdE xs n)) := by
  by_cases hn : n < 1 ∨ 15 < n
  · exact Spread_few sv xs n w h hn
  obtain ⟨m, rfl⟩ : ∃ m : Nat, n = (m : Int) := ⟨n.toNat, by omega⟩
  have hm1 : 1 ≤ m := by omega
  have hm2 : m ≤ 15 := by omega
  have HE0 := Lib.hid (show sdE xs (m : Int) = if 32 < xs.length then 2 else if xs.length % (m : Int).toNat = 0 then (if inB 0 15872 xs then 0 else 6) else 4 from if_neg hn)
  have t1 : decide ((m : Int) < 1) = false := decide_eq_false (by omega)
  have t1n : decide (m < 1) = false := decide_eq_false (by omega)
  have t2 : decide ((15 : Int) < (m : Int)) = false := decide_eq_false (by omega)
  have t2n : decide (15 < m) = false := decide_eq_false (by omega)
  have HI := Lib.hid (within_any sv xs 0 15872 w h)
  have HX := Lib.hid h
  obtain ⟨a, cap, rfl⟩ := h.form
  by_cases hl : 32 < xs.length
  · have HE := Lib.hid (show sdE xs (m : Int) = 2 by rw [HE0.out, if_pos hl])
    have HS := Lib.hid (show sdS xs (m : Int) = [] from if_neg (by rw [HE.out]; decide))
    rw [HE.out, HS.out]
    generalize xs.length = L at *
    have t3 : decide ((32 : Int) < (L : Int)) = true := decide_eq_true (by omega)
    have t3n : decide (32 < L) = true := decide_eq_true hl
    clear h hl hn
    go_enter Tryd.func47, Tryd.ntmps47
    go_wp2_with fail
    go_ret2
    exact ⟨none, 0, 0, rfl, World.ownsRow_nil _ _ _ _, Upd.refl _ _⟩
  · rw [if_neg hl, Int.toNat_natCast] at HE0
    have t3 : decide ((32 : Int) < (xs.length : Int)) = false := decide_eq_false (by omega)
    have t3n : decide (32 < xs.length) = false := decide_eq_false hl
    have tz : ¬ m = 0 := by omega
    by_cases hr : xs.length % m = 0
    · have t4 : (xs.length : Int) % (m : Int) = 0 := by omega
      rw [if_pos hr] at HE0
      cases hin : inB 0 15872 xs with
      | false =>
        have HE := Lib.hid (show sdE xs (m : Int) = 6 by rw [HE0.out, hin]; rfl)
        have HS := Lib.hid (show sdS xs (m : Int) = [] from if_neg (by rw [HE.out]; decide))
        rw [HE.out, HS.out]
        rw [hin] at HI
        generalize xs.length = L at *
        clear h hl hin hn hr
        go_enter Tryd.func47, Tryd.ntmps47
        go_wp2_with fail
        refine HI.out.mono ?_
        rintro e w1 ⟨rfl, u1⟩
        have U1 := Lib.hid u1
        clear u1
        go_wp2_with fail
        go_ret2
        exact ⟨none, 0, 0, rfl, World.ownsRow_nil _ _ _ _, U1.out⟩
      | true =>
        have HE := Lib.hid (show sdE xs (m : Int) = 0 by rw [HE0.out, hin]; rfl)
        have HS := Lib.hid (show sdS xs (m : Int) = sdK m (xs.length / m) xs by unfold sdS; rw [if_pos HE.out, Int.toNat_natCast])
        have HC := Lib.hid (coS_of hin)
        have HK := Lib.hid (fun k => sdK_len m k xs)
        have HFull := Lib.hid (fun k (hk : k < xs.length / m) => sd_full m k xs.length hm1 hr hk)
        have HLM := Lib.hid (show xs.length = m * (xs.length / m) by have := Nat.div_add_mod xs.length m; omega)
        have HL32 := Lib.hid (show xs.length ≤ 32 by omega)
        have HXs := Lib.hid (show xs.length = (sdK m (xs.length / m) xs).length from (HK.out _).symm)
        rw [HE.out, HS.out]
        rw [hin] at HI
        obtain ⟨M, hM⟩ : ∃ M, xs.length / m = M := ⟨_, rfl⟩
        rw [hM] at HFull HLM HXs ⊢
        obtain ⟨L, hL⟩ : ∃ L, xs.length = L := ⟨_, rfl⟩
        have HLe := Lib.hid hL
        rw [hL] at HI HX HK HFull HLM HL32 HXs t3 t3n t4 ⊢
        have HM1 := Lib.hid hm1; have HM2 := Lib.hid hm2
        clear h hl hin hn hr hL hM hm2
        refine (callsIn_wide (n := 2)).1 ?_
        refine callsIn_of_wp_marks Tryd.func47 rfl trivial (wpIn_wide.2 ?_) rfl
        simp only [Tryd.ntmps47, List.size_toArray, List.length_cons, List.length_nil, Nat.reduceAdd, Nat.reduceSub, Array.replicate_succ, Array.replicate_zero, List.push_toArray, List.append_toArray, List.nil_append, List.cons_append]
        go_wp2_with fail
        refine HI.out.mono ?_
        rintro e w1 ⟨rfl, u1⟩
        have U1 := Lib.hid u1
        clear u1
        go_wp2_with fail
        refine (iclone_any _ xs w1 (HX.out.later U1.out)).mono ?_
        rintro e w2 ⟨v2, rfl, r2, u2⟩
        rw [HLe.out] at r2
        obtain ⟨ac, cc, rfl⟩ := row_form r2
        have R2 := Lib.hid (row_base r2 U1.out.size); have U2 := Lib.hid (U1.out.then u2)
        have HCc := Lib.hid (show L ≤ cc by
          by_cases h0 : L = 0
          · omega
          · rcases r2.2 with ⟨h', _⟩ | ⟨g', cap', cur, h', hb, hg, hnc, hcm, hcs, htake⟩
            · omega
            · injection h' with _ _ h3; omega)
        clear r2 u2
        go_wp2_with fail
        refine (chunk_any _ m w2 HM1.out ⟨_, _, _, rfl⟩).mono ?_
        obtain ⟨B, hB⟩ : ∃ B, w2.heap.size = B := ⟨_, rfl⟩
        rw [hB]
        rintro e W ⟨rfl, hW⟩
        have u3 : Upd NoB w2 W := by rw [hW]; exact ((Upd.refl _ _).alloc _).alloc _
        have b1 : W.heap[B]? = some (.cells #[.slice ac L cc] 22 (0, 0)) := by rw [hW, ← hB]; exact ((Upd.refl NoB _).alloc _).heap (heap_alloc_new w2 _) (noB _)
        have b2 : W.heap[B + 1]? = some (.cells #[.int .i64 (m : Int)] 3 (0, 0)) := by
          have s1 : (w2.alloc (.cells #[.slice ac L cc] 22)).heap.size = B + 1 := by simp [hB]
          rw [hW, ← s1]; exact heap_alloc_new _ _
        have hWs : W.heap.size = B + 2 := by rw [hW]; simp [hB]
        have HSq := Lib.hid (chunk1_seq B 1 ac m L cc M W HM1.out HLM.out (by have := HL32.out; omega) HCc.out (blk_cell b1 0) (blk_cell b2 0) (lt_of_block b2))
        have HU3 := Lib.hid (U2.out.then u3); have HWs := Lib.hid hWs; have HBw := Lib.hid (show w.heap.size ≤ B by rw [← hB]; exact U2.out.size)
        have HOw := Lib.hid (fun b (hb : ac = some ⟨b, 0, none⟩) (h0 : 0 < L) => (show OwnR W b cc xs ∧ w.heap.size ≤ b ∧ b < B ∧ cc ≤ maxLen by
          have hr := R2.out
          subst hb
          rw [← HLe.out] at hr
          obtain ⟨o1, o2, o3⟩ := OwnR.of hr
          exact ⟨o1.upd u3 (noB _), o2, by rw [← hB]; exact (hr.lt b (by simp [Value.ownBlock])).2, o3⟩))
        have HRow := Lib.hid (u3.row R2.out (fun k _ => noB k))
        clear u3 b1 b2 hWs hW hB
        go_wp2_with fail
        refine (wpIn_wide (n := 2)).1 (wpIn_rangeN rfl (by omega) (gf := 100) (lb := #[.pointer (some ⟨B, 0, none⟩), .pointer (some ⟨B + 1, 0, none⟩)]) rfl trivial (enters_of Tryd.func100 (by kernel_rfl) rfl) HSq.out (fun h k => ⟨h.1.trans k.1, Nat.le_trans h.2 k.2⟩) (fun W' l o' hl => ⟨keepD_putObj (fun hd => by have := HWs.out; rcases hd with rfl | rfl <;> omega), (grownBy_putObj' W' l o').size⟩) (Below.refl _ _) (fun _ => rfl)
          (fun k W' => (∀ b, ac = some ⟨b, 0, none⟩ → 0 < L → OwnR W' b cc (sdK m k xs)) ∧ Upd (fun j => 0 < L ∧ w.heap.size ≤ j ∧ j < B) W W')
          ?hI ⟨fun b hb h0 => (HOw.out b hb h0).1, Upd.refl _ _⟩
          (fun k a' _ => a' = { tmps := #[.slice a L cap, .int .i64 (m : Int), undef, undef, .slice none 0 0, .int .i64 0, .slice ac L cc, .slice (ac.map (·.add (m * k))) m m, .int .i64 (m : Int), .bool false, .bool false, .int .i64 (m : Int), .bool false, .bool false, .slice a L cap, .int .i64 (L : Int), .bool false, .slice a L cap, .int .i64 (L : Int), .int .i64 (m : Int), .int .i64 0, .bool false, .slice a L cap, .bool true, .bool false, .slice a L cap, .slice ac L cc, .slice ac L cc, .int .i64 (m : Int), .func (.func 100) #[] #[.pointer (some ⟨B, 0, none⟩), .pointer (some ⟨B + 1, 0, none⟩)], .slice (ac.map (·.add (m * k))) m m, undef, undef, undef], defers := [] }) (fun _ _ _ _ _ _ hs _ _ => hs) ?assign ?body ?done)
        case hI =>
          rintro s A B' row ⟨h1, h4⟩ hg hr
          refine ⟨fun b hb h0 => ?_, h4.grown hg (fun k e hk => ?_)⟩
          · obtain ⟨c, h2, h3⟩ := h1 b hb h0
            refine ⟨c, (hg.block _ (lt_of_block h2) (fun e => ?_)).trans h2, h3⟩
            have := (hr _ e.symm).1; have := HWs.out; have := (HOw.out b hb h0).2.2.1; omega
          · have := (hr k e).1; have := HWs.out; omega
        case assign =>
          intro l k W' K hi hk hK
          gi_wp2
          exact hK _ _ (KeepsFrom.refl _ _) ⟨⟨KeepD.refl _ _, Nat.le_refl _⟩, Win.refl _ _ _⟩ hi rfl
        case body =>
          rintro l k a' V ⟨h1, hu⟩ rfl hV hk
          have hf := HFull.out k hk
          have h0 : 0 < L := by omega
          obtain ⟨G, c4, e4⟩ := row_slice R2.out h0
          injection e4 with e5 _ _
          subst e5
          obtain ⟨oG, g1, g2, g3⟩ := HOw.out G rfl h0
          have hNm : m - 1 + 1 = m := by have := HM1.out; omega
          have HSp := Lib.hid (spread_any G (m * k) (m - 1) m cc (sdK m k xs) V (h1 G rfl h0) (by have := HM2.out; omega) (by rw [HK.out k]; exact hf) (HC.out.sdK m k))
          rw [hNm] at HSp
          have HU := Lib.hid hu; have HG1 := Lib.hid g1; have HG2 := Lib.hid g2; have H0 := Lib.hid h0; have HV := Lib.hid hV
          have hoff : (⟨G, 0, none⟩ : Addr).add (m * k) = ⟨G, m * k, none⟩ := by rw [addr_add, Nat.zero_add]
          simp only [Option.map_some, hoff]
          clear h1 hu hf g1 g2 g3 oG h0 hV hk
          gi_wp2
          refine ⟨trivial, rfl, (callsIn_wide.2 HSp.out).mono ?_⟩
          rintro e V2 ⟨⟨v, rfl⟩, o2, u2⟩
          have HO2 := Lib.hid o2; have HU2 := Lib.hid u2
          clear o2 u2
          gi_wp2
          have hWs := HWs.out
          have hG2 := HG2.out
          exact ⟨keeps_of_upd HU2.out (fun j hj (e : j = G) => by omega), ⟨⟨HU2.out.keepD (fun j hj => by have := HV.out; rcases hj with rfl | rfl <;> exact ⟨by omega, fun e => by omega⟩), HU2.out.size⟩, fun j h1 h2 => by omega⟩,
            fun b hb _ => by cases hb; exact HO2.out, HU.out.trans HU2.out (fun j _ e => by have e2 : j = G := e; rw [e2]; exact ⟨H0.out, HG1.out, HG2.out⟩)⟩
        case done =>
          rintro D V hD ⟨h1, hu⟩ hK
          have H1 := Lib.hid h1; have HU := Lib.hid hu; have HKd := Lib.hid hK
          clear h1 hu hK
          go_wp2
          refine ⟨by simp, .inl ⟨_, _, rfl, run_takeDeferred HKd.out, ?_⟩⟩
          refine ⟨_, results_tmp2 rfl _ _ _, _, _, _, rfl, ?_, ?_⟩
          · rw [← HXs.out]
            have hWs := HWs.out
            by_cases h0 : 0 < L
            · obtain ⟨G, c4, e4⟩ := row_slice R2.out h0
              injection e4 with e5 _ _
              subst e5
              obtain ⟨oG, g1, g2, g3⟩ := HOw.out G rfl h0
              obtain ⟨c, hc, hc1, hc2⟩ := H1.out G rfl h0
              have hx := HXs.out
              have hrow := OwnR.row (w := V.putObj D (.deferred none)) ⟨c, (World.putObj_heap_other (by omega)).trans hc, hc1, hc2⟩ g1 g3
              rw [← hx] at hrow
              exact hrow
            · have hL0 : L = 0 := by omega
              have hnil : xs = [] := List.eq_nil_of_length_eq_zero (by rw [HLe.out]; exact hL0)
              have hM0 : sdK m M xs = [] := List.eq_nil_of_length_eq_zero (by rw [HK.out]; exact hL0)
              rw [hM0]
              have hr := HU.out.row HRow.out (fun k _ hS => by omega)
              rw [hnil] at hr
              refine row_grown hr (grownBy_putObj' _ _ _) (fun r e => ?_)
              injection e with e
              subst e
              exact .inr ⟨_, HKd.out, rfl⟩
          · have hWs := HWs.out
            have hBw := HBw.out
            have hall : Upd (fun j => w.heap.size ≤ j) w (V.putObj D (.deferred none)) :=
              ((HU3.out.mono (T := fun j => w.heap.size ≤ j) (fun _ _ h => h.elim)).trans HU.out (fun k _ h => h.2.1)).grown (grownBy_putObj' _ _ _) (fun k e hlt => by injection e with e; omega)
            exact hall.mono (fun k hk h => by omega)
    · obtain ⟨z, t4⟩ : ∃ z, (xs.length : Int) % (m : Int) = z := ⟨_, rfl⟩
      have t5 : (z != 0) = true := by rw [bne_iff_ne]; omega
      have HE := Lib.hid (show sdE xs (m : Int) = 4 by rw [HE0.out, if_neg hr])
      have HS := Lib.hid (show sdS xs (m : Int) = [] from if_neg (by rw [HE.out]; decide))
      rw [HE.out, HS.out]
      generalize xs.length = L at *
      clear h hl hn hr
      go_enter Tryd.func47, Tryd.ntmps47
      go_wp2_with fail
      go_ret2
      exact ⟨none, 0, 0, rfl, World.ownsRow_nil _ _ _ _, Upd.refl _ _⟩
end Go.Proofs.YtgdndcbcdoogpaaDoor
