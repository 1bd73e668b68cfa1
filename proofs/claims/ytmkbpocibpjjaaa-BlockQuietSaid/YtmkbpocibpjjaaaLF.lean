/- block: the energies of the parts, one after the other; Parts -/
import Derived.Test.YtmkbpocibpjjaaaLE
namespace Go.Proofs.Ytmkbpocibpjjaaa
open Go.RowKit Go.Shelf
attribute [local go_sem] Oper.semAt_some

/-- the sample ahead of the i-th one -/
def prevI (xs : List Int) (i : Nat) : Int := if i = 0 then 0 else xs.getD (i - 1) 0
def difI (xs : List Int) (i : Nat) : Int := xs.getD i 0 - prevI xs i
/-- the energy of the first j samples of the k-th part -/
def enT (xs : List Int) (k : Nat) : Nat → Int
  | 0 => 0
  | j + 1 => enT xs k j + difI xs (16 * k + j) * difI xs (16 * k + j)
def en (xs : List Int) (k : Nat) : Int := enT xs k 16
theorem prevI_succ (xs : List Int) (i : Nat) : prevI xs (i + 1) = xs.getD i 0 := by unfold prevI; rw [if_neg (by omega), Nat.add_sub_cancel]
theorem getD_in {xs : List Int} {lo hi : Int} (h : allIn lo hi xs = true) (h0 : lo ≤ 0 ∧ 0 ≤ hi) (i : Nat) : lo ≤ xs.getD i 0 ∧ xs.getD i 0 ≤ hi := by
  rw [List.getD_eq_getElem?_getD]
  cases e : xs[i]? with
  | none => exact h0
  | some x => exact allIn_yes h e
theorem prevI_in {xs : List Int} (h : allIn (-65536) 65536 xs = true) (i : Nat) : -65536 ≤ prevI xs i ∧ prevI xs i ≤ 65536 := by
  unfold prevI
  split
  · omega
  · exact getD_in h (by omega) _
theorem sq_bound {d : Int} (h1 : -131072 ≤ d) (h2 : d ≤ 131072) : 0 ≤ d * d ∧ d * d ≤ 17179869184 := by
  rcases Int.le_total 0 d with h | h
  · exact ⟨Int.mul_nonneg h h, by have := Int.mul_le_mul h2 h2 h (by omega); omega⟩
  · have e : d * d = (-d) * (-d) := by rw [Int.neg_mul_neg]
    rw [e]
    have h3 : 0 ≤ -d := by omega
    exact ⟨Int.mul_nonneg h3 h3, by have := Int.mul_le_mul (show -d ≤ 131072 by omega) (show -d ≤ 131072 by omega) h3 (by omega); omega⟩
theorem difI_bound {xs : List Int} (h : allIn (-65536) 65536 xs = true) (i : Nat) : 0 ≤ difI xs i * difI xs i ∧ difI xs i * difI xs i ≤ 17179869184 := by
  have h1 := getD_in h (by omega) i
  have h2 := prevI_in h i
  exact sq_bound (by unfold difI; omega) (by unfold difI; omega)
theorem enT_bound {xs : List Int} (h : allIn (-65536) 65536 xs = true) (k : Nat) : ∀ j : Nat, 0 ≤ enT xs k j ∧ enT xs k j ≤ 17179869184 * (j : Int)
  | 0 => by simp [enT]
  | j + 1 => by
    have ih := enT_bound h k j
    have hd := difI_bound h (16 * k + j)
    unfold enT
    generalize difI xs (16 * k + j) * difI xs (16 * k + j) = q at *
    omega
theorem parts_any (v : Value) (w : World) (hv : ∃ a n c, v = .slice a n c) : Calls Try.prog 41 #[v] w fun e w' =>
    e = .returned (.func (.func 58) #[] #[.pointer (some ⟨w.heap.size, 0, none⟩)]) ∧ w' = w.alloc (.cells #[v] 22) := by
  obtain ⟨a, n, c, rfl⟩ := hv
  go_enter Try.func41, Try.ntmps41
  go_wp2
  go_ret
  exact ⟨rfl, rfl⟩
theorem boxes4 (W : World) (o0 o1 o2 o3 : Obj) : ((((W.alloc o0).alloc o1).alloc o2).alloc o3).heap[W.heap.size]? = some o0 ∧ ((((W.alloc o0).alloc o1).alloc o2).alloc o3).heap[W.heap.size + 1]? = some o1 ∧
    ((((W.alloc o0).alloc o1).alloc o2).alloc o3).heap[W.heap.size + 2]? = some o2 ∧ ((((W.alloc o0).alloc o1).alloc o2).alloc o3).heap[W.heap.size + 3]? = some o3 ∧ Upd NoB W ((((W.alloc o0).alloc o1).alloc o2).alloc o3) ∧ ((((W.alloc o0).alloc o1).alloc o2).alloc o3).heap.size = W.heap.size + 4 := by
  have s1 : (W.alloc o0).heap.size = W.heap.size + 1 := by simp
  have s2 : ((W.alloc o0).alloc o1).heap.size = W.heap.size + 2 := by simp
  have s3 : (((W.alloc o0).alloc o1).alloc o2).heap.size = W.heap.size + 3 := by simp
  have s4 : ((((W.alloc o0).alloc o1).alloc o2).alloc o3).heap.size = W.heap.size + 4 := by simp
  have h1 := heap_alloc_new (W.alloc o0) o1
  have h2 := heap_alloc_new ((W.alloc o0).alloc o1) o2
  have h3 := heap_alloc_new (((W.alloc o0).alloc o1).alloc o2) o3
  rw [s1] at h1
  rw [s2] at h2
  rw [s3] at h3
  have e1 : ∀ k, k < W.heap.size + 3 → ((((W.alloc o0).alloc o1).alloc o2).alloc o3).heap[k]? = (((W.alloc o0).alloc o1).alloc o2).heap[k]? := fun k hk => Below.heap_alloc _ _ _ (by omega)
  have e2 : ∀ k, k < W.heap.size + 2 → (((W.alloc o0).alloc o1).alloc o2).heap[k]? = ((W.alloc o0).alloc o1).heap[k]? := fun k hk => Below.heap_alloc _ _ _ (by omega)
  have e3 : ∀ k, k < W.heap.size + 1 → ((W.alloc o0).alloc o1).heap[k]? = (W.alloc o0).heap[k]? := fun k hk => Below.heap_alloc _ _ _ (by omega)
  exact ⟨(e1 _ (by omega)).trans ((e2 _ (by omega)).trans ((e3 _ (by omega)).trans (heap_alloc_new W _))), (e1 _ (by omega)).trans ((e2 _ (by omega)).trans h1), (e1 _ (by omega)).trans h2, h3, ((((Upd.refl _ _).alloc _).alloc _).alloc _).alloc _, s4⟩
theorem Upd.toGrown {b : Nat} {A A' : World} (u : Upd (fun j => j = b) A A') : A.grownBy A' (some b) := ⟨u.os, u.tape, u.output, u.size, fun k hk hn => u.block k hk (fun e => hn (by rw [e]))⟩
set_option maxRecDepth 100000 in
set_option maxHeartbeats 4000000 in
theorem parts1_in (l B : Nat) (xa : Option Addr) (cap M : Nat) (xs : List Int) (hl : xs.length = 16 * M) (hM : M ≤ 512) (hb : allIn (-65536) 65536 xs = true) (J : Nat → World → Prop) (D : Nat → Prop) (_hDB : D B)
    (hDx : xs ≠ [] → ∀ j, xa.map Addr.block = some j → D j) (W : World) (hDl : ∀ k, D k → k < W.heap.size) (hJ : OwnM W.heap.size 6 J)
    (hY : ∀ k V, J k V → W.heap.size + 6 ≤ V.heap.size → k < M → YieldAt Fence.wide 0 Try.prog l #[.int .i64 (en xs k)] V fun e V' => e = .returned (.bool true) ∧ J (k + 1) V' ∧ (KeepD D V V' ∧ V.heap.size ≤ V'.heap.size) ∧ KeepsFrom W.heap.size V V' ∧ Win W.heap.size 6 V V')
    (hx : Ints W (.slice xa xs.length cap) xs) (hb1 : W.cell? ⟨B, 0, none⟩ = some (.slice xa xs.length cap)) (h0 : J 0 W) :
    CallsIn Fence.wide 1 Try.prog 58 #[.func (.yield l) #[] #[], .pointer (some ⟨B, 0, none⟩)] W fun e W' => (∃ v, e = .returned v) ∧ J M W' := by
  have hcap : xs.length ≤ cap := by obtain ⟨_, _, _, e, ⟨hc, _⟩, _⟩ := hx; cases e; exact hc
  obtain ⟨W4, hW4⟩ : ∃ W4, W4 = (((W.alloc (.cells #[.func (.yield l) #[] #[]] 53)).alloc (.cells #[.int .i64 0] 3)).alloc (.cells #[.slice xa xs.length cap] 22)).alloc (.cells #[.int .i64 16] 3) := ⟨_, rfl⟩
  obtain ⟨b0, b1, b2, b3, u4, s4⟩ := boxes4 W (.cells #[.func (.yield l) #[] #[]] 53) (.cells #[.int .i64 0] 3) (.cells #[.slice xa xs.length cap] 22) (.cells #[.int .i64 16] 3)
  rw [← hW4] at b0 b1 b2 b3 u4 s4
  have HSq := Lib.hid (chunk1_seq (W.heap.size + 2) 0 xa xs.length cap M W4 hl hM hcap (blk_cell b2 0) (blk_cell b3 0) (by omega))
  have J4 : J 0 W4 := hJ 0 W W4 none h0 ⟨u4.os, u4.tape, u4.output, u4.size, fun k hk _ => u4.block k hk (noB k)⟩ (fun r e => by cases e)
  have HX4 := Lib.hid (hx.later u4)
  have K4 : KeepD D W W4 := u4.keepD (fun k hk => ⟨hDl k hk, noB k⟩)
  have HB := Lib.hid hb
  have HY := Lib.hid @hY; have HJ := Lib.hid hJ; have HW4 := Lib.hid hW4; have HDl := Lib.hid hDl; have HDx := Lib.hid hDx; have HX := Lib.hid hx
  obtain ⟨L, hL⟩ : ∃ L, xs.length = L := ⟨_, rfl⟩
  have HL := Lib.hid hL; have HLM := Lib.hid hl
  rw [hL] at HX4 HX hb1 hcap HW4
  clear hY hJ hW4 hDl hDx hx hL hl b2 b3 u4 h0 hb
  refine callsIn_of_wp_marks Try.func58 rfl trivial (wpIn_wide.2 ?_) rfl
  simp only [Try.ntmps58, List.size_toArray, List.length_cons, List.length_nil, Nat.reduceAdd, Nat.reduceSub, Array.replicate_succ, Array.replicate_zero, List.push_toArray, List.append_toArray, List.nil_append, List.cons_append]
  have hb1' := fun (o0 o1 : Obj) => (show ((W.alloc o0).alloc o1).cell? ⟨B, 0, none⟩ = some (.slice xa L cap) from (((Upd.refl NoB W).alloc o0).alloc o1).cell hb1 (noB _))
  have c1 := hb1' (.cells #[.func (.yield l) #[] #[]] 53) (.cells #[.int .i64 0] 3)
  clear hb1'
  go_wp2_with fail
  refine (chunk_any _ _ ⟨_, _, _, rfl⟩).mono ?_
  rintro e w' ⟨rfl, rfl⟩
  go_wp2_with fail
  rw [← HW4.out]
  refine (wpIn_wide (n := 1)).1 (wpIn_rangeN rfl (by omega) (gf := 66) (lb := #[.pointer (some ⟨W.heap.size + 2, 0, none⟩), .pointer (some ⟨W.heap.size + 2 + 1, 0, none⟩)]) rfl trivial (enters_of Try.func66 (by kernel_rfl) rfl) HSq.out
    (fun h k => ⟨h.1.trans k.1, Nat.le_trans h.2 k.2⟩) (fun W' l o' hl => ⟨keepD_putObj (fun hd => by rcases hd with h | h <;> omega), (grownBy_putObj' W' l o').size⟩) (Below.refl _ _) (fun _ => rfl)
    (fun k V => (J k V ∧ V.heap[W.heap.size]? = some (.cells #[.func (.yield l) #[] #[]] 53 (0, 0)) ∧ V.heap[W.heap.size + 1]? = some (.cells #[.int .i64 (prevI xs (16 * k))] 3 (0, 0))) ∧ KeepD D W V ∧ W4.heap.size ≤ V.heap.size)
    ?hI ⟨⟨J4, b0, b1⟩, K4, Nat.le_refl _⟩
    (fun k a' _ => a' = { tmps := #[.func (.yield l) #[] #[], .pointer (some ⟨B, 0, none⟩), .pointer (some ⟨W.heap.size, 0, none⟩), .pointer (some ⟨W.heap.size + 1, 0, none⟩), .slice (xa.map (·.add (16 * k))) 16 16, undef, undef, undef, .slice xa L cap, .func (.func 66) #[] #[.pointer (some ⟨W.heap.size + 1 + 1, 0, none⟩), .pointer (some ⟨W.heap.size + 1 + 1 + 1, 0, none⟩)], .slice (xa.map (·.add (16 * k))) 16 16, undef, undef, undef, undef, undef, undef, undef, undef, undef, undef, undef, undef, undef, undef, undef, undef, undef, undef, undef, undef, undef], defers := [] }) (fun _ _ _ _ _ _ hs _ _ => hs) ?assign ?body ?done)
  case hI =>
    rintro s A A' row ⟨⟨h1, h2, h3⟩, h4, h5⟩ hg hr
    refine ⟨⟨HJ.out s A A' row h1 hg (fun r e => ⟨by have := (hr r e).1; omega, (hr r e).2.imp (fun h => by omega) id⟩), (hg.block _ (lt_of_block h2) (fun e => ?_)).trans h2, (hg.block _ (lt_of_block h3) (fun e => ?_)).trans h3⟩, h4.trans (fun j hj => hg.block j (by have := HDl.out j hj; omega) (fun e => ?_)), Nat.le_trans h5 hg.size⟩
    · have := (hr _ e.symm).1; omega
    · have := (hr _ e.symm).1; omega
    · have := (hr _ e.symm).1; have := HDl.out j hj; omega
  case assign =>
    intro l' k V K hi hk hK
    gi_wp2
    exact hK _ _ (KeepsFrom.refl _ _) ⟨⟨KeepD.refl _ _, Nat.le_refl _⟩, Win.refl _ _ _⟩ hi rfl
  case body =>
    rintro l' k a' V ⟨⟨hj, hm0, hm1⟩, hkd, hsz⟩ rfl hVs hk
    have hne : xs ≠ [] := by rintro rfl; have := HL.out; have := HLM.out; simp at *; omega
    obtain ⟨x0, hx0⟩ : ∃ x, xs[0]? = some x := ⟨_, List.getElem?_eq_getElem (List.length_pos_iff.2 hne)⟩
    obtain ⟨b, off, e, _⟩ := HX.out.cellAt hx0
    have hDb := HDx.out hne b (by rw [e]; rfl)
    have hbW := HDl.out b hDb
    have hcell : ∀ j, j < 16 → V.cell? ⟨b, off + 16 * k + j, none⟩ = some (.int .i64 (xs.getD (16 * k + j) 0)) := fun j hj => by
      obtain ⟨x, hx⟩ : ∃ x, xs[16 * k + j]? = some x := ⟨_, List.getElem?_eq_getElem (by have := HLM.out; omega)⟩
      obtain ⟨b', off', e', hc⟩ := HX.out.cellAt hx
      rw [e] at e'
      cases e'
      rw [getD_ofI hx, Nat.add_assoc, ← hc]
      exact hkd.cell (p := ⟨b, off + (16 * k + j), none⟩) hDb
    have hsl : xa.map (·.add (16 * k)) = some ⟨b, off + 16 * k, none⟩ := by rw [e, Option.map_some, addr_add]
    rw [hsl]
    generalize off + 16 * k = o at *
    have HC := Lib.hid (fun (j : Nat) (hj : j < 16) (V' : World) (u : Upd (fun q => q = W.heap.size + 1) V V') => (u.cell (hcell j hj) (by simp only; omega) : V'.cell? ⟨b, o + j, none⟩ = some (.int .i64 (xs.getD (16 * k + j) 0))))
    have HM0 := Lib.hid hm0; have HM1 := Lib.hid hm1; have HKd := Lib.hid hkd; have HSz := Lib.hid hsz; have HJk := Lib.hid hj; have HVs := Lib.hid hVs; have Hk := Lib.hid hk
    clear hcell hsl hm0 hm1 hkd hsz hj hVs hk hx0 hne J4 K4 b0 b1
    gi_wp2
    gi_loopw [5, 7, 13] (fun en' _ i wr => ∃ j : Nat, j ≤ 16 ∧ i = .int .i64 j ∧ en' = .int .i64 (enT xs k j) ∧ wr.heap[W.heap.size + 1]? = some (.cells #[.int .i64 (prevI xs (16 * k + j))] 3 (0, 0)) ∧ Upd (fun q => q = W.heap.size + 1) V wr) (fun _ _ i _ => 16 - (intOf i).toNat)
    case atStart => exact ⟨0, Nat.zero_le _, rfl, rfl, HM1.out, Upd.refl _ _⟩
    case round =>
      obtain ⟨j, hj, rfl, rfl, hm, hu⟩ := hrel
      by_cases hlt : j < 16
      · have hc := HC.out j hlt wr hu
        have d0 : wr.cell? ⟨W.heap.size + 1, 0, none⟩ = some (.int .i64 (prevI xs (16 * k + j))) := blk_cell hm 0
        have f0 := blk_free hm 0
        have hb1 := getD_in HB.out (by omega) (16 * k + j)
        have hb2 := prevI_in HB.out (16 * k + j)
        have hb3 := enT_bound HB.out k j
        have hb4 := difI_bound HB.out (16 * k + j)
        have HE := Lib.hid (show enT xs k (j + 1) = enT xs k j + difI xs (16 * k + j) * difI xs (16 * k + j) from rfl)
        have HP := Lib.hid (prevI_succ xs (16 * k + j))
        have HD2 := Lib.hid (show difI xs (16 * k + j) = xs.getD (16 * k + j) 0 - prevI xs (16 * k + j) from rfl)
        have HM := Lib.hid hm; have HU := Lib.hid hu
        generalize xs.getD (16 * k + j) 0 = x at *
        generalize prevI xs (16 * k + j) = la at *
        generalize enT xs k j = E at *
        rw [HD2.out] at HE hb4
        obtain ⟨Q, hQ⟩ : ∃ Q, (x - la) * (x - la) = Q := ⟨_, rfl⟩
        have hw1 : IntKind.i64.wrap ((x - la) * (x - la)) = Q := by rw [hQ]; rw [hQ] at hb4; exact IntWalk.i64_in _ (by omega)
        have hw2 : wrap64 ((x - la) * (x - la)) = Q := by rw [hQ]; rw [hQ] at hb4; exact IntWalk.wrap64_in _ (by omega)
        rw [hQ] at HE hb4
        have hE2 : E ≤ 17179869184 * 16 := by omega
        obtain ⟨hb3, _⟩ := hb3
        clear hQ hm hu
        gi_wp2
        go_roundw
        case rel => exact ⟨j + 1, by omega, by go_num, by rw [HE.out], by rw [show 16 * k + (j + 1) = 16 * k + j + 1 from rfl, HP.out]; exact block_set HM.out _, HU.out.setCell _ (fun _ => rfl)⟩
        case measure => simp [intOf]; omega
      · obtain rfl : j = 16 := by omega
        have HEn := Lib.hid (show en xs k = enT xs k 16 from rfl)
        have hm0 := hu.heap HM0.out (by omega)
        have c0 : wr.cell? ⟨W.heap.size, 0, none⟩ = some (.func (.yield l) #[] #[]) := blk_cell hm0 0
        have hJw := HJ.out k V wr (some (W.heap.size + 1)) HJk.out hu.toGrown (fun r e => by cases e; exact ⟨by omega, .inl (by omega)⟩)
        obtain ⟨fn, tmps, assign, body, hy0, hR⟩ := HY.out k wr hJw (by have := hu.size; have := HVs.out; omega) Hk.out
        rw [HEn.out] at hy0
        generalize enT xs k 16 = E at *
        have HM := Lib.hid hm; have HU := Lib.hid hu
        clear hm hu hm0 hJw
        gi_wp2
        refine ⟨rfl, (show RoundIn (Fence.wide.inRound l') 0 Try.prog l fn tmps assign body wr _ from hR).mono ?_⟩
        rintro e W9 ⟨rfl, hJ9, ⟨hkd9, hs9⟩, hkf9, hw9⟩
        gi_wp2
        have hVs' := HVs.out
        have hVs2 := HU.out.size
        refine ⟨(notcells_grown HU.out (fun q hq => by subst hq; exact ⟨_, _, _, HM1.out⟩) _).trans (keepsFrom_mono hkf9 (by omega)),
          ⟨⟨fun q hq => ?_, Nat.le_trans hVs2 hs9⟩, fun q h1 h2 => by omega⟩, ⟨⟨hJ9, ?_, ?_⟩, HKd.out.trans (KeepD.trans (fun q hq => ?_) hkd9), ?_⟩⟩
        · have hq' : q = W.heap.size + 2 ∨ q = W.heap.size + 2 + 1 := hq
          rw [hw9 q (by omega) (by omega)]
          exact HU.out.block q (by omega) (by omega)
        · rw [hw9 _ (Nat.le_refl _) (by omega)]
          exact HU.out.heap HM0.out (by omega)
        · rw [hw9 _ (by omega) (by omega), show 16 * (k + 1) = 16 * k + 16 from rfl]
          exact HM.out
        · have := HDl.out q hq
          exact HU.out.block q (by have := HSz.out; omega) (by omega)
        · have := HSz.out; omega
  case done =>
    rintro D' W' hD' ⟨⟨hj, _, _⟩, _, _⟩ hK
    have HK := Lib.hid hK
    go_wp2
    refine ⟨by simp, .inl ⟨_, _, rfl, run_takeDeferred HK.out, ?_⟩⟩
    refine ⟨_, results_none rfl _ _ _, ⟨_, rfl⟩, ?_⟩
    exact HJ.out M W' _ (some D') hj (grownBy_putObj' _ _ _) (fun r e => by cases e; exact ⟨by omega, .inr ⟨_, HK.out, rfl⟩⟩)
def partsD (B : Nat) (xa : Option Addr) (xs : List Int) : Nat → Prop := fun k => k = B ∨ (xs ≠ [] ∧ xa.map Addr.block = some k)
theorem parts1_seq (B : Nat) (xa : Option Addr) (cap M : Nat) (xs : List Int) (w : World) (hl : xs.length = 16 * M) (hM : M ≤ 512) (hb : allIn (-65536) 65536 xs = true) (hx : Ints w (.slice xa xs.length cap) xs) (hb1 : w.cell? ⟨B, 0, none⟩ = some (.slice xa xs.length cap)) (hB : B < w.heap.size) :
    SeqN Fence.wide 1 Try.prog 58 #[.pointer (some ⟨B, 0, none⟩)] (fun k => #[.int .i64 (en xs k)]) (fun A A' => KeepD (partsD B xa xs) A A' ∧ A.heap.size ≤ A'.heap.size) 6 M w := fun l J W hW hJ hY h0 => by
  have hlt : ∀ k, partsD B xa xs k → k < w.heap.size := fun k hk => by
    rcases hk with rfl | ⟨hne, hk⟩
    · exact hB
    · refine hx.lt hne k ?_
      cases xa with
      | none => simp at hk
      | some a => simpa [Value.ownBlock] using hk
  have hk : KeepD (partsD B xa xs) w W := fun k hk => hW.block k (hlt k hk)
  exact parts1_in l B xa cap M xs hl hM hb J (partsD B xa xs) (.inl rfl) (fun hne j hj => .inr ⟨hne, hj⟩) W (fun k hd => Nat.lt_of_lt_of_le (hlt k hd) hW.size) hJ hY (hx.later (Upd.ofBelow hW)) ((hk.cell (p := ⟨B, 0, none⟩) (.inl rfl)).trans hb1) h0
/-- all energies -/
def ens (xs : List Int) : List Int := (List.range (xs.length / 16)).map (en xs)
theorem ens_length (xs : List Int) : (ens xs).length = xs.length / 16 := by simp [ens]
set_option maxRecDepth 100000 in
set_option maxHeartbeats 2000000 in
theorem collect_any (B : Nat) (xa : Option Addr) (cap M : Nat) (xs : List Int) (w : World) (hl : xs.length = 16 * M) (hM : M ≤ 512) (hb : allIn (-65536) 65536 xs = true) (hx : Ints w (.slice xa xs.length cap) xs) (hb1 : w.cell? ⟨B, 0, none⟩ = some (.slice xa xs.length cap)) (hB : B < w.heap.size) :
    Calls Try.prog 40 #[.func (.func 58) #[] #[.pointer (some ⟨B, 0, none⟩)]] w fun e w' => ∃ v, e = .returned v ∧ w'.ownsRow w.heap.size 3 1 v M (i64s (ens xs)) ∧ Upd NoB w w' := by
  have H := Lib.hid (appendSeq_any 58 #[.pointer (some ⟨B, 0, none⟩)] (en xs) (partsD B xa xs) 6 M w (enters_of Try.func58 (by kernel_rfl) rfl)
    (fun w0 u => parts1_seq B xa cap M xs w0 hl hM hb (hx.later u) (u.cell hb1 (noB _)) (Nat.lt_of_lt_of_le hB u.size)) (fun k hk => by
      rcases hk with rfl | ⟨hne, hk⟩
      · exact hB
      · refine hx.lt hne k ?_
        cases xa with
        | none => simp at hk
        | some a => simpa [Value.ownBlock] using hk) (by omega))
  have HE := Lib.hid (show i64s (ens xs) = i64s ((List.range M).map (en xs)) by unfold ens; rw [hl, Nat.mul_div_cancel_left _ (by omega)])
  rw [HE.out]
  clear hl hM hb hx hb1 hB HE
  go_enter Try.func40, Try.ntmps40
  go_wp2_with fail
  refine H.out.mono ?_
  rintro e w2 ⟨v, rfl, hr, u⟩
  obtain ⟨a, c, rfl⟩ := row_form hr
  have HR := Lib.hid hr; have HU := Lib.hid u
  clear hr u
  go_wp2_with fail
  go_ret
  exact ⟨_, rfl, HR.out, HU.out⟩
/-- What a function answers that makes a list, or an error. -/
def EInts (w : World) (xs : List Int) (E : Int) (e : Ending) (w' : World) : Prop := ∃ a n c, e = .returned (.tuple #[.slice a n c, .int .i64 E]) ∧ w'.ownsRow w.heap.size 3 1 (.slice a n c) xs.length (i64s xs) ∧ Upd NoB w w'
def paS (xs : List Int) : List Int := if ckE xs = 0 then ens xs else []
set_option maxRecDepth 100000 in
set_option maxHeartbeats 2000000 in
theorem Parts_any (v : Value) (xs : List Int) (w : World) (h : Ints w v xs) : Calls Try.prog 12 #[v] w (EInts w (paS xs) (ckE xs)) := by
  have HCk := Lib.hid (check_any v xs w h)
  obtain ⟨xa, cap, rfl⟩ := h.form
  by_cases h0 : ckE xs = 0
  · obtain ⟨g1, g2, g3⟩ := ckE_ok h0
    have HS := Lib.hid (show paS xs = ens xs from if_pos h0)
    rw [HS.out, h0]
    obtain ⟨W, hW⟩ : ∃ W, W = w.alloc (.cells #[.slice xa xs.length cap] 22) := ⟨_, rfl⟩
    have u0 : Upd NoB w W := by rw [hW]; exact (Upd.refl _ _).alloc _
    have bw : W.heap[w.heap.size]? = some (.cells #[.slice xa xs.length cap] 22 (0, 0)) := by rw [hW]; exact heap_alloc_new w _
    have HC := Lib.hid (collect_any w.heap.size xa cap (xs.length / 16) xs W (by omega) (by omega) g3 (h.later u0) (blk_cell bw 0) (lt_of_block bw))
    have HEl := Lib.hid (ens_length xs)
    rw [h0] at HCk
    have HW := Lib.hid hW; have HU := Lib.hid u0
    obtain ⟨L, hL⟩ : ∃ L, xs.length = L := ⟨_, rfl⟩
    obtain ⟨M, hM⟩ : ∃ M, xs.length / 16 = M := ⟨_, rfl⟩
    rw [hL] at HCk HW ⊢
    rw [hM] at HC HEl
    clear h h0 g1 g2 g3 hW u0 bw hL hM
    go_enter Try.func12, Try.ntmps12
    go_wp2_with (first | (go_at_call 39; refine HCk.out.mono ?_; rintro e w' ⟨rfl, rfl⟩) | (go_at_call 41; refine (parts_any _ _ ⟨_, _, _, rfl⟩).mono ?_; rintro e w' ⟨rfl, rfl⟩; rw [← HW.out]))
    refine HC.out.mono ?_
    rintro e w2 ⟨v, rfl, hr, u⟩
    obtain ⟨a, c, rfl⟩ := row_form hr
    have HR := Lib.hid hr; have HU2 := Lib.hid u
    clear hr u
    go_wp2_with fail
    go_ret2
    exact ⟨_, _, _, rfl, by rw [HEl.out]; exact row_base HR.out HU.out.size, HU.out.then HU2.out⟩
  · have HS := Lib.hid (show paS xs = [] from if_neg h0)
    have t : (ckE xs != 0) = true := by simpa using h0
    rw [HS.out]
    generalize ckE xs = E at *
    clear h h0
    go_enter Try.func12, Try.ntmps12
    go_wp2_with (go_at_call 39; refine HCk.out.mono ?_; rintro e w' ⟨rfl, rfl⟩)
    go_ret2
    exact ⟨none, 0, 0, rfl, World.ownsRow_nil _ _ _ _, Upd.refl _ _⟩
end Go.Proofs.Ytmkbpocibpjjaaa
