/- stereo: the reference's Gains and Choose -/
import Derived.Test.YtopjjdfnnjgnlaaUW
namespace Go.Proofs.Ytopjjdfnnjgnlaa
open Go.RowKit Go.Shelf

theorem run_slice_ft (w : World) (a : Option Addr) (n cap f t : Nat) (hf : f ≤ t) (ht : t ≤ cap) :
    (Instr.slice 22 (.slice a n cap) (some (.int .i64 f)) (some (.int .i64 t)) none).run Try.prog w = .ok (.slice (if cap = f then a else a.map (fun p => p.add (f * 1))) (t - f) (cap - f)) w := by
  have h1 : (0 : Int) ≤ (t : Int) ∧ (t : Int) ≤ (cap : Int) := ⟨by omega, by omega⟩
  have h3 : (0 : Int) ≤ (f : Int) ∧ (f : Int) ≤ (t : Int) := ⟨by omega, by omega⟩
  have hsz : (sizeOf 3).run Try.prog w = .ok 1 w := by kernel_rfl
  have hu : (underlying 22).run Try.prog w = .ok (.slice 3) w := by kernel_rfl
  simp [Instr.slice, Instr.sliceBounds, Instr.sliceBound, asIntOf, Sem.run_bind, Result.andThen, hu, hsz, h1, h3, Int.toNat_natCast, hf, ht]
theorem Ints.sub {w : World} {b off n cap : Nat} {xs ys : List Int} (h : Ints w (.slice (some ⟨b, off, none⟩) n cap) xs) (f m c2 : Nat) (hy : (xs.drop f).take m = ys) (hc : ys.length ≤ c2) (hb : ys.length ≤ 1000000) : Ints w (.slice (some ⟨b, off + f, none⟩) ys.length c2) ys := by
  refine ⟨by omega, _, _, rfl, ⟨hc, fun e => by cases e⟩, .inr ⟨b, off + f, rfl, fun j x hx => ?_⟩⟩
  rw [← hy, List.getElem?_take] at hx
  split at hx
  · rw [List.getElem?_drop] at hx
    obtain ⟨b', o', e, hc'⟩ := h.cellAt hx
    cases e
    rw [Nat.add_assoc]; exact hc'
  · cases hx
def subL (xs : List Int) (f n : Nat) : List Int := (xs.drop f).take n
theorem subL_len {xs : List Int} {f n : Nat} (h : f + n ≤ xs.length) : (subL xs f n).length = n := by unfold subL; rw [List.length_take, List.length_drop]; omega
theorem subL_get (xs : List Int) (f n t : Nat) (h : t < n) : (subL xs f n).getD t 0 = xs.getD (f + t) 0 := by
  unfold subL
  rw [List.getD_eq_getElem?_getD, List.getD_eq_getElem?_getD, List.getElem?_take, if_pos h, List.getElem?_drop]
theorem subL_out (xs : List Int) (f n t : Nat) (h : n ≤ t) : (subL xs f n).getD t 0 = 0 := by
  unfold subL
  rw [List.getD_eq_getElem?_getD, List.getElem?_take, if_neg (by omega)]; rfl
theorem subP_in {M : Int} {l r : List Int} (hM : 0 ≤ M) (h : ∀ i, InP M (P2 l r i)) (f n i : Nat) : InP M (P2 (subL l f n) (subL r f n) i) := by
  by_cases hi : i < n
  · have := h (f + i)
    unfold P2 at this ⊢
    rw [subL_get _ _ _ _ hi, subL_get _ _ _ _ hi]
    exact this
  · unfold P2 InP
    rw [subL_out _ _ _ _ (by omega), subL_out _ _ _ _ (by omega)]
    simp only
    omega
theorem sub_P2 (l r : List Int) {f n t : Nat} (h : t < n) : P2 (subL l f n) (subL r f n) t = P2 l r (f + t) := by
  unfold P2
  rw [subL_get _ _ _ _ h, subL_get _ _ _ _ h]
theorem csL_pair {A B : List Int} {n : Nat} (hA : A.length = n) (hB : B.length = n) : csL A + csL B = sm (fun i => csP (P2 A B i)) n := by
  unfold csL
  rw [hA, hB, ← sm_add]
  rfl
theorem md_P2 (A B : List Int) {n i : Nat} (h : i < n) : P2 (mdA A B n) (mdB A B n) i = midP (P2 A B i) := by
  have e : P2 (mdA A B n) (mdB A B n) i = ((mdA A B n).getD i 0, (mdB A B n).getD i 0) := rfl
  rw [e]
  unfold mdA mdB
  rw [List.getD_eq_getElem?_getD, List.getD_eq_getElem?_getD, rmap_get _ h, rmap_get _ h]
  rfl
theorem gains_math (l r : List Int) (f n : Nat) (hl : f + n ≤ l.length) (hr : f + n ≤ r.length) : csL (subL l f n) + csL (subL r f n) - csL (mdA (subL l f n) (subL r f n) n) - csL (mdB (subL l f n) (subL r f n) n) = gnF (fun t => P2 l r (f + t)) n := by
  have e1 := csL_pair (subL_len hl) (subL_len hr)
  have e2 := csL_pair (A := mdA (subL l f n) (subL r f n) n) (B := mdB (subL l f n) (subL r f n) n) (n := n) (rmap_len _ _) (rmap_len _ _)
  rw [sm_congr (n := n) (f := fun i => csP (P2 (subL l f n) (subL r f n) i)) (g := fun t => csP (P2 l r (f + t))) (fun i hi => by rw [sub_P2 l r hi])] at e1
  rw [sm_congr (n := n) (f := fun i => csP (P2 (mdA (subL l f n) (subL r f n) n) (mdB (subL l f n) (subL r f n) n) i)) (g := fun t => csP (midP (P2 l r (f + t)))) (fun i hi => by rw [md_P2 _ _ hi, sub_P2 l r hi])] at e2
  show _ = sm (fun t => csP (P2 l r (f + t))) n - sm (fun t => csP (midP (P2 l r (f + t)))) n
  omega
theorem gd_all {M : Int} {xs : List Int} (h0 : 0 ≤ M) (hM : M ≤ 1073741824) (h : ∀ i, -M ≤ xs.getD i 0 ∧ xs.getD i 0 ≤ M) (i : Nat) : -1073741824 ≤ xs.getD i 0 ∧ xs.getD i 0 ≤ 1073741824 := by have := h i; omega
theorem md_bd {A B : List Int} {n : Nat} (h : ∀ i, InP 2097152 (P2 A B i)) (i : Nat) : InP 4194304 (P2 (mdA A B n) (mdB A B n) i) := by
  by_cases hi : i < n
  · rw [md_P2 A B hi]; exact mid_in (h i)
  · have e : P2 (mdA A B n) (mdB A B n) i = ((mdA A B n).getD i 0, (mdB A B n).getD i 0) := rfl
    rw [e]
    unfold mdA mdB InP
    rw [List.getD_eq_getElem?_getD, List.getD_eq_getElem?_getD, List.getElem?_eq_none (by rw [rmap_len]; omega), List.getElem?_eq_none (by rw [rmap_len]; omega)]
    decide
theorem csL_in {xs : List Int} {n : Nat} (hl : xs.length = n) (hn : n ≤ 128) (hx : ∀ i, -1073741824 ≤ xs.getD i 0 ∧ xs.getD i 0 ≤ 1073741824) : 0 ≤ csL xs ∧ csL xs ≤ 2064384 := by
  have := sm_bd (A := 0) (B := 16128) (g := fun i => lgA (xs.getD i 0)) (n := xs.length) (fun i _ => lgA_bd (hx i))
  unfold csL
  omega
/-- what the round of the reference's Gains does with a band -/
theorem rgain_step {Z : World} {b1 o1 b2 o2 c1 c2 : Nat} {l r : List Int} {f n : Nat} (h1 : Ints Z (.slice (some ⟨b1, o1, none⟩) l.length c1) l) (h2 : Ints Z (.slice (some ⟨b2, o2, none⟩) r.length c2) r) (hl : f + n ≤ l.length) (hr : f + n ≤ r.length) (hn : n ≤ 128)
    (hc1 : l.length ≤ c1) (hc2 : r.length ≤ c2) : Ints Z (.slice (some ⟨b1, o1 + f, none⟩) n (c1 - f)) (subL l f n) ∧ Ints Z (.slice (some ⟨b2, o2 + f, none⟩) n (c2 - f)) (subL r f n) := by
  have l1 := subL_len hl
  have l2 := subL_len hr
  have g1 := Ints.sub h1 f n (c1 - f) (ys := subL l f n) rfl (by omega) (by omega)
  have g2 := Ints.sub h2 f n (c2 - f) (ys := subL r f n) rfl (by omega) (by omega)
  rw [l1] at g1
  rw [l2] at g2
  exact ⟨g1, g2⟩
theorem Ints.full {w : World} {a : Option Addr} {n cap : Nat} {xs : List Int} (h : Ints w (.slice a n cap) xs) (hx : xs ≠ []) : ∃ b off, a = some ⟨b, off, none⟩ ∧ n ≤ cap ∧ n = xs.length := by
  obtain ⟨_, a', cap', e, ⟨h2, _⟩, h3⟩ := h
  injection e with e1 e2 e3
  subst e1; subst e2; subst e3
  rcases h3 with h3 | ⟨b, off, rfl, _⟩
  · exact absurd h3 hx
  · exact ⟨b, off, rfl, h2, rfl⟩
set_option maxRecDepth 100000 in
set_option maxHeartbeats 8000000 in
theorem rGains_any (lv rv wv : Value) (l r ws : List Int) (w : World) (hl : Ints w lv l) (hr : Ints w rv r) (hw : Ints w wv ws) : Calls Try.prog 21 #[lv, rv, wv] w (EInts w (gnS l r ws) (chE l r ws 2097152)) := by
  have HC := Lib.hid (rchannels_any lv rv wv l r ws 2097152 w (by decide) (by decide) hl hr hw)
  by_cases hE : chE l r ws 2097152 = 0
  · obtain ⟨h1, h2, h3, h4, h5⟩ := chE_ok hE
    have hN8 := (isW_ok h1).1
    have hIn := P2_in (l := l) (r := r) (M := 2097152) (by decide) h4 h5
    have HS := Lib.hid (show gnS l r ws = (List.range ws.length).map fun k => gnF (fun t => P2 l r (psN ws k + t)) (wdN ws k) from if_pos hE)
    rw [hE] at HC ⊢
    rw [HS.out]
    have HSu := Lib.hid (fun k => rmap_succ (fun k => gnF (fun t => P2 l r (psN ws k + t)) (wdN ws k)) k)
    have HLn := Lib.hid (rmap_len (fun k => gnF (fun t => P2 l r (psN ws k + t)) (wdN ws k)) ws.length)
    have HWg := Lib.hid (show ∀ k, k < ws.length → ∃ n : Nat, ws[k]? = some (n : Int) ∧ wdN ws k = n ∧ 1 ≤ n ∧ n ≤ 128 ∧ psN ws (k + 1) = psN ws k + n ∧ psN ws k + n ≤ 128 from fun k hk => by
      obtain ⟨n, a, b, c, d, e⟩ := isW_get h1 hk
      exact ⟨n, a, by unfold wdN; rw [List.getD_eq_getElem?_getD, a]; exact Int.toNat_natCast n, b, c, d, e⟩)
    have HIn := Lib.hid hIn
    have HMa := Lib.hid (fun f n (h : f + n ≤ 128) => gains_math l r f n (by omega) (by omega))
    have HLs := Lib.hid (fun f n (h : f + n ≤ 128) => And.intro (subL_len (xs := l) (f := f) (n := n) (by omega)) (subL_len (xs := r) (f := f) (n := n) (by omega)))
    obtain ⟨la, lc, rfl⟩ := hl.form
    obtain ⟨ra, rc, rfl⟩ := hr.form
    obtain ⟨wa, wc, rfl⟩ := hw.form
    have ne1 : l ≠ [] := by rintro rfl; simp at h2
    have ne2 : r ≠ [] := by rintro rfl; simp at h3
    obtain ⟨b1, o1, rfl, hc1, _⟩ := hl.full ne1
    obtain ⟨b2, o2, rfl, hc2, _⟩ := hr.full ne2
    have HSub := Lib.hid (fun Z (u : Upd NoB w Z) f n (h : f + n ≤ 128) => rgain_step (f := f) (n := n) (hl.later u) (hr.later u) (by omega) (by omega) (by omega) hc1 hc2)
    have HW := Lib.hid hw
    rw [h2] at hc1 HC
    rw [h3] at hc2 HC
    rw [h2, h3]
    have h0 : psN ws 0 = 0 := psN_zero ws
    have HP0 := Lib.hid h0
    obtain ⟨N, hN⟩ : ∃ N, ws.length = N := ⟨_, rfl⟩
    rw [hN] at HC HW HWg HLn hN8 ⊢
    clear hl hr hw hE h1 h2 h3 h4 h5 hIn ne1 ne2 hN h0
    go_enter Try.func21, Try.ntmps21
    go_wp2_with fail
    refine HC.out.mono ?_
    rintro e w1 ⟨rfl, hw1⟩
    have U1 := Lib.hid (show Upd NoB w w1 by rw [hw1]; exact Upd.refl _ _)
    have HB1 := Lib.hid (show w.heap.size ≤ w1.heap.size from U1.out.size)
    clear hw1 HC
    go_wp2_with fail
    go_loopw [9, 10, 26] (fun v f i wr => ∃ k : Nat, k ≤ N ∧ i = .int .i64 k ∧ f = .int .i64 (psN ws k : Nat) ∧ wr.ownsRow w1.heap.size 3 1 v k (i64s ((List.range k).map fun k => gnF (fun t => P2 l r (psN ws k + t)) (wdN ws k))) ∧ Upd NoB w1 wr) (fun _ _ i _ => N - (intOf i).toNat)
    case atStart => exact ⟨0, Nat.zero_le _, rfl, by rw [HP0.out]; rfl, World.ownsRow_nil _ _ _ _, Upd.refl _ _⟩
    case round =>
      obtain ⟨k, hk, rfl, rfl, hown, hu⟩ := hrel
      obtain ⟨va, vc, rfl⟩ := row_form hown
      have hb := hu.size
      by_cases hlt : k < N
      · obtain ⟨n, hx, hwd, hn1, hn8, hps, hs8⟩ := HWg.out k hlt
        obtain ⟨b0, o0, rfl, c0⟩ := ((HW.out.later U1.out).later hu).cellAt hx
        have HSk := Lib.hid (HSu.out k)
        rw [hwd] at HSk
        have HPs := Lib.hid hps
        generalize (List.range k).map (fun k => gnF (fun t => P2 l r (psN ws k + t)) (wdN ws k)) = xs at *
        obtain ⟨F, hF⟩ : ∃ F, psN ws k = F := ⟨_, rfl⟩
        rw [hF] at HSk HPs hs8 ⊢
        have HMk := Lib.hid (HMa.out F n hs8)
        obtain ⟨ls1, ls2⟩ := HLs.out F n hs8
        have hP := fun i => subP_in (by decide) HIn.out F n i
        have hQ := fun i => md_bd (n := n) hP i
        have e1 := fun i => (show -1073741824 ≤ (subL l F n).getD i 0 ∧ (subL l F n).getD i 0 ≤ 1073741824 from ((hP i).mono (B := 1073741824) (by decide)).1)
        have e2 := fun i => (show -1073741824 ≤ (subL r F n).getD i 0 ∧ (subL r F n).getD i 0 ≤ 1073741824 from ((hP i).mono (B := 1073741824) (by decide)).2)
        have e3 := fun i => (show -1073741824 ≤ (mdA (subL l F n) (subL r F n) n).getD i 0 ∧ (mdA (subL l F n) (subL r F n) n).getD i 0 ≤ 1073741824 from ((hQ i).mono (B := 1073741824) (by decide)).1)
        have e4 := fun i => (show -1073741824 ≤ (mdB (subL l F n) (subL r F n) n).getD i 0 ∧ (mdB (subL l F n) (subL r F n) n).getD i 0 ≤ 1073741824 from ((hQ i).mono (B := 1073741824) (by decide)).2)
        have m1 : (mdA (subL l F n) (subL r F n) n).length = n := rmap_len _ _
        have m2 : (mdB (subL l F n) (subL r F n) n).length = n := rmap_len _ _
        have q1 := csL_in ls1 hn8 e1; have q2 := csL_in ls2 hn8 e2; have q3 := csL_in m1 hn8 e3; have q4 := csL_in m2 hn8 e4
        have HK1 := Lib.hid (fun v Z h => rcost_any v (subL l F n) Z h (by omega) e1)
        have HK2 := Lib.hid (fun v Z h => rcost_any v (subL r F n) Z h (by omega) e2)
        have HK3 := Lib.hid (fun v Z h => rcost_any v (mdA (subL l F n) (subL r F n) n) Z h (by omega) e3)
        have HK4 := Lib.hid (fun v Z h => rcost_any v (mdB (subL l F n) (subL r F n) n) Z h (by omega) e4)
        have HSd := Lib.hid (fun v1 v2 Z h h' => (show Calls Try.prog 53 #[v1, v2] Z fun e w' => ∃ va ca vb cb, e = .returned (.tuple #[.slice va n ca, .slice vb n cb]) ∧ Ints w' (.slice va n ca) (mdA (subL l F n) (subL r F n) n) ∧ Ints w' (.slice vb n cb) (mdB (subL l F n) (subL r F n) n) ∧ Upd NoB Z w' by
          have := rsidesL_any v1 v2 (subL l F n) (subL r F n) Z h h' (by omega) (by omega) (fun i => (hP i).mono (by decide))
          rw [ls1] at this
          exact this))
        generalize mdA (subL l F n) (subL r F n) n = LM at *
        generalize mdB (subL l F n) (subL r F n) n = LS at *
        have HSb := Lib.hid (fun Z (u : Upd NoB w Z) => HSub.out Z u F n hs8)
        generalize subL l F n = LL at *
        generalize subL r F n = LR at *
        generalize csL LL = p1 at *; generalize csL LR = p2 at *; generalize csL LM = p3 at *; generalize csL LS = p4 at *
        obtain ⟨g, hg⟩ : ∃ g, gnF (fun t => P2 l r (F + t)) n = g := ⟨_, rfl⟩
        rw [hg] at HSk HMk
        have hgm := HMk.out
        obtain ⟨T, hT⟩ : ∃ T, F + n = T := ⟨_, rfl⟩
        have hFT : F ≤ T := by omega
        have hT8 : T ≤ 128 := by omega
        have z1 : wrap64 ((F : Int) + (n : Int)) = (T : Int) := by rw [← hT]; exact IntWalk.wrap64_in _ (by omega)
        have z2 : IntKind.i64.wrap ((F : Int) + (n : Int)) = (T : Int) := by rw [← hT]; exact IntWalk.i64_in _ (by clear z1; omega)
        have y1 : wrap64 (p1 + p2) = p1 + p2 := IntWalk.wrap64_in _ (by clear z1 z2; omega)
        have y2 : IntKind.i64.wrap (p1 + p2) = p1 + p2 := IntWalk.i64_in _ (by clear z1 z2 y1; omega)
        have y3 : wrap64 (p1 + p2 - p3) = p1 + p2 - p3 := IntWalk.wrap64_in _ (by clear z1 z2 y1 y2; omega)
        have y4 : IntKind.i64.wrap (p1 + p2 - p3) = p1 + p2 - p3 := IntWalk.i64_in _ (by clear z1 z2 y1 y2 y3; omega)
        have y5 : wrap64 (p1 + p2 - p3 - p4) = g := by rw [← hgm]; exact IntWalk.wrap64_in _ (by clear z1 z2 y1 y2 y3 y4; omega)
        have y6 : IntKind.i64.wrap (p1 + p2 - p3 - p4) = g := by rw [← hgm]; exact IntWalk.i64_in _ (by clear z1 z2 y1 y2 y3 y4 y5; omega)
        have hs1 := fun Z => run_slice_ft Z (some ⟨b1, o1, none⟩) 128 lc F T hFT (by clear z1 z2 y1 y2 y3 y4 y5 y6; omega)
        have hs2 := fun Z => run_slice_ft Z (some ⟨b2, o2, none⟩) 128 rc F T hFT (by clear z1 z2 y1 y2 y3 y4 y5 y6; omega)
        have ne1 : ¬ lc = F := by clear z1 z2 y1 y2 y3 y4 y5 y6; omega
        have ne2 : ¬ rc = F := by clear z1 z2 y1 y2 y3 y4 y5 y6; omega
        have hTF : T - F = n := by clear z1 z2 y1 y2 y3 y4 y5 y6; omega
        rw [if_neg ne1, Option.map_some, addr_add, Nat.mul_one, hTF] at hs1
        rw [if_neg ne2, Option.map_some, addr_add, Nat.mul_one, hTF] at hs2
        have hk1 : k ≤ 1000000 := by clear z1 z2 y1 y2 y3 y4 y5 y6; omega
        rw [hT] at HPs
        have HO := Lib.hid hown; have HU := Lib.hid hu; have HBr := Lib.hid hb
        clear hown hu hx hwd hn1 hn8 hps hs8 hP hQ e1 e2 e3 e4 m1 m2 q1 q2 q3 q4 ls1 ls2 hg hgm hT hFT hT8 ne1 ne2 hTF hF hb HMk
        go_wp2_with fail
        go_quiet (fail)
        have U2 := Lib.hid (show Upd NoB wr (wr.drewN nq) from upd_drewN (Upd.refl _ _) _)
        obtain ⟨y, hy⟩ : ∃ y, wr.drewN nq = y := ⟨_, rfl⟩
        rw [hy] at U2 ⊢
        clear hy
        go_wp2_with fail
        obtain ⟨i1, i2⟩ := HSb.out y ((U1.out.then HU.out).then U2.out)
        refine (HSd.out _ _ _ i1 i2).mono ?_
        rintro e w3 ⟨va3, ca3, vb3, cb3, rfl, i3, i4, u3⟩
        have U3 := Lib.hid (U2.out.then u3)
        have I1 := Lib.hid (i1.later u3); have I2 := Lib.hid (i2.later u3); have I3 := Lib.hid i3; have I4 := Lib.hid i4
        clear i1 i2 i3 i4 u3 hs1 hs2
        have hb3 : w1.heap.size ≤ w3.heap.size := (HU.out.then U3.out).size
        have O3 := Lib.hid (U3.out.row HO.out (fun j _ => noB j))
        go_wp2_with fail
        refine (HK1.out _ _ I1.out).mono ?_
        rintro e w' ⟨rfl, hw'⟩
        rw [hw']
        clear hw'
        go_wp2_with fail
        refine (HK2.out _ _ I2.out).mono ?_
        rintro e w' ⟨rfl, hw'⟩
        rw [hw']
        clear hw'
        go_wp2_with fail
        refine (HK3.out _ _ I3.out).mono ?_
        rintro e w' ⟨rfl, hw'⟩
        rw [hw']
        clear hw'
        go_wp2_with fail
        refine (HK4.out _ _ I4.out).mono ?_
        rintro e w' ⟨rfl, hw'⟩
        rw [hw']
        clear hw'
        go_wp2_with (at_builtin; refine wpList_push rfl (.tmp 48) (.tmp 60) rfl w1.heap.size (.slice va k vc) k xs g rfl rfl O3.out hk1 hb3 ?_; intro v' w' hown' u'; have R' := Lib.hid hown'; have U' := Lib.hid u'; clear hown' u')
        go_roundw
        case rel => exact ⟨k + 1, by clear z1 z2 y1 y2 y3 y4 y5 y6; omega, by go_num, by rw [HPs.out], by rw [HSk.out]; exact R'.out, upd_ge ((upd_ge' (HU.out.then U3.out) w1.heap.size).trans U'.out (fun _ _ h => h))⟩
        case measure => clear z1 z2 y1 y2 y3 y4 y5 y6; simp [intOf]; omega
      · obtain rfl : k = N := by omega
        have HO := Lib.hid hown; have HU := Lib.hid hu
        clear hown hu hlt
        go_wp2_with fail
        go_ret2
        exact ⟨_, _, _, rfl, by rw [HLn.out]; exact row_base HO.out HB1.out, U1.out.then HU.out⟩
  · have HS := Lib.hid (show gnS l r ws = [] from if_neg hE)
    rw [HS.out]
    generalize chE l r ws 2097152 = E at *
    obtain ⟨la, lc, rfl⟩ := hl.form
    obtain ⟨ra, rc, rfl⟩ := hr.form
    obtain ⟨wa, wc, rfl⟩ := hw.form
    have t1 : (E != 0) = true := bne_iff_ne.2 hE
    generalize l.length = L at *
    generalize r.length = R at *
    generalize ws.length = N at *
    clear hl hr hw hE
    go_enter Try.func21, Try.ntmps21
    go_wp2_with fail
    refine HC.out.mono ?_
    rintro e w2 ⟨rfl, rfl⟩
    go_wp2_with fail
    go_ret2
    exact ⟨none, 0, 0, rfl, World.ownsRow_nil _ _ _ _, Upd.refl _ _⟩
theorem posL_succ {gs : List Int} {k : Nat} {x : Int} (h : gs[k]? = some x) : posL (gs.take (k + 1)) = posL (gs.take k) ++ [decide (0 < x)] := by
  unfold posL
  rw [List.take_add_one, h]
  simp
set_option maxRecDepth 100000 in
set_option maxHeartbeats 4000000 in
theorem rChoose_any (lv rv wv : Value) (l r ws : List Int) (w : World) (hl : Ints w lv l) (hr : Ints w rv r) (hw : Ints w wv ws) : Calls Try.prog 19 #[lv, rv, wv] w (EBls w (chS l r ws) (chE l r ws 2097152)) := by
  have HG := Lib.hid (rGains_any lv rv wv l r ws w hl hr hw)
  obtain ⟨la, lc, rfl⟩ := hl.form
  obtain ⟨ra, rc, rfl⟩ := hr.form
  obtain ⟨wa, wc, rfl⟩ := hw.form
  by_cases hE : chE l r ws 2097152 = 0
  · have hN8 := (isW_ok (chE_ok hE).1).1
    have HS := Lib.hid (show chS l r ws = posL (gnL l r ws) from if_pos hE)
    rw [show gnS l r ws = _ from if_pos hE, hE] at HG
    rw [HS.out, hE]
    have hlen := gnL_len l r ws
    generalize gnL l r ws = gs at *
    rw [← hlen] at hN8
    generalize l.length = L at *
    generalize r.length = R at *
    generalize ws.length = N0 at *
    have HTk := Lib.hid (fun k x (h : gs[k]? = some x) => posL_succ h)
    have HAl := Lib.hid (show posL (gs.take gs.length) = posL gs by rw [List.take_length])
    have HPl := Lib.hid (posL_len gs)
    obtain ⟨N, hN⟩ : ∃ N, gs.length = N := ⟨_, rfl⟩
    have HN := Lib.hid hN
    rw [hN] at hN8 HAl HPl
    clear hl hr hw hE hlen hN
    go_enter Try.func19, Try.ntmps19
    go_wp2_with fail
    refine HG.out.mono ?_
    intro e w1 hr
    obtain ⟨a1, c1, rfl, i1, u1⟩ := EInts.open hr (by rw [HN.out]; omega)
    rw [HN.out] at i1 ⊢
    have I1 := Lib.hid i1; have U1 := Lib.hid u1; have HB1 := Lib.hid u1.size
    clear hr i1 u1
    go_wp2_with fail
    go_loopw [10, 25] (fun v i wr => ∃ k : Nat, k ≤ N ∧ i = .int .i64 k ∧ wr.ownsRow w1.heap.size 4 1 v k (bls (posL (gs.take k))) ∧ Upd NoB w1 wr) (fun _ i _ => N - (intOf i).toNat)
    case atStart => exact ⟨0, Nat.zero_le _, rfl, World.ownsRow_nil _ _ _ _, Upd.refl _ _⟩
    case round =>
      obtain ⟨k, hk, rfl, hown, hu⟩ := hrel
      obtain ⟨va, vc, rfl⟩ := row_form hown
      have hb := hu.size
      by_cases hlt : k < N
      · obtain ⟨x, hx⟩ : ∃ x, gs[k]? = some x := ⟨_, List.getElem?_eq_getElem (by rw [HN.out]; exact hlt)⟩
        obtain ⟨bb, off, rfl, c0⟩ := (I1.out.later hu).cellAt hx
        have HT := Lib.hid (HTk.out k x hx)
        have HO := Lib.hid hown; have HU := Lib.hid hu
        have hk1 : k ≤ 1000000 := by omega
        clear hx hown hu
        by_cases hp : 0 < x
        · have t1 : decide (0 < x) = true := decide_eq_true hp
          rw [t1] at HT
          clear hp
          go_wp2_with (at_builtin; refine wpList_pushb rfl (.tmp 29) (.tmp 32) rfl w1.heap.size (.slice va k vc) k (posL (gs.take k)) true rfl rfl HO.out hk1 hb ?_; intro v' w' hown' u'; have R' := Lib.hid hown'; have U' := Lib.hid u'; clear hown' u')
          go_roundw
          case rel => exact ⟨k + 1, by omega, by go_num, by rw [HT.out]; exact R'.out, upd_ge ((upd_ge' HU.out w1.heap.size).trans U'.out (fun _ _ h => h))⟩
          case measure => simp [intOf]; omega
        · have t1 : decide (0 < x) = false := decide_eq_false hp
          rw [t1] at HT
          clear hp
          go_wp2_with (at_builtin; refine wpList_pushb rfl (.tmp 29) (.tmp 32) rfl w1.heap.size (.slice va k vc) k (posL (gs.take k)) false rfl rfl HO.out hk1 hb ?_; intro v' w' hown' u'; have R' := Lib.hid hown'; have U' := Lib.hid u'; clear hown' u')
          go_roundw
          case rel => exact ⟨k + 1, by omega, by go_num, by rw [HT.out]; exact R'.out, upd_ge ((upd_ge' HU.out w1.heap.size).trans U'.out (fun _ _ h => h))⟩
          case measure => simp [intOf]; omega
      · obtain rfl : k = N := by omega
        rw [HAl.out] at hown
        have HO := Lib.hid hown; have HU := Lib.hid hu
        clear hown hu hlt
        go_wp2_with fail
        go_ret2
        refine ⟨_, _, _, rfl, ?_, U1.out.then HU.out⟩
        rw [HPl.out]
        have ho := HO.out
        exact row_base ho HB1.out
  · have HS := Lib.hid (show chS l r ws = [] from if_neg hE)
    rw [show gnS l r ws = [] from if_neg hE] at HG
    rw [HS.out]
    generalize chE l r ws 2097152 = E at *
    have t1 : (E != 0) = true := bne_iff_ne.2 hE
    generalize l.length = L at *
    generalize r.length = R at *
    generalize ws.length = N at *
    clear hl hr hw hE
    go_enter Try.func19, Try.ntmps19
    go_wp2_with fail
    refine HG.out.mono ?_
    rintro e w2 ⟨a2, n2, c2, rfl, r2, u2⟩
    have U2 := Lib.hid u2
    clear u2 r2
    go_wp2_with fail
    go_ret2
    exact ⟨none, 0, 0, rfl, World.ownsRow_nil _ _ _ _, U2.out⟩
end Go.Proofs.Ytopjjdfnnjgnlaa
