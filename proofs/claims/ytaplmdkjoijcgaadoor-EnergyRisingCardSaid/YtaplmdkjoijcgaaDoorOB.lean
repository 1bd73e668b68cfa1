/- bands: Pitch -/
import Derived.Test.YtaplmdkjoijcgaaDoorOA
import Derived.Test.YtaplmdkjoijcgaaDoorNM
import Derived.Deep.RegionHeld3
namespace Go.Proofs.YtaplmdkjoijcgaaDoor
open Go.RowKit Go.Shelf

def ptE (s : Bool) (gs : List Int) (r b : Int) : Int := if isD s gs then (if rateB r then (if 0 ≤ b ∧ b < (ctN s gs : Nat) then 0 else 6) else 1) else 1
def ptJ (s : Bool) (b : Int) : Nat := b.toNat % (dW s).length
def ptV (s : Bool) (r : Int) (j : Nat) : Int := ((spT (dW s) j + spT (dW s) (j + 1)) * r).tdiv (4 * dLn s)
def ptS (s : Bool) (gs : List Int) (r b : Int) : Int := if ptE s gs r b = 0 then ptV s r (ptJ s b) else 0
theorem rateB_bd {r : Int} (h : rateB r = true) : 8000 ≤ r ∧ r ≤ 48000 := by
  unfold rateB at h
  have h := of_decide_eq_true h
  have : ∀ x ∈ rates, 8000 ≤ x ∧ x ≤ 48000 := by decide
  exact this r h
theorem dLn_bd2 (s : Bool) : 16 ≤ dLn s ∧ dLn s ≤ 128 := by cases s <;> simp [dLn]
theorem pt_bd {f t r ln : Int} (hf : 0 ≤ f ∧ f ≤ 3000) (ht : 0 ≤ t ∧ t ≤ 3200) (hr : 8000 ≤ r ∧ r ≤ 48000) (hl : 16 ≤ ln ∧ ln ≤ 128) : (0 ≤ (f + t) * r ∧ (f + t) * r ≤ 6200 * 48000) ∧ 0 ≤ ((f + t) * r).tdiv (4 * ln) ∧ ((f + t) * r).tdiv (4 * ln) ≤ 6200 * 48000 := by
  have h1 : 0 ≤ (f + t) * r := Int.mul_nonneg (by omega) (by omega)
  have h2 : (f + t) * r ≤ 6200 * 48000 := Int.mul_le_mul (by omega) hr.2 (by omega) (by omega)
  refine ⟨⟨h1, h2⟩, ?_⟩
  generalize (f + t) * r = p at *
  rw [Int.tdiv_eq_ediv_of_nonneg h1]
  refine ⟨Int.ediv_nonneg h1 (by omega), ?_⟩
  exact Int.le_trans (Int.ediv_le_self _ h1) h2
set_option maxRecDepth 100000 in
set_option maxHeartbeats 4000000 in
theorem Pitch_any (r b : Int) (s : Bool) (v : Value) (gs : List Int) (w : World) (h : Ints w v gs) (hg : Gv w) :
    Calls Tryd.prog 32 #[.int .i64 r, .int .i64 b, .bool s, v] w fun e w' => e = .returned (.tuple #[.int .i64 (ptS s gs r b), .int .i64 (ptE s gs r b)]) ∧ Upd NoB w w' := by
  have HD := Lib.hid (divisionOf_any s v gs w h hg)
  obtain ⟨a, cap, rfl⟩ := h.form
  cases hd : isD s gs with
  | true =>
    have HDd := Lib.hid hd
    have HBg := Lib.hid (dG_bd hd)
    have HE0 := Lib.hid (show ptE s gs r b = if rateB r then (if 0 ≤ b ∧ b < (ctN s gs : Nat) then 0 else 6) else 1 from if_pos hd)
    have HCt := Lib.hid (show ((dG s gs).length : Int) * ((dW s).length : Int) = ((ctN s gs : Nat) : Int) by unfold ctN; rw [Int.natCast_mul])
    obtain ⟨L, hL⟩ : ∃ L, gs.length = L := ⟨_, rfl⟩
    rw [hL] at HD ⊢
    clear h hg hd hL
    cases hr : rateB r with
    | true =>
      have HRt := Lib.hid hr
      by_cases hb : 0 ≤ b ∧ b < (ctN s gs : Nat)
      · have HE := Lib.hid (show ptE s gs r b = 0 by rw [HE0.out, if_pos hr, if_pos hb])
        have HF := Lib.hid (show ptS s gs r b = ptV s r (ptJ s b) from if_pos HE.out)
        rw [HE.out, HF.out]
        obtain ⟨k, rfl⟩ := Int.eq_ofNat_of_zero_le hb.1
        have HDec := Lib.hid (show decide (0 ≤ (k : Int) ∧ (k : Int) < ((ctN s gs : Nat) : Int)) = true from decide_eq_true hb)
        have HJ := Lib.hid (show ptJ s (k : Int) = k % (dW s).length from rfl)
        have HV := Lib.hid (show ∀ j, ptV s r j = ((spT (dW s) j + spT (dW s) (j + 1)) * r).tdiv (4 * dLn s) from fun _ => rfl)
        have hk6 : k < 1000000 := by
          have := hb.2
          have h1 : ctN s gs ≤ 120 := Nat.mul_le_mul HBg.out.1 (dW_bd s).1
          omega
        have HW2 := Lib.hid (dW_bd2 s)
        have hln := dLn_bd2 s
        have hrb := rateB_bd hr
        have HWl := Lib.hid (dW_bd s)
        have hNpos : 0 < (dW s).length := by cases s <;> decide
        rw [HJ.out, HV.out]
        obtain ⟨N, hN⟩ : ∃ N, (dW s).length = N := ⟨_, rfl⟩
        have HN := Lib.hid hN
        have hN15 : N ≤ 15 := by rw [← hN]; exact (dW_bd s).1
        rw [hN] at HCt hNpos ⊢
        have hj : k % N < N := Nat.mod_lt _ hNpos
        have hrem : (k : Int).tmod (N : Int) = ((k % N : Nat) : Int) := by rw [Int.tmod_eq_emod_of_nonneg (by omega)]; rfl
        obtain ⟨j, hjj⟩ : ∃ j, k % N = j := ⟨_, rfl⟩
        rw [hjj] at hj hrem ⊢
        have hbd0 := spT_bd (ws := dW s) (fun x hx => by have := dW_bd2 s x hx; omega) j
        have hbd1 := spT_bd (ws := dW s) (fun x hx => by have := dW_bd2 s x hx; omega) (j + 1)
        have hpb := pt_bd (f := spT (dW s) j) (t := spT (dW s) (j + 1)) (r := r) (ln := dLn s) ⟨hbd0.1, by omega⟩ ⟨hbd1.1, by omega⟩ hrb hln
        have HSp := Lib.hid (fun (w' : World) (x : Value) (hx : Ints w' x (dW s)) => spans_any x (dW s) w' hx (by have := (dW_bd s).1; omega) (fun y hy => by have := dW_bd2 s y hy; omega))
        have HGet := Lib.hid (show (spC (dW s) N)[2 * j]? = some (.int .i64 (spT (dW s) j)) ∧ (spC (dW s) N)[2 * j + 1]? = some (.int .i64 (spT (dW s) (j + 1))) from spC_get (ws := dW s) hj)
        generalize spT (dW s) j = f at *
        generalize spT (dW s) (j + 1) = t at *
        obtain ⟨ln, hlne⟩ : ∃ ln, dLn s = ln := ⟨_, rfl⟩
        have HLn := Lib.hid hlne
        rw [hlne] at hln hpb ⊢
        obtain ⟨p, hp⟩ : ∃ p, (f + t) * r = p := ⟨_, rfl⟩
        rw [hp] at hpb ⊢
        obtain ⟨V, hV⟩ : ∃ V, p.tdiv (4 * ln) = V := ⟨_, rfl⟩
        rw [hV] at hpb ⊢
        have y1 : IntKind.i64.wrap ((f + t) * r) = p := by rw [hp]; exact IntWalk.i64_in _ (by omega)
        have y2 : wrap64 ((f + t) * r) = p := by rw [hp]; exact IntWalk.wrap64_in _ (by omega)
        have y3 : IntKind.i64.wrap (p.tdiv (4 * ln)) = V := by rw [hV]; exact IntWalk.i64_in _ (by omega)
        have y4 : wrap64 (p.tdiv (4 * ln)) = V := by rw [hV]; exact IntWalk.wrap64_in _ (by omega)
        have y5 : (4 * ln == 0) = false := by rw [beq_eq_false_iff_ne]; omega
        have y6 : decide (4 * ln = 0) = false := decide_eq_false (by omega)
        have y7 : decide ((N : Int) = 0) = false := decide_eq_false (by omega)
        have y8 : ((N : Int) == 0) = false := by rw [beq_eq_false_iff_ne]; omega
        have hft : 0 ≤ f ∧ f ≤ 3000 ∧ 0 ≤ t ∧ t ≤ 3200 := by omega
        obtain ⟨f0, f8, t0, t8⟩ := hft
        obtain ⟨ln0, ln8⟩ := hln
        generalize ctN s gs = C at *
        clear hb hbd0 hbd1 hjj hp hpb hrb hr hlne hN hV
        go_enter Tryd.func32, Tryd.ntmps32
        go_wp2_with fail
        refine HD.out.mono ?_
        intro e w1 hr
        unfold DRes at hr
        rw [if_pos HDd.out] at hr
        obtain ⟨vw, vg, rfl, iw, ig, u1⟩ := hr
        obtain ⟨aw, cw, rfl⟩ := iw.form
        obtain ⟨ag, cg, rfl⟩ := ig.form
        rw [HN.out] at iw
        rw [HN.out, HLn.out]
        have IW := Lib.hid iw; have U1 := Lib.hid u1
        clear iw ig u1
        obtain ⟨bd, hbd⟩ : ∃ bd, w1.heap.size = bd := ⟨_, rfl⟩
        have NQ := Lib.hid (show (w1.alloc (.cells #[.int .i64 ln, .slice aw N cw, .slice ag (dG s gs).length cg] 52)).heap[bd]? = some (.cells #[.int .i64 ln, .slice aw N cw, .slice ag (dG s gs).length cg] 52 (0, 0)) by rw [← hbd]; exact heap_alloc_new w1 _)
        have HBd := Lib.hid hbd
        clear hbd
        go_wp2_with fail
        rw [HBd.out]
        refine (isRate_any r _).mono ?_
        rw [HRt.out]
        rintro e w2 ⟨rfl, u2⟩
        have n2 := u2.heap NQ.out (noB _)
        have e0 := blk_cell n2 0
        have e1 := blk_cell n2 1
        have e2 := blk_cell n2 2
        have U12 := Lib.hid (((Upd.refl NoB w1).alloc _).then u2)
        have N2 := Lib.hid n2
        clear u2 n2
        go_wp2_with fail
        refine (has_any _ _ _ N (dG s gs).length _ _ _ _ (by omega) (by have := HBg.out.1; omega)).mono ?_
        rw [HCt.out, HDec.out]
        rintro e w3 ⟨rfl, u3⟩
        have n3 := u3.heap N2.out (noB _)
        have k0 := blk_cell n3 0
        have k1 := blk_cell n3 1
        have U13 := Lib.hid (U12.out.then u3)
        have N3 := Lib.hid n3
        have HI2 := Lib.hid (fun Z (u : Upd NoB w3 Z) => IW.out.later (U13.out.then u))
        have HK2 := Lib.hid (fun (Z : World) (p q : Int) (hZ : Z.cell? ⟨bd, 1, none⟩ = some (.slice aw N cw)) => (show ((Z.setCell ⟨w3.heap.size, 0, none⟩ (.int .i64 p)).setCell ⟨w3.heap.size, 1, none⟩ (.int .i64 q)).cell? ⟨bd, 1, none⟩ = some (.slice aw N cw) from
          (((Upd.refl (fun k => k = w3.heap.size) Z).setCell (p := ⟨w3.heap.size, 0, none⟩) (.int .i64 p) (fun _ => rfl)).setCell (p := ⟨w3.heap.size, 1, none⟩) (.int .i64 q) (fun _ => rfl)).cell hZ (fun h => by have h' : bd = w3.heap.size := h; have := lt_of_block N3.out; omega)))
        have HU2 := Lib.hid (fun (Z : World) (p q : Int) (hZ : Upd NoB w3 Z) => (show Upd (fun k => k = w3.heap.size) w3 ((Z.setCell ⟨w3.heap.size, 0, none⟩ (.int .i64 p)).setCell ⟨w3.heap.size, 1, none⟩ (.int .i64 q)) from
          ((hZ.mono (T := fun k => k = w3.heap.size) (fun _ _ h => h.elim)).setCell (p := ⟨w3.heap.size, 0, none⟩) _ (fun _ => rfl)).setCell (p := ⟨w3.heap.size, 1, none⟩) _ (fun _ => rfl)))
        have hN0 : ¬ N = 0 := by omega
        have hln0 : ¬ ln = 0 := by omega
        have HK1 := Lib.hid (fun Z (u : Upd NoB w3 Z) => (u.cell k1 (noB _) : Z.cell? ⟨bd, 1, none⟩ = some (.slice aw N cw)))
        have hkS : w3.drew.cell? ⟨bd, 1, none⟩ = some (.slice aw N cw) := k1
        clear u3 n3 e0 e1 e2
        go_wp2_with fail
        refine wp_region_held (S := fun Z => Z.cell? ⟨bd, 1, none⟩ = some (.slice aw N cw)) (by kernel_rfl) ?_
        change wpAnyH _ _ _ _ _ 12 #[false, false, false, false, false, false, false, false, false, false, false, false] { tmps := #[Value.int IntKind.i64 r, Value.int IntKind.i64 (k : Int), Value.bool s, Value.slice a L cap, undef, undef, undef, undef, Value.int IntKind.i64 0, Value.int IntKind.i64 0, Value.pointer (some ⟨bd, 0, none⟩), Value.int IntKind.i64 0, undef, Value.tuple #[Value.agg #[Value.int IntKind.i64 ln, Value.slice aw N cw, Value.slice ag (dG s gs).length cg], Value.int IntKind.i64 0], Value.bool s, Value.slice a L cap, Value.tuple #[Value.agg #[Value.int IntKind.i64 ln, Value.slice aw N cw, Value.slice ag (dG s gs).length cg], Value.int IntKind.i64 0], Value.agg #[Value.int IntKind.i64 ln, Value.slice aw N cw, Value.slice ag (dG s gs).length cg], Value.int IntKind.i64 0, Value.int IntKind.i64 0, Value.bool false, undef, Value.int IntKind.i64 r, Value.bool true, Value.bool false, Value.agg #[Value.int IntKind.i64 ln, Value.slice aw N cw, Value.slice ag (dG s gs).length cg], Value.int IntKind.i64 (k : Int), Value.bool true, Value.bool false, undef, undef, undef, undef, undef, undef, undef, undef, undef, undef, undef, undef, undef, undef, undef, undef, undef, undef, undef, undef, undef], defers := [] } (World.drew w3)
        refine wpAnyH_take (i := 0) (v := .pointer (some ⟨bd, 1, none⟩)) rfl (by kernel_rfl) (by kernel_rfl) (by kernel_rfl) (fun _ _ _ h => h) (Or.inl ⟨by rfl, fun Z hZ => ?_⟩) hkS ?_
        · go_simp
        change wpAnyH _ _ _ _ _ 11 #[true, false, false, false, false, false, false, false, false, false, false, false] { tmps := #[Value.int IntKind.i64 r, Value.int IntKind.i64 (k : Int), Value.bool s, Value.slice a L cap, undef, undef, undef, undef, Value.int IntKind.i64 0, Value.int IntKind.i64 0, Value.pointer (some ⟨bd, 0, none⟩), Value.int IntKind.i64 0, undef, Value.tuple #[Value.agg #[Value.int IntKind.i64 ln, Value.slice aw N cw, Value.slice ag (dG s gs).length cg], Value.int IntKind.i64 0], Value.bool s, Value.slice a L cap, Value.tuple #[Value.agg #[Value.int IntKind.i64 ln, Value.slice aw N cw, Value.slice ag (dG s gs).length cg], Value.int IntKind.i64 0], Value.agg #[Value.int IntKind.i64 ln, Value.slice aw N cw, Value.slice ag (dG s gs).length cg], Value.int IntKind.i64 0, Value.int IntKind.i64 0, Value.bool false, undef, Value.int IntKind.i64 r, Value.bool true, Value.bool false, Value.agg #[Value.int IntKind.i64 ln, Value.slice aw N cw, Value.slice ag (dG s gs).length cg], Value.int IntKind.i64 (k : Int), Value.bool true, Value.bool false, .pointer (some ⟨bd, 1, none⟩), undef, undef, undef, undef, undef, undef, undef, undef, undef, undef, undef, undef, undef, undef, undef, undef, undef, undef, undef, undef], defers := [] } (World.drew w3)
        refine wpAnyH_take (i := 3) (v := .int .i64 (k : Int)) rfl (by kernel_rfl) (by kernel_rfl) (by kernel_rfl) (fun _ _ _ h => h) (Or.inl ⟨by rfl, fun Z hZ => ?_⟩) hkS ?_
        · go_simp
        change wpAnyH _ _ _ _ _ 10 #[true, false, false, true, false, false, false, false, false, false, false, false] { tmps := #[Value.int IntKind.i64 r, Value.int IntKind.i64 (k : Int), Value.bool s, Value.slice a L cap, undef, undef, undef, undef, Value.int IntKind.i64 0, Value.int IntKind.i64 0, Value.pointer (some ⟨bd, 0, none⟩), Value.int IntKind.i64 0, undef, Value.tuple #[Value.agg #[Value.int IntKind.i64 ln, Value.slice aw N cw, Value.slice ag (dG s gs).length cg], Value.int IntKind.i64 0], Value.bool s, Value.slice a L cap, Value.tuple #[Value.agg #[Value.int IntKind.i64 ln, Value.slice aw N cw, Value.slice ag (dG s gs).length cg], Value.int IntKind.i64 0], Value.agg #[Value.int IntKind.i64 ln, Value.slice aw N cw, Value.slice ag (dG s gs).length cg], Value.int IntKind.i64 0, Value.int IntKind.i64 0, Value.bool false, undef, Value.int IntKind.i64 r, Value.bool true, Value.bool false, Value.agg #[Value.int IntKind.i64 ln, Value.slice aw N cw, Value.slice ag (dG s gs).length cg], Value.int IntKind.i64 (k : Int), Value.bool true, Value.bool false, .pointer (some ⟨bd, 1, none⟩), undef, undef, .int .i64 (k : Int), undef, undef, undef, undef, undef, undef, undef, undef, undef, undef, undef, undef, undef, undef, undef, undef, undef], defers := [] } (World.drew w3)
        refine wpAnyH_take (i := 4) (v := .pointer (some ⟨bd, 1, none⟩)) rfl (by kernel_rfl) (by kernel_rfl) (by kernel_rfl) (fun _ _ _ h => h) (Or.inl ⟨by rfl, fun Z hZ => ?_⟩) hkS ?_
        · go_simp
        change wpAnyH _ _ _ _ _ 9 #[true, false, false, true, true, false, false, false, false, false, false, false] { tmps := #[Value.int IntKind.i64 r, Value.int IntKind.i64 (k : Int), Value.bool s, Value.slice a L cap, undef, undef, undef, undef, Value.int IntKind.i64 0, Value.int IntKind.i64 0, Value.pointer (some ⟨bd, 0, none⟩), Value.int IntKind.i64 0, undef, Value.tuple #[Value.agg #[Value.int IntKind.i64 ln, Value.slice aw N cw, Value.slice ag (dG s gs).length cg], Value.int IntKind.i64 0], Value.bool s, Value.slice a L cap, Value.tuple #[Value.agg #[Value.int IntKind.i64 ln, Value.slice aw N cw, Value.slice ag (dG s gs).length cg], Value.int IntKind.i64 0], Value.agg #[Value.int IntKind.i64 ln, Value.slice aw N cw, Value.slice ag (dG s gs).length cg], Value.int IntKind.i64 0, Value.int IntKind.i64 0, Value.bool false, undef, Value.int IntKind.i64 r, Value.bool true, Value.bool false, Value.agg #[Value.int IntKind.i64 ln, Value.slice aw N cw, Value.slice ag (dG s gs).length cg], Value.int IntKind.i64 (k : Int), Value.bool true, Value.bool false, .pointer (some ⟨bd, 1, none⟩), undef, undef, .int .i64 (k : Int), .pointer (some ⟨bd, 1, none⟩), undef, undef, undef, undef, undef, undef, undef, undef, undef, undef, undef, undef, undef, undef, undef, undef], defers := [] } (World.drew w3)
        refine wpAnyH_take (i := 1) (v := .slice aw N cw) rfl (by kernel_rfl) (by kernel_rfl) (by kernel_rfl) (fun _ _ _ h => h) (Or.inl ⟨by rfl, fun Z hZ => ?_⟩) hkS ?_
        · go_simp
        change wpAnyH _ _ _ _ _ 8 #[true, true, false, true, true, false, false, false, false, false, false, false] { tmps := #[Value.int IntKind.i64 r, Value.int IntKind.i64 (k : Int), Value.bool s, Value.slice a L cap, undef, undef, undef, undef, Value.int IntKind.i64 0, Value.int IntKind.i64 0, Value.pointer (some ⟨bd, 0, none⟩), Value.int IntKind.i64 0, undef, Value.tuple #[Value.agg #[Value.int IntKind.i64 ln, Value.slice aw N cw, Value.slice ag (dG s gs).length cg], Value.int IntKind.i64 0], Value.bool s, Value.slice a L cap, Value.tuple #[Value.agg #[Value.int IntKind.i64 ln, Value.slice aw N cw, Value.slice ag (dG s gs).length cg], Value.int IntKind.i64 0], Value.agg #[Value.int IntKind.i64 ln, Value.slice aw N cw, Value.slice ag (dG s gs).length cg], Value.int IntKind.i64 0, Value.int IntKind.i64 0, Value.bool false, undef, Value.int IntKind.i64 r, Value.bool true, Value.bool false, Value.agg #[Value.int IntKind.i64 ln, Value.slice aw N cw, Value.slice ag (dG s gs).length cg], Value.int IntKind.i64 (k : Int), Value.bool true, Value.bool false, .pointer (some ⟨bd, 1, none⟩), .slice aw N cw, undef, .int .i64 (k : Int), .pointer (some ⟨bd, 1, none⟩), undef, undef, undef, undef, undef, undef, undef, undef, undef, undef, undef, undef, undef, undef, undef, undef], defers := [] } (World.drew w3)
        refine wpAnyH_take (i := 5) (v := .slice aw N cw) rfl (by kernel_rfl) (by kernel_rfl) (by kernel_rfl) (fun _ _ _ h => h) (Or.inl ⟨by rfl, fun Z hZ => ?_⟩) hkS ?_
        · go_simp
        change wpAnyH _ _ _ _ _ 7 #[true, true, false, true, true, true, false, false, false, false, false, false] { tmps := #[Value.int IntKind.i64 r, Value.int IntKind.i64 (k : Int), Value.bool s, Value.slice a L cap, undef, undef, undef, undef, Value.int IntKind.i64 0, Value.int IntKind.i64 0, Value.pointer (some ⟨bd, 0, none⟩), Value.int IntKind.i64 0, undef, Value.tuple #[Value.agg #[Value.int IntKind.i64 ln, Value.slice aw N cw, Value.slice ag (dG s gs).length cg], Value.int IntKind.i64 0], Value.bool s, Value.slice a L cap, Value.tuple #[Value.agg #[Value.int IntKind.i64 ln, Value.slice aw N cw, Value.slice ag (dG s gs).length cg], Value.int IntKind.i64 0], Value.agg #[Value.int IntKind.i64 ln, Value.slice aw N cw, Value.slice ag (dG s gs).length cg], Value.int IntKind.i64 0, Value.int IntKind.i64 0, Value.bool false, undef, Value.int IntKind.i64 r, Value.bool true, Value.bool false, Value.agg #[Value.int IntKind.i64 ln, Value.slice aw N cw, Value.slice ag (dG s gs).length cg], Value.int IntKind.i64 (k : Int), Value.bool true, Value.bool false, .pointer (some ⟨bd, 1, none⟩), .slice aw N cw, undef, .int .i64 (k : Int), .pointer (some ⟨bd, 1, none⟩), .slice aw N cw, undef, undef, undef, undef, undef, undef, undef, undef, undef, undef, undef, undef, undef, undef, undef], defers := [] } (World.drew w3)
        refine wpAnyH_take (i := 6) (v := .int .i64 (N : Int)) rfl (by kernel_rfl) (by kernel_rfl) (by kernel_rfl) (fun _ _ _ h => h) (Or.inl ⟨by rfl, fun Z hZ => ?_⟩) hkS ?_
        · go_simp
        change wpAnyH _ _ _ _ _ 6 #[true, true, false, true, true, true, true, false, false, false, false, false] { tmps := #[Value.int IntKind.i64 r, Value.int IntKind.i64 (k : Int), Value.bool s, Value.slice a L cap, undef, undef, undef, undef, Value.int IntKind.i64 0, Value.int IntKind.i64 0, Value.pointer (some ⟨bd, 0, none⟩), Value.int IntKind.i64 0, undef, Value.tuple #[Value.agg #[Value.int IntKind.i64 ln, Value.slice aw N cw, Value.slice ag (dG s gs).length cg], Value.int IntKind.i64 0], Value.bool s, Value.slice a L cap, Value.tuple #[Value.agg #[Value.int IntKind.i64 ln, Value.slice aw N cw, Value.slice ag (dG s gs).length cg], Value.int IntKind.i64 0], Value.agg #[Value.int IntKind.i64 ln, Value.slice aw N cw, Value.slice ag (dG s gs).length cg], Value.int IntKind.i64 0, Value.int IntKind.i64 0, Value.bool false, undef, Value.int IntKind.i64 r, Value.bool true, Value.bool false, Value.agg #[Value.int IntKind.i64 ln, Value.slice aw N cw, Value.slice ag (dG s gs).length cg], Value.int IntKind.i64 (k : Int), Value.bool true, Value.bool false, .pointer (some ⟨bd, 1, none⟩), .slice aw N cw, undef, .int .i64 (k : Int), .pointer (some ⟨bd, 1, none⟩), .slice aw N cw, .int .i64 (N : Int), undef, undef, undef, undef, undef, undef, undef, undef, undef, undef, undef, undef, undef, undef], defers := [] } (World.drew w3)
        refine wpAnyH_take (i := 7) (v := .int .i64 (j : Int)) rfl (by kernel_rfl) (by kernel_rfl) (by kernel_rfl) (fun _ _ _ h => h) (Or.inl ⟨by rfl, fun Z hZ => ?_⟩) hkS ?_
        · go_simp
        change wpAnyH _ _ _ _ _ 5 #[true, true, false, true, true, true, true, true, false, false, false, false] { tmps := #[Value.int IntKind.i64 r, Value.int IntKind.i64 (k : Int), Value.bool s, Value.slice a L cap, undef, undef, undef, undef, Value.int IntKind.i64 0, Value.int IntKind.i64 0, Value.pointer (some ⟨bd, 0, none⟩), Value.int IntKind.i64 0, undef, Value.tuple #[Value.agg #[Value.int IntKind.i64 ln, Value.slice aw N cw, Value.slice ag (dG s gs).length cg], Value.int IntKind.i64 0], Value.bool s, Value.slice a L cap, Value.tuple #[Value.agg #[Value.int IntKind.i64 ln, Value.slice aw N cw, Value.slice ag (dG s gs).length cg], Value.int IntKind.i64 0], Value.agg #[Value.int IntKind.i64 ln, Value.slice aw N cw, Value.slice ag (dG s gs).length cg], Value.int IntKind.i64 0, Value.int IntKind.i64 0, Value.bool false, undef, Value.int IntKind.i64 r, Value.bool true, Value.bool false, Value.agg #[Value.int IntKind.i64 ln, Value.slice aw N cw, Value.slice ag (dG s gs).length cg], Value.int IntKind.i64 (k : Int), Value.bool true, Value.bool false, .pointer (some ⟨bd, 1, none⟩), .slice aw N cw, undef, .int .i64 (k : Int), .pointer (some ⟨bd, 1, none⟩), .slice aw N cw, .int .i64 (N : Int), .int .i64 (j : Int), undef, undef, undef, undef, undef, undef, undef, undef, undef, undef, undef, undef, undef], defers := [] } (World.drew w3)
        refine wpAnyH_ready (rs := [2, 10]) (by kernel_rfl) (by simp) ?_
        refine AllReadyH.cons rfl (fun K hK => ?_) ?_
        · go_simp
          refine (HSp.out _ _ (HI2.out _ ((Upd.refl NoB w3).drew))).mono ?_
          rintro e w4 ⟨v4, rfl, r4, u4⟩
          rw [HN.out] at r4
          obtain ⟨g4, c4, rfl⟩ := row_slice r4 (by omega)
          have d0 := r4.cellAt (2 * j) (by omega)
          have d1 := r4.cellAt (2 * j + 1) (by omega)
          rw [HGet.out.1, Nat.mul_comm] at d0
          rw [HGet.out.2, Nat.mul_comm] at d1
          have hg4 := (r4.lt g4 rfl).1
          have U4 := Lib.hid (((Upd.refl NoB w3).drew).then u4)
          have hS4 := HK1.out w4 U4.out
          have n4 := U4.out.heap N3.out (noB _)
          have k0 : w4.cell? ⟨bd, 0, none⟩ = some (.int .i64 ln) := blk_cell n4 0
          clear u4 r4 n4
          refine hK.out _ _ hS4 (fun _ => ?_)
          change wpAnyH _ _ _ _ _ 4 #[true, true, true, true, true, true, true, true, false, false, false, false] { tmps := #[Value.int IntKind.i64 r, Value.int IntKind.i64 (k : Int), Value.bool s, Value.slice a L cap, undef, undef, undef, undef, Value.int IntKind.i64 0, Value.int IntKind.i64 0, Value.pointer (some ⟨bd, 0, none⟩), Value.int IntKind.i64 0, undef, Value.tuple #[Value.agg #[Value.int IntKind.i64 ln, Value.slice aw N cw, Value.slice ag (dG s gs).length cg], Value.int IntKind.i64 0], Value.bool s, Value.slice a L cap, Value.tuple #[Value.agg #[Value.int IntKind.i64 ln, Value.slice aw N cw, Value.slice ag (dG s gs).length cg], Value.int IntKind.i64 0], Value.agg #[Value.int IntKind.i64 ln, Value.slice aw N cw, Value.slice ag (dG s gs).length cg], Value.int IntKind.i64 0, Value.int IntKind.i64 0, Value.bool false, undef, Value.int IntKind.i64 r, Value.bool true, Value.bool false, Value.agg #[Value.int IntKind.i64 ln, Value.slice aw N cw, Value.slice ag (dG s gs).length cg], Value.int IntKind.i64 (k : Int), Value.bool true, Value.bool false, .pointer (some ⟨bd, 1, none⟩), .slice aw N cw, .slice (some ⟨g4, 0, none⟩) N c4, .int .i64 (k : Int), .pointer (some ⟨bd, 1, none⟩), .slice aw N cw, .int .i64 (N : Int), .int .i64 (j : Int), undef, undef, undef, undef, undef, undef, undef, undef, undef, undef, undef, undef, undef], defers := [] } w4
          refine wpAnyH_take (i := 8) (v := .pointer (some ⟨g4, j * 2, none⟩)) rfl (by kernel_rfl) (by kernel_rfl) (by kernel_rfl) (fun _ _ _ h => h) (Or.inl ⟨by rfl, fun Z hZ => ?_⟩) hS4 ?_
          · go_simp
          change wpAnyH _ _ _ _ _ 3 #[true, true, true, true, true, true, true, true, true, false, false, false] { tmps := #[Value.int IntKind.i64 r, Value.int IntKind.i64 (k : Int), Value.bool s, Value.slice a L cap, undef, undef, undef, undef, Value.int IntKind.i64 0, Value.int IntKind.i64 0, Value.pointer (some ⟨bd, 0, none⟩), Value.int IntKind.i64 0, undef, Value.tuple #[Value.agg #[Value.int IntKind.i64 ln, Value.slice aw N cw, Value.slice ag (dG s gs).length cg], Value.int IntKind.i64 0], Value.bool s, Value.slice a L cap, Value.tuple #[Value.agg #[Value.int IntKind.i64 ln, Value.slice aw N cw, Value.slice ag (dG s gs).length cg], Value.int IntKind.i64 0], Value.agg #[Value.int IntKind.i64 ln, Value.slice aw N cw, Value.slice ag (dG s gs).length cg], Value.int IntKind.i64 0, Value.int IntKind.i64 0, Value.bool false, undef, Value.int IntKind.i64 r, Value.bool true, Value.bool false, Value.agg #[Value.int IntKind.i64 ln, Value.slice aw N cw, Value.slice ag (dG s gs).length cg], Value.int IntKind.i64 (k : Int), Value.bool true, Value.bool false, .pointer (some ⟨bd, 1, none⟩), .slice aw N cw, .slice (some ⟨g4, 0, none⟩) N c4, .int .i64 (k : Int), .pointer (some ⟨bd, 1, none⟩), .slice aw N cw, .int .i64 (N : Int), .int .i64 (j : Int), .pointer (some ⟨g4, j * 2, none⟩), undef, undef, undef, undef, undef, undef, undef, undef, undef, undef, undef, undef], defers := [] } w4
          refine wpAnyH_ready (rs := [9, 10]) (by kernel_rfl) (by simp) ?_
          refine AllReadyH.cons rfl (fun K hK => ?_) ?_
          · go_simp
            refine hK.out _ _ hS4 (fun _ => ?_)
            change wpAnyH _ _ _ _ _ 2 #[true, true, true, true, true, true, true, true, true, true, false, false] { tmps := #[Value.int IntKind.i64 r, Value.int IntKind.i64 (k : Int), Value.bool s, Value.slice a L cap, undef, undef, undef, undef, Value.int IntKind.i64 0, Value.int IntKind.i64 0, Value.pointer (some ⟨bd, 0, none⟩), Value.int IntKind.i64 0, undef, Value.tuple #[Value.agg #[Value.int IntKind.i64 ln, Value.slice aw N cw, Value.slice ag (dG s gs).length cg], Value.int IntKind.i64 0], Value.bool s, Value.slice a L cap, Value.tuple #[Value.agg #[Value.int IntKind.i64 ln, Value.slice aw N cw, Value.slice ag (dG s gs).length cg], Value.int IntKind.i64 0], Value.agg #[Value.int IntKind.i64 ln, Value.slice aw N cw, Value.slice ag (dG s gs).length cg], Value.int IntKind.i64 0, Value.int IntKind.i64 0, Value.bool false, undef, Value.int IntKind.i64 r, Value.bool true, Value.bool false, Value.agg #[Value.int IntKind.i64 ln, Value.slice aw N cw, Value.slice ag (dG s gs).length cg], Value.int IntKind.i64 (k : Int), Value.bool true, Value.bool false, .pointer (some ⟨bd, 1, none⟩), .slice aw N cw, .slice (some ⟨g4, 0, none⟩) N c4, .int .i64 (k : Int), .pointer (some ⟨bd, 1, none⟩), .slice aw N cw, .int .i64 (N : Int), .int .i64 (j : Int), .pointer (some ⟨g4, j * 2, none⟩), .agg #[.int .i64 f, .int .i64 t], undef, undef, undef, undef, undef, undef, undef, undef, undef, undef, undef], defers := [] } w4
            refine wpAnyH_ready (rs := [10]) (by kernel_rfl) (by simp) ?_
            refine AllReadyH.cons rfl (fun K hK => ?_) ?_
            · go_simp
              refine hK.out _ _ (((Upd.refl NoB w4).alloc _).cell hS4 (noB _)) (fun _ => ?_)
              change wpAnyH _ _ _ _ _ 1 #[true, true, true, true, true, true, true, true, true, true, true, false] { tmps := #[Value.int IntKind.i64 r, Value.int IntKind.i64 (k : Int), Value.bool s, Value.slice a L cap, undef, undef, undef, undef, Value.int IntKind.i64 0, Value.int IntKind.i64 0, Value.pointer (some ⟨bd, 0, none⟩), Value.int IntKind.i64 0, .pointer (some ⟨w4.heap.size, 0, none⟩), Value.tuple #[Value.agg #[Value.int IntKind.i64 ln, Value.slice aw N cw, Value.slice ag (dG s gs).length cg], Value.int IntKind.i64 0], Value.bool s, Value.slice a L cap, Value.tuple #[Value.agg #[Value.int IntKind.i64 ln, Value.slice aw N cw, Value.slice ag (dG s gs).length cg], Value.int IntKind.i64 0], Value.agg #[Value.int IntKind.i64 ln, Value.slice aw N cw, Value.slice ag (dG s gs).length cg], Value.int IntKind.i64 0, Value.int IntKind.i64 0, Value.bool false, undef, Value.int IntKind.i64 r, Value.bool true, Value.bool false, Value.agg #[Value.int IntKind.i64 ln, Value.slice aw N cw, Value.slice ag (dG s gs).length cg], Value.int IntKind.i64 (k : Int), Value.bool true, Value.bool false, .pointer (some ⟨bd, 1, none⟩), .slice aw N cw, .slice (some ⟨g4, 0, none⟩) N c4, .int .i64 (k : Int), .pointer (some ⟨bd, 1, none⟩), .slice aw N cw, .int .i64 (N : Int), .int .i64 (j : Int), .pointer (some ⟨g4, j * 2, none⟩), .agg #[.int .i64 f, .int .i64 t], undef, undef, undef, undef, undef, undef, undef, undef, undef, undef, undef], defers := [] } (w4.alloc (.cells #[.int .i64 0, .int .i64 0] 66))
              refine wpAnyH_ready (rs := [11]) (by kernel_rfl) (by simp) ?_
              refine AllReadyH.cons rfl (fun K hK => ?_) ?_
              · go_simp
                refine hK.out _ _ (((Upd.refl NoB w4).alloc _).cell hS4 (noB _)) (fun _ => ?_)
                have k0' := ((Upd.refl NoB w4).alloc (.cells #[.int .i64 f, .int .i64 t] 66)).cell k0 (noB _)
                refine wpAnyH_done (by kernel_rfl) ?_ _
                go_wp2_with fail
                go_ret2
                exact ⟨rfl, (U1.out.then U13.out).then (U4.out.then ((Upd.refl NoB w4).alloc _))⟩
              · exact AllReadyH.nil
            · exact AllReadyH.nil
          refine AllReadyH.cons rfl (fun K hK => ?_) ?_
          · go_simp
            refine hK.out _ _ (((Upd.refl NoB w4).alloc _).cell hS4 (noB _)) (fun _ => ?_)
            change wpAnyH _ _ _ _ _ 2 #[true, true, true, true, true, true, true, true, true, false, true, false] { tmps := #[Value.int IntKind.i64 r, Value.int IntKind.i64 (k : Int), Value.bool s, Value.slice a L cap, undef, undef, undef, undef, Value.int IntKind.i64 0, Value.int IntKind.i64 0, Value.pointer (some ⟨bd, 0, none⟩), Value.int IntKind.i64 0, .pointer (some ⟨w4.heap.size, 0, none⟩), Value.tuple #[Value.agg #[Value.int IntKind.i64 ln, Value.slice aw N cw, Value.slice ag (dG s gs).length cg], Value.int IntKind.i64 0], Value.bool s, Value.slice a L cap, Value.tuple #[Value.agg #[Value.int IntKind.i64 ln, Value.slice aw N cw, Value.slice ag (dG s gs).length cg], Value.int IntKind.i64 0], Value.agg #[Value.int IntKind.i64 ln, Value.slice aw N cw, Value.slice ag (dG s gs).length cg], Value.int IntKind.i64 0, Value.int IntKind.i64 0, Value.bool false, undef, Value.int IntKind.i64 r, Value.bool true, Value.bool false, Value.agg #[Value.int IntKind.i64 ln, Value.slice aw N cw, Value.slice ag (dG s gs).length cg], Value.int IntKind.i64 (k : Int), Value.bool true, Value.bool false, .pointer (some ⟨bd, 1, none⟩), .slice aw N cw, .slice (some ⟨g4, 0, none⟩) N c4, .int .i64 (k : Int), .pointer (some ⟨bd, 1, none⟩), .slice aw N cw, .int .i64 (N : Int), .int .i64 (j : Int), .pointer (some ⟨g4, j * 2, none⟩), undef, undef, undef, undef, undef, undef, undef, undef, undef, undef, undef, undef], defers := [] } (w4.alloc (.cells #[.int .i64 0, .int .i64 0] 66))
            have d0' := ((Upd.refl NoB w4).alloc (.cells #[.int .i64 0, .int .i64 0] 66)).cell d0 (noB _)
            have d1' := ((Upd.refl NoB w4).alloc (.cells #[.int .i64 0, .int .i64 0] 66)).cell d1 (noB _)
            refine wpAnyH_ready (rs := [9]) (by kernel_rfl) (by simp) ?_
            refine AllReadyH.cons rfl (fun K hK => ?_) ?_
            · go_simp
              refine hK.out _ _ (((Upd.refl NoB w4).alloc _).cell hS4 (noB _)) (fun _ => ?_)
              change wpAnyH _ _ _ _ _ 1 #[true, true, true, true, true, true, true, true, true, true, true, false] { tmps := #[Value.int IntKind.i64 r, Value.int IntKind.i64 (k : Int), Value.bool s, Value.slice a L cap, undef, undef, undef, undef, Value.int IntKind.i64 0, Value.int IntKind.i64 0, Value.pointer (some ⟨bd, 0, none⟩), Value.int IntKind.i64 0, .pointer (some ⟨w4.heap.size, 0, none⟩), Value.tuple #[Value.agg #[Value.int IntKind.i64 ln, Value.slice aw N cw, Value.slice ag (dG s gs).length cg], Value.int IntKind.i64 0], Value.bool s, Value.slice a L cap, Value.tuple #[Value.agg #[Value.int IntKind.i64 ln, Value.slice aw N cw, Value.slice ag (dG s gs).length cg], Value.int IntKind.i64 0], Value.agg #[Value.int IntKind.i64 ln, Value.slice aw N cw, Value.slice ag (dG s gs).length cg], Value.int IntKind.i64 0, Value.int IntKind.i64 0, Value.bool false, undef, Value.int IntKind.i64 r, Value.bool true, Value.bool false, Value.agg #[Value.int IntKind.i64 ln, Value.slice aw N cw, Value.slice ag (dG s gs).length cg], Value.int IntKind.i64 (k : Int), Value.bool true, Value.bool false, .pointer (some ⟨bd, 1, none⟩), .slice aw N cw, .slice (some ⟨g4, 0, none⟩) N c4, .int .i64 (k : Int), .pointer (some ⟨bd, 1, none⟩), .slice aw N cw, .int .i64 (N : Int), .int .i64 (j : Int), .pointer (some ⟨g4, j * 2, none⟩), .agg #[.int .i64 f, .int .i64 t], undef, undef, undef, undef, undef, undef, undef, undef, undef, undef, undef], defers := [] } (w4.alloc (.cells #[.int .i64 0, .int .i64 0] 66))
              refine wpAnyH_ready (rs := [11]) (by kernel_rfl) (by simp) ?_
              refine AllReadyH.cons rfl (fun K hK => ?_) ?_
              · go_simp
                refine hK.out _ _ (((Upd.refl NoB w4).alloc _).cell hS4 (noB _)) (fun _ => ?_)
                have k0' := ((Upd.refl NoB w4).alloc (.cells #[.int .i64 f, .int .i64 t] 66)).cell k0 (noB _)
                refine wpAnyH_done (by kernel_rfl) ?_ _
                go_wp2_with fail
                go_ret2
                exact ⟨rfl, (U1.out.then U13.out).then (U4.out.then ((Upd.refl NoB w4).alloc _))⟩
              · exact AllReadyH.nil
            · exact AllReadyH.nil
          exact AllReadyH.nil
        refine AllReadyH.cons rfl (fun K hK => ?_) ?_
        · go_simp
          refine hK.out _ _ (HK1.out _ (((Upd.refl NoB w3).drew).alloc (.cells #[.int .i64 0, .int .i64 0] 66))) (fun _ => ?_)
          change wpAnyH _ _ _ _ _ 4 #[true, true, false, true, true, true, true, true, false, false, true, false] { tmps := #[Value.int IntKind.i64 r, Value.int IntKind.i64 (k : Int), Value.bool s, Value.slice a L cap, undef, undef, undef, undef, Value.int IntKind.i64 0, Value.int IntKind.i64 0, Value.pointer (some ⟨bd, 0, none⟩), Value.int IntKind.i64 0, .pointer (some ⟨w3.heap.size, 0, none⟩), Value.tuple #[Value.agg #[Value.int IntKind.i64 ln, Value.slice aw N cw, Value.slice ag (dG s gs).length cg], Value.int IntKind.i64 0], Value.bool s, Value.slice a L cap, Value.tuple #[Value.agg #[Value.int IntKind.i64 ln, Value.slice aw N cw, Value.slice ag (dG s gs).length cg], Value.int IntKind.i64 0], Value.agg #[Value.int IntKind.i64 ln, Value.slice aw N cw, Value.slice ag (dG s gs).length cg], Value.int IntKind.i64 0, Value.int IntKind.i64 0, Value.bool false, undef, Value.int IntKind.i64 r, Value.bool true, Value.bool false, Value.agg #[Value.int IntKind.i64 ln, Value.slice aw N cw, Value.slice ag (dG s gs).length cg], Value.int IntKind.i64 (k : Int), Value.bool true, Value.bool false, .pointer (some ⟨bd, 1, none⟩), .slice aw N cw, undef, .int .i64 (k : Int), .pointer (some ⟨bd, 1, none⟩), .slice aw N cw, .int .i64 (N : Int), .int .i64 (j : Int), undef, undef, undef, undef, undef, undef, undef, undef, undef, undef, undef, undef, undef], defers := [] } (World.alloc (World.drew w3) (.cells #[.int .i64 0, .int .i64 0] 66))
          refine wpAnyH_ready (rs := [2]) (by kernel_rfl) (by simp) ?_
          refine AllReadyH.cons rfl (fun K hK => ?_) ?_
          · go_simp
            refine (HSp.out _ _ (HI2.out _ (((Upd.refl NoB w3).drew).alloc (.cells #[.int .i64 0, .int .i64 0] 66)))).mono ?_
            rintro e w4 ⟨v4, rfl, r4, u4⟩
            rw [HN.out] at r4
            obtain ⟨g4, c4, rfl⟩ := row_slice r4 (by omega)
            have d0 := r4.cellAt (2 * j) (by omega)
            have d1 := r4.cellAt (2 * j + 1) (by omega)
            rw [HGet.out.1, Nat.mul_comm] at d0
            rw [HGet.out.2, Nat.mul_comm] at d1
            have hg4 := (r4.lt g4 rfl).1
            have U4 := Lib.hid ((((Upd.refl NoB w3).drew).alloc (.cells #[.int .i64 0, .int .i64 0] 66)).then u4)
            have hS4 := HK1.out w4 U4.out
            have n4 := U4.out.heap N3.out (noB _)
            have k0 : w4.cell? ⟨bd, 0, none⟩ = some (.int .i64 ln) := blk_cell n4 0
            have nb : w4.heap[w3.heap.size]? = some (.cells #[.int .i64 0, .int .i64 0] 66 (0, 0)) := u4.heap (heap_alloc_new w3.drew (.cells #[.int .i64 0, .int .i64 0] 66)) (noB _)
            have q0 : w4.cell? ⟨w3.heap.size, 0, none⟩ = some (.int .i64 0) := blk_cell nb 0
            have q1 : w4.cell? ⟨w3.heap.size, 1, none⟩ = some (.int .i64 0) := blk_cell nb 1
            have qf0 := blk_free nb 0
            have qf1 := blk_free nb 1
            have hbn : bd ≠ w3.heap.size := by have := lt_of_block N3.out; omega
            clear u4 r4 n4
            refine hK.out _ _ hS4 (fun _ => ?_)
            change wpAnyH _ _ _ _ _ 3 #[true, true, true, true, true, true, true, true, false, false, true, false] { tmps := #[Value.int IntKind.i64 r, Value.int IntKind.i64 (k : Int), Value.bool s, Value.slice a L cap, undef, undef, undef, undef, Value.int IntKind.i64 0, Value.int IntKind.i64 0, Value.pointer (some ⟨bd, 0, none⟩), Value.int IntKind.i64 0, .pointer (some ⟨w3.heap.size, 0, none⟩), Value.tuple #[Value.agg #[Value.int IntKind.i64 ln, Value.slice aw N cw, Value.slice ag (dG s gs).length cg], Value.int IntKind.i64 0], Value.bool s, Value.slice a L cap, Value.tuple #[Value.agg #[Value.int IntKind.i64 ln, Value.slice aw N cw, Value.slice ag (dG s gs).length cg], Value.int IntKind.i64 0], Value.agg #[Value.int IntKind.i64 ln, Value.slice aw N cw, Value.slice ag (dG s gs).length cg], Value.int IntKind.i64 0, Value.int IntKind.i64 0, Value.bool false, undef, Value.int IntKind.i64 r, Value.bool true, Value.bool false, Value.agg #[Value.int IntKind.i64 ln, Value.slice aw N cw, Value.slice ag (dG s gs).length cg], Value.int IntKind.i64 (k : Int), Value.bool true, Value.bool false, .pointer (some ⟨bd, 1, none⟩), .slice aw N cw, .slice (some ⟨g4, 0, none⟩) N c4, .int .i64 (k : Int), .pointer (some ⟨bd, 1, none⟩), .slice aw N cw, .int .i64 (N : Int), .int .i64 (j : Int), undef, undef, undef, undef, undef, undef, undef, undef, undef, undef, undef, undef, undef], defers := [] } w4
            refine wpAnyH_take (i := 8) (v := .pointer (some ⟨g4, j * 2, none⟩)) rfl (by kernel_rfl) (by kernel_rfl) (by kernel_rfl) (fun _ _ _ h => h) (Or.inl ⟨by rfl, fun Z hZ => ?_⟩) hS4 ?_
            · go_simp
            change wpAnyH _ _ _ _ _ 2 #[true, true, true, true, true, true, true, true, true, false, true, false] { tmps := #[Value.int IntKind.i64 r, Value.int IntKind.i64 (k : Int), Value.bool s, Value.slice a L cap, undef, undef, undef, undef, Value.int IntKind.i64 0, Value.int IntKind.i64 0, Value.pointer (some ⟨bd, 0, none⟩), Value.int IntKind.i64 0, .pointer (some ⟨w3.heap.size, 0, none⟩), Value.tuple #[Value.agg #[Value.int IntKind.i64 ln, Value.slice aw N cw, Value.slice ag (dG s gs).length cg], Value.int IntKind.i64 0], Value.bool s, Value.slice a L cap, Value.tuple #[Value.agg #[Value.int IntKind.i64 ln, Value.slice aw N cw, Value.slice ag (dG s gs).length cg], Value.int IntKind.i64 0], Value.agg #[Value.int IntKind.i64 ln, Value.slice aw N cw, Value.slice ag (dG s gs).length cg], Value.int IntKind.i64 0, Value.int IntKind.i64 0, Value.bool false, undef, Value.int IntKind.i64 r, Value.bool true, Value.bool false, Value.agg #[Value.int IntKind.i64 ln, Value.slice aw N cw, Value.slice ag (dG s gs).length cg], Value.int IntKind.i64 (k : Int), Value.bool true, Value.bool false, .pointer (some ⟨bd, 1, none⟩), .slice aw N cw, .slice (some ⟨g4, 0, none⟩) N c4, .int .i64 (k : Int), .pointer (some ⟨bd, 1, none⟩), .slice aw N cw, .int .i64 (N : Int), .int .i64 (j : Int), .pointer (some ⟨g4, j * 2, none⟩), undef, undef, undef, undef, undef, undef, undef, undef, undef, undef, undef, undef], defers := [] } w4
            refine wpAnyH_ready (rs := [9]) (by kernel_rfl) (by simp) ?_
            refine AllReadyH.cons rfl (fun K hK => ?_) ?_
            · go_simp
              refine hK.out _ _ hS4 (fun _ => ?_)
              change wpAnyH _ _ _ _ _ 1 #[true, true, true, true, true, true, true, true, true, true, true, false] { tmps := #[Value.int IntKind.i64 r, Value.int IntKind.i64 (k : Int), Value.bool s, Value.slice a L cap, undef, undef, undef, undef, Value.int IntKind.i64 0, Value.int IntKind.i64 0, Value.pointer (some ⟨bd, 0, none⟩), Value.int IntKind.i64 0, .pointer (some ⟨w3.heap.size, 0, none⟩), Value.tuple #[Value.agg #[Value.int IntKind.i64 ln, Value.slice aw N cw, Value.slice ag (dG s gs).length cg], Value.int IntKind.i64 0], Value.bool s, Value.slice a L cap, Value.tuple #[Value.agg #[Value.int IntKind.i64 ln, Value.slice aw N cw, Value.slice ag (dG s gs).length cg], Value.int IntKind.i64 0], Value.agg #[Value.int IntKind.i64 ln, Value.slice aw N cw, Value.slice ag (dG s gs).length cg], Value.int IntKind.i64 0, Value.int IntKind.i64 0, Value.bool false, undef, Value.int IntKind.i64 r, Value.bool true, Value.bool false, Value.agg #[Value.int IntKind.i64 ln, Value.slice aw N cw, Value.slice ag (dG s gs).length cg], Value.int IntKind.i64 (k : Int), Value.bool true, Value.bool false, .pointer (some ⟨bd, 1, none⟩), .slice aw N cw, .slice (some ⟨g4, 0, none⟩) N c4, .int .i64 (k : Int), .pointer (some ⟨bd, 1, none⟩), .slice aw N cw, .int .i64 (N : Int), .int .i64 (j : Int), .pointer (some ⟨g4, j * 2, none⟩), .agg #[.int .i64 f, .int .i64 t], undef, undef, undef, undef, undef, undef, undef, undef, undef, undef, undef], defers := [] } w4
              refine wpAnyH_ready (rs := [11]) (by kernel_rfl) (by simp) ?_
              refine AllReadyH.cons rfl (fun K hK => ?_) ?_
              · go_simp
                refine hK.out _ _ (HK2.out w4 f t hS4) (fun _ => ?_)
                refine wpAnyH_done (by kernel_rfl) ?_ _
                go_wp2_with fail
                go_ret2
                exact ⟨rfl, (U1.out.then U13.out).then ((HU2.out w4 f t U4.out).mono (fun k hk h => by have h2 : k = w3.heap.size := h; omega))⟩
              · exact AllReadyH.nil
            · exact AllReadyH.nil
          · exact AllReadyH.nil
        exact AllReadyH.nil
      · -- bad band
        have HE := Lib.hid (show ptE s gs r b = 6 by rw [HE0.out, if_pos hr, if_neg hb])
        have HF := Lib.hid (show ptS s gs r b = 0 from if_neg (by rw [HE.out]; decide))
        rw [HE.out, HF.out]
        have HDec := Lib.hid (show decide (0 ≤ b ∧ b < ((ctN s gs : Nat) : Int)) = false from decide_eq_false hb)
        generalize ctN s gs = C at *
        clear hb hr
        go_enter Tryd.func32, Tryd.ntmps32
        go_wp2_with fail
        refine HD.out.mono ?_
        intro e w1 hr
        unfold DRes at hr
        rw [if_pos HDd.out] at hr
        obtain ⟨vw, vg, rfl, iw, ig, u1⟩ := hr
        obtain ⟨aw, cw, rfl⟩ := iw.form
        obtain ⟨ag, cg, rfl⟩ := ig.form
        have U1 := Lib.hid u1
        clear iw ig u1
        obtain ⟨bd, hbd⟩ : ∃ bd, w1.heap.size = bd := ⟨_, rfl⟩
        have NQ := Lib.hid (show (w1.alloc (.cells #[.int .i64 (dLn s), .slice aw (dW s).length cw, .slice ag (dG s gs).length cg] 52)).heap[bd]? = some (.cells #[.int .i64 (dLn s), .slice aw (dW s).length cw, .slice ag (dG s gs).length cg] 52 (0, 0)) by rw [← hbd]; exact heap_alloc_new w1 _)
        have HBd := Lib.hid hbd
        clear hbd
        go_wp2_with fail
        rw [HBd.out]
        refine (isRate_any r _).mono ?_
        rw [HRt.out]
        rintro e w2 ⟨rfl, u2⟩
        have n2 := u2.heap NQ.out (noB _)
        have e0 := blk_cell n2 0
        have e1 := blk_cell n2 1
        have e2 := blk_cell n2 2
        have U12 := Lib.hid (((Upd.refl NoB w1).alloc _).then u2)
        clear u2 n2
        go_wp2_with fail
        refine (has_any _ _ _ (dW s).length (dG s gs).length _ _ _ _ (by have := (dW_bd s).1; omega) (by have := HBg.out.1; omega)).mono ?_
        rw [HCt.out, HDec.out]
        rintro e w3 ⟨rfl, u3⟩
        have U13 := Lib.hid (U12.out.then u3)
        clear u3
        go_wp2_with fail
        go_ret2
        exact ⟨rfl, U1.out.then U13.out⟩
    | false =>
      have HE := Lib.hid (show ptE s gs r b = 1 by rw [HE0.out, if_neg (by rw [hr]; decide)])
      have HF := Lib.hid (show ptS s gs r b = 0 from if_neg (by rw [HE.out]; decide))
      have HRt := Lib.hid hr
      rw [HE.out, HF.out]
      clear hr
      go_enter Tryd.func32, Tryd.ntmps32
      go_wp2_with fail
      refine HD.out.mono ?_
      intro e w1 hr
      unfold DRes at hr
      rw [if_pos HDd.out] at hr
      obtain ⟨vw, vg, rfl, iw, ig, u1⟩ := hr
      obtain ⟨aw, cw, rfl⟩ := iw.form
      obtain ⟨ag, cg, rfl⟩ := ig.form
      have U1 := Lib.hid u1
      clear iw ig u1
      go_wp2_with fail
      refine (isRate_any r _).mono ?_
      rw [HRt.out]
      rintro e w2 ⟨rfl, u2⟩
      have U12 := Lib.hid (((Upd.refl NoB w1).alloc _).then u2)
      clear u2
      go_wp2_with fail
      go_ret2
      exact ⟨rfl, U1.out.then U12.out⟩
  | false =>
    have hE : ptE s gs r b = 1 := if_neg (by rw [hd]; simp)
    have HE := Lib.hid hE; have HF := Lib.hid (show ptS s gs r b = 0 from if_neg (by rw [hE]; decide))
    rw [HE.out, HF.out]
    have HDd := Lib.hid (show ¬ isD s gs = true by rw [hd]; simp)
    obtain ⟨L, hL⟩ : ∃ L, gs.length = L := ⟨_, rfl⟩
    rw [hL] at HD ⊢
    clear h hg hd hL hE
    go_enter Tryd.func32, Tryd.ntmps32
    go_wp2_with fail
    refine HD.out.mono ?_
    intro e w1 hr
    unfold DRes at hr
    rw [if_neg HDd.out] at hr
    obtain ⟨rfl, u1⟩ := hr
    have U1 := Lib.hid u1
    clear u1
    go_wp2_with fail
    go_ret2
    exact ⟨rfl, U1.out.alloc _⟩
end Go.Proofs.YtaplmdkjoijcgaaDoor
