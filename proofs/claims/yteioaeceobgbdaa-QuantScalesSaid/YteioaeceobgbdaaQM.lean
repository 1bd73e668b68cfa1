/- quant: Noise -/
import Derived.Test.YteioaeceobgbdaaQL
namespace Go.Proofs.Yteioaeceobgbdaa
open Go.RowKit Go.Shelf
attribute [local go_sem] Oper.semAt_some

theorem row_block {w : World} {base : Nat} {e : TypeId} {size : Nat} {v : Value} {n : Nat} {xs : List Value} (h : w.ownsRow base e size v n xs) {k : Nat} (hk : v.ownBlock = some k) : base ≤ k := by
  rcases h.2 with h' | ⟨g, cap, cur, hv, hb, hgg, rest⟩
  · rw [h'.1] at hk; cases hk
  · subst hv
    cases hk
    exact hb
set_option maxRecDepth 100000 in
theorem sizesNew_any (sv : Value) (xs : List Int) (w : World) (h : Ints w sv xs) (hl : xs.length ≤ 128) (hin : inM 2097152 xs = true) :
    Calls Try.prog 60 #[sv] w fun e w' => ∃ a c, e = .returned (.slice a xs.length c) ∧ Ints w' (.slice a xs.length c) (xs.map szI) ∧ (∀ k, (Value.slice a xs.length c).ownBlock = some k → w.heap.size ≤ k) ∧ Upd NoB w w' := by
  have HE := Lib.hid (eachS_any sv xs w h hl hin)
  have HL := Lib.hid (show (xs.map szI).length = xs.length by rw [List.length_map])
  obtain ⟨a, cap, rfl⟩ := h.form
  generalize xs.map szI = ys at *
  generalize xs.length = L at *
  clear h hin
  go_enter Try.func60, Try.ntmps60
  go_wp2_with fail
  refine HE.out.mono ?_
  rintro e w2 ⟨v, rfl, r2, u2⟩
  obtain ⟨va, vc, rfl⟩ := row_form r2
  have I2 := Lib.hid (show Ints w2 (.slice va L vc) ys by
    have := Ints.ofRow (xs := ys) (w := w2) (base := w.heap.size) (v := .slice va L vc) (by rw [HL.out]; exact r2) (by rw [HL.out]; omega)
    exact this)
  have U2 := Lib.hid u2
  have RB := Lib.hid (fun k hk => row_block r2 (k := k) hk)
  clear r2 u2
  go_wp2_with fail
  go_ret
  exact ⟨_, _, rfl, I2.out, RB.out, U2.out⟩
def lsum (ys : List Ls) : Int := ys.foldl (fun s x => s + x.1) 0
theorem lsum_snoc (ys : List Ls) (x : Ls) : lsum (ys ++ [x]) = lsum ys + x.1 := by unfold lsum; rw [List.foldl_append]; rfl
theorem lsum_from : ∀ (ys : List Ls) (a : Int), a ≤ ys.foldl (fun s x => s + x.1) a ∧ ys.foldl (fun s x => s + x.1) a ≤ a + (ys.length : Int) * 4398046511104
  | [], a => by simp
  | x :: ys, a => by
    have := lsum_from ys (a + x.1)
    have hx := x.2
    rw [List.foldl_cons, List.length_cons, Int.natCast_add, Int.add_mul]
    omega
theorem lsum_bd (ys : List Ls) : 0 ≤ lsum ys ∧ lsum ys ≤ (ys.length : Int) * 4398046511104 := by
  have := lsum_from ys 0
  unfold lsum
  omega
def nsL (s : Nat) (cs : List Int) : Int := (cs.map (loN s)).foldl (fun s x => s + x) 0
theorem lsum_is {ys : List Ls} {zs : List Int} (h : ys.map Subtype.val = zs) : lsum ys = zs.foldl (fun s x => s + x) 0 := by
  subst h
  unfold lsum
  rw [List.foldl_map]
/-- the noise -/
def nV (xs : List Int) (s : Int) : Int := if ckS 2097152 xs s = 0 then nsL s.toNat (xs.map szI) else 0
theorem szI_in {xs : List Int} (hin : inM 2097152 xs = true) : ∀ c ∈ xs.map szI, 0 ≤ c ∧ c ≤ 2097152 := by
  intro c hc
  rw [List.mem_map] at hc
  obtain ⟨x, hx, rfl⟩ := hc
  have := inM_yes hin x hx
  unfold szI
  omega
def NInv (Bn b : Nat) (W : World) (pre : List Ls) (W' : World) : Prop := W'.heap[Bn]? = some (.cells #[.int .i64 (lsum pre)] 3 (0, 0)) ∧ Upd (fun k => k = Bn ∨ k = b) W W'
theorem NInv.own {Bn b : Nat} {W : World} (hs : Bn < W.heap.size) : OwnFrom W.heap.size (NInv Bn b W) := by
  rintro pre A B row ⟨h1, h4⟩ hg hr
  refine ⟨(hg.block _ (lt_of_block h1) (fun e => ?_)).trans h1, h4.grown hg (fun j e hk => ?_)⟩
  · have := (hr _ e.symm).1; omega
  · have := (hr j e).1; omega
theorem NInv.step {Bn b : Nat} {W : World} (hne : Bn ≠ b) : ∀ s A B, NInv Bn b W s A → (Upd (fun k => k = b) A B ∧ Memo B b) → NInv Bn b W s B := fun _ _ _ h ⟨u, _⟩ => ⟨u.heap h.1 hne, h.2.trans u (fun _ _ h => .inr h)⟩
set_option maxRecDepth 100000 in
set_option maxHeartbeats 4000000 in
theorem Noise_any (sv : Value) (xs : List Int) (s : Int) (w : World) (h : Ints w sv xs) : Calls Try.prog 24 #[sv, .int .i64 s] w fun e w' => e = .returned (.tuple #[.int .i64 (nV xs s), .int .i64 (ckS 2097152 xs s)]) ∧ Upd NoB w w' := by
  have HC := Lib.hid (check_any sv xs s 2097152 w (by decide) h)
  by_cases hE : ckS 2097152 xs s = 0
  · have HS := Lib.hid (show nV xs s = nsL s.toNat (xs.map szI) from if_pos hE)
    rw [HS.out, hE]
    rw [hE] at HC
    have hs : 0 ≤ s ∧ s ≤ 95 := by
      unfold ckS at hE
      split at hE
      · assumption
      · cases hE
    have hk : ckQ 2097152 xs = 0 := by
      unfold ckS at hE
      rw [if_pos hs] at hE
      exact hE
    obtain ⟨hl, hin⟩ := ckQ_ok hk
    obtain ⟨n, rfl⟩ : ∃ n : Nat, s = (n : Int) := ⟨s.toNat, by omega⟩
    rw [Int.toNat_natCast]
    have hn : n ≤ 95 := by omega
    have HLd := Lib.hid (fun W => ladderOf_any n W hn)
    have HZ := Lib.hid (fun W (u : Upd NoB w W) => sizesNew_any sv xs W (h.later u) hl hin)
    have HLn := Lib.hid (show (xs.map szI).length = xs.length by rw [List.length_map])
    have HLB := Lib.hid (show (xs.map szI).length ≤ 128 by rw [List.length_map]; exact hl)
    have HIn := Lib.hid (szI_in hin)
    have HNn := Lib.hid hn
    obtain ⟨a, cap, rfl⟩ := h.form
    obtain ⟨ys, hys⟩ : ∃ ys, xs.map szI = ys := ⟨_, rfl⟩
    rw [hys] at HZ HLn HLB HIn ⊢
    generalize xs.length = L at *
    clear h hE hs hk hl hin hn HS hys
    refine (callsIn_wide (n := 2)).1 ?_
    refine callsIn_of_wp_marks Try.func24 rfl trivial (wpIn_wide.2 ?_) rfl
    simp only [Try.ntmps24, List.size_toArray, List.length_cons, List.length_nil, Nat.reduceAdd, Nat.reduceSub, Array.replicate_succ, Array.replicate_zero, List.push_toArray, List.append_toArray, List.nil_append, List.cons_append]
    go_wp2_with fail
    refine HC.out.mono ?_
    rintro e w1 ⟨rfl, u1⟩
    have U1 := Lib.hid u1
    clear u1
    go_wp2_with fail
    have ub : Upd NoB w1 (w1.alloc (.cells #[.int .i64 0] 3)) := (Upd.refl _ _).alloc _
    have cb := heap_alloc_new w1 (.cells #[.int .i64 0] 3)
    obtain ⟨wa, hwa⟩ : ∃ wa, w1.alloc (.cells #[.int .i64 0] 3) = wa := ⟨_, rfl⟩
    rw [hwa] at ub cb ⊢
    have UA := Lib.hid (U1.out.then ub)
    obtain ⟨Bn, hBn⟩ : ∃ B, w1.heap.size = B := ⟨_, rfl⟩
    rw [hBn] at cb ⊢
    have CB := Lib.hid cb
    have HBw := Lib.hid (show w.heap.size ≤ Bn by rw [← hBn]; exact U1.out.size)
    clear ub cb hwa hBn
    refine (HLd.out _).mono ?_
    rintro e w2 ⟨b, rfl, hb, m2, u2⟩
    have M2 := Lib.hid m2; have U2 := Lib.hid (UA.out.then u2); have CB2 := Lib.hid (u2.heap CB.out (noB _))
    have HB := Lib.hid (show Bn < b from Nat.lt_of_lt_of_le (lt_of_block CB.out) hb)
    clear m2 u2 hb
    go_wp2_with fail
    refine (HZ.out w2 U2.out).mono ?_
    rintro e w3 ⟨za, zc, rfl, i3, hf3, u3⟩
    have I3 := Lib.hid i3; have U3 := Lib.hid (U2.out.then u3); have CB3 := Lib.hid (u3.heap CB2.out (noB _)); have M3 := Lib.hid (M2.out.later u3)
    have HF3 := Lib.hid (fun k hk => Nat.le_trans (Nat.succ_le_of_lt M2.out.lt) (hf3 k hk))
    clear i3 u3 hf3
    go_wp2_with fail
    refine (losses_any _ _ _ _ _ _ _).mono ?_
    rintro e w4 ⟨rfl, hw4⟩
    obtain ⟨c0, c1, hu⟩ := boxes2 w3 (.cells #[.int .i64 (n : Int), .int .i64 (stepN n : Nat), .pointer (some ⟨b, 0, none⟩)] 57) (.cells #[.slice za L zc] 28)
    rw [← hw4] at c0 c1 hu
    have U4 := Lib.hid (U3.out.then hu); have CB4 := Lib.hid (hu.heap CB3.out (noB _)); have M4 := Lib.hid (M3.out.later hu); have I4 := Lib.hid (I3.out.later hu)
    have hb3 := M3.out.lt
    obtain ⟨B, hB⟩ : ∃ B, w3.heap.size = B := ⟨_, rfl⟩
    rw [hB] at c0 c1 hb3 ⊢
    have hsz := lt_of_block c1
    have hBnb := HB.out
    have HSq := Lib.hid (losses1_seq B b n (n : Int) (.slice za L zc) ys (fun k => k = Bn) w4 HNn.out HIn.out HLB.out (by show ¬ B = Bn; omega) (by show ¬ B + 1 = Bn; omega) (by show ¬ b = Bn; omega)
      (fun _ k hk e => by have := HF3.out k hk; rcases e with e | e <;> omega) (by omega) (by omega) c0 c1 M4.out I4.out)
    have HSZ := Lib.hid (And.intro hsz (And.intro hb3 hBnb))
    clear hw4 c0 c1 hu hB hb3 hsz hBnb
    go_wp2_with fail
    refine (wpIn_wide (n := 2)).1 (wpIn_rangeT rfl (by omega) (gf := 100) (lb := #[.pointer (some ⟨B + 1, 0, none⟩), .pointer (some ⟨B, 0, none⟩)]) rfl trivial (enters_of Try.func100 (by kernel_rfl) rfl)
      HSq.out (fun h k => h.trans k) (fun W l o o' _ h ho => kpC_putObj h ho) (fun X Y ht k o hk hX _ => ht.1.heap hX (fun e => by have := HSZ.out; omega)) (Below.refl _ _) (fun _ => rfl)
      (NInv Bn b w4) (fun _ _ _ => False) (NInv.own (by have := HSZ.out; omega)) (fun _ _ _ _ _ hs _ _ => hs) (NInv.step (by have := HSZ.out; omega)) (fun _ _ _ _ h _ => h) (fun _ _ _ _ _ _ _ _ _ => trivial) ⟨CB4.out, Upd.refl _ _⟩
      (fun x a' _ => a' = { tmps := #[.slice a L cap, .int .i64 (n : Int), undef, undef, .int .i64 0, .int .i64 0, .int .i64 0, .pointer (some ⟨Bn, 0, none⟩), .int .i64 x.1, .slice a L cap, .int .i64 (n : Int), .int .i64 0, .int .i64 0, .bool false, undef, .int .i64 (n : Int), .agg #[.int .i64 (n : Int), .int .i64 (stepN n : Nat), .pointer (some ⟨b, 0, none⟩)], .slice a L cap, .slice za L zc, .func (.func 100) #[] #[.pointer (some ⟨B + 1, 0, none⟩), .pointer (some ⟨B, 0, none⟩)], .int .i64 x.1, undef, undef, undef, undef], defers := [] }) (fun _ _ _ _ _ _ h _ _ => h) ?assign ?body ?done ?stop)
    case assign =>
      intro l pre x W' K' hi _ hK'
      gi_wp2
      exact hK' _ _ (KeepsFrom.refl _ _) (KpC.refl _ _) hi trivial rfl
    case body =>
      rintro l pre x a' W' ⟨h1, h2⟩ _ rfl _ hN
      obtain ⟨b0, b1⟩ := lsum_bd pre
      have hx := x.2
      have hlb := HLB.out
      have HSn := Lib.hid (lsum_snoc pre x)
      have c0 := blk_cell h1 0
      have f0 := blk_free h1 0
      have H1 := Lib.hid h1; have H2 := Lib.hid h2
      obtain ⟨x, hx'⟩ := x
      simp only at *
      generalize lsum pre = S at *
      have z1 : wrap64 (S + x) = S + x := IntWalk.wrap64_in _ (by omega)
      have z2 : IntKind.i64.wrap (S + x) = S + x := IntWalk.i64_in _ (by clear z1; omega)
      clear h1 h2 b0 b1 hx hN hlb
      gi_wp2
      have us : Upd (fun k => k = Bn) W' (W'.setCell ⟨Bn, 0, none⟩ (.int .i64 (S + x))) := (Upd.refl _ _).setCell _ (fun _ => rfl)
      exact ⟨keeps_of_upd us (fun k hk e => by have := HSZ.out; have e : k = Bn := e; omega), us.kpC (fun _ h _ => h), by rw [HSn.out]; exact block_set H1.out _, H2.out.trans us (fun _ _ h => .inl h)⟩
    case done =>
      rintro D ws W' hD hS ⟨h1, h2⟩ hK
      have HR := Lib.hid (lsum_is hS)
      have c0 := blk_cell h1 0
      have H2 := Lib.hid h2; have HK := Lib.hid hK; have HDw := Lib.hid hD
      generalize lsum ws = S at *
      clear h1 h2 hS hD hK
      go_wp2
      refine ⟨by simp, .inl ⟨_, _, rfl, run_takeDeferred HK.out, ?_⟩⟩
      have hall : Upd (fun k => w.heap.size ≤ k) w (W'.putObj D (.deferred none)) :=
        (((U4.out.mono (T := fun k => w.heap.size ≤ k) (fun _ _ h => h.elim)).trans H2.out (fun k _ h => by have h : k = Bn ∨ k = b := h; have := HSZ.out; have := HBw.out; omega))).grown (grownBy_putObj' _ _ _) (fun k e hlt => by cases e; have := U4.out.size; have := HDw.out; omega)
      refine ⟨_, results_tmp2 (t := 4) (u := 5) rfl _ _ _, by rw [HR.out]; rfl, hall.mono (fun k hk h => by omega)⟩
    case stop =>
      rintro D c pre W' _ _ h _
      exact h.elim
  · have HS := Lib.hid (show nV xs s = 0 from if_neg hE)
    rw [HS.out]
    generalize ckS 2097152 xs s = E at *
    obtain ⟨a, cap, rfl⟩ := h.form
    have t1 : (E != 0) = true := bne_iff_ne.2 hE
    generalize xs.length = L at *
    clear h hE
    go_enter Try.func24, Try.ntmps24
    go_wp2_with fail
    refine HC.out.mono ?_
    rintro e w1 ⟨rfl, u1⟩
    have U1 := Lib.hid u1
    clear u1
    go_wp2_with fail
    go_ret2
    exact ⟨rfl, U1.out⟩
end Go.Proofs.Yteioaeceobgbdaa
