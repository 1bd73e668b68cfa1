/- stereo: flags in memory; choice -/
import Derived.Test.YtopjjdfnnjgnlaaUK
import Derived.Deep.Cut
namespace Go.Proofs.Ytopjjdfnnjgnlaa
open Go.RowKit Go.Shelf

/-- The slice v holds the flags fs. -/
def Bls (w : World) (v : Value) (fs : List Bool) : Prop :=
  fs.length ≤ 140737488355328 ∧ ∃ a cap, v = .slice a fs.length cap ∧ (fs.length ≤ cap ∧ (a = none → cap = 0)) ∧ (fs = [] ∨ ∃ b off, a = some ⟨b, off, none⟩ ∧ ∀ j x, fs[j]? = some x → w.cell? ⟨b, off + j, none⟩ = some (.bool x))
theorem Bls.form {w : World} {v : Value} {fs : List Bool} (h : Bls w v fs) : ∃ a cap, v = .slice a fs.length cap := by obtain ⟨_, a, cap, e, _⟩ := h; exact ⟨a, cap, e⟩
theorem Bls.upd {w w' : World} {v : Value} {fs : List Bool} (h : Bls w v fs) {S : Nat → Prop} (u : Upd S w w') (hs : fs ≠ [] → ∀ k, v.ownBlock = some k → ¬ S k) : Bls w' v fs := by
  obtain ⟨hb, a, cap, rfl, hc, h3⟩ := h
  refine ⟨hb, a, cap, rfl, hc, ?_⟩
  rcases h3 with h3 | ⟨b, off, rfl, h3⟩
  · exact .inl h3
  · refine .inr ⟨b, off, rfl, fun j x hx => u.cell (h3 j x hx) (hs (by rintro rfl; simp at hx) b rfl)⟩
theorem Bls.later {w w' : World} {v : Value} {fs : List Bool} (h : Bls w v fs) (u : Upd NoB w w') : Bls w' v fs := h.upd u (fun _ k _ => noB k)
theorem Bls.lt {w : World} {v : Value} {fs : List Bool} (h : Bls w v fs) (hx : fs ≠ []) : ∀ k, v.ownBlock = some k → k < w.heap.size := by
  obtain ⟨_, a, cap, rfl, _, h3⟩ := h
  intro k hk
  rcases h3 with h3 | ⟨b, off, rfl, h3⟩
  · exact absurd h3 hx
  · obtain ⟨x, hx0⟩ : ∃ x, fs[0]? = some x := ⟨_, List.getElem?_eq_getElem (List.length_pos_iff.2 hx)⟩
    have := World.block_lt_of_cell? w _ (h3 0 x hx0)
    simp [Value.ownBlock] at hk
    subst hk; exact this
theorem Bls.cellAt {w : World} {a : Option Addr} {n cap : Nat} {fs : List Bool} (h : Bls w (.slice a n cap) fs) {k : Nat} {x : Bool} (hx : fs[k]? = some x) : ∃ b off, a = some ⟨b, off, none⟩ ∧ w.cell? ⟨b, off + k, none⟩ = some (.bool x) := by
  obtain ⟨_, a', cap', e, _, h3⟩ := h
  injection e with e1 e2 e3
  subst e1
  rcases h3 with h3 | ⟨b, off, rfl, h3⟩
  · subst h3; simp at hx
  · exact ⟨b, off, rfl, h3 k x hx⟩
theorem Bls.nil (w : World) : Bls w (.slice none 0 0) [] := ⟨Nat.zero_le _, none, 0, rfl, ⟨Nat.zero_le _, fun _ => rfl⟩, .inl rfl⟩
def bls (fs : List Bool) : List Value := fs.map Value.bool
theorem bls_length (fs : List Bool) : (bls fs).length = fs.length := by simp [bls]
theorem bls_append (xs ys : List Bool) : bls (xs ++ ys) = bls xs ++ bls ys := by simp [bls]
theorem bls_one (fs : List Bool) : ∀ u ∈ bls fs, u.oneCell' = true := by
  intro u hu
  simp only [bls, List.mem_map] at hu
  obtain ⟨z, _, rfl⟩ := hu
  rfl
theorem bls_get (fs : List Bool) (j : Nat) : (bls fs)[j]? = (fs[j]?).map Value.bool := by simp [bls]
theorem Bls.ofRow {w : World} {base : Nat} {v : Value} {fs : List Bool} (h : w.ownsRow base 4 1 v fs.length (bls fs)) (hb : fs.length ≤ 140737488355328) : Bls w v fs := by
  refine ⟨hb, ?_⟩
  by_cases hx : fs = []
  · subst hx
    rcases h.2 with ⟨rfl, _⟩ | ⟨g, cap, cur, rfl, _, _, hnc, _⟩
    · exact ⟨none, 0, rfl, ⟨Nat.le_refl _, fun _ => rfl⟩, .inl rfl⟩
    · exact ⟨_, _, rfl, ⟨hnc, fun e => by cases e⟩, .inl rfl⟩
  · obtain ⟨g, cap, rfl⟩ := row_slice h (List.length_pos_iff.2 hx)
    refine ⟨_, _, rfl, ⟨row_cap h, fun e => by cases e⟩, .inr ⟨g, 0, rfl, fun j x hj => ?_⟩⟩
    have hjl := (List.getElem?_eq_some_iff.1 hj).1
    rw [Nat.zero_add, h.cellAt _ (by omega), bls_get, hj]; rfl
theorem choice_any (mv : Value) (fn : Nat) (w : World) (hm : ∃ a n c, mv = .slice a n c) : Calls Try.prog 58 #[mv, .func (.func fn) #[] #[]] w fun e w' =>
    e = .returned (.func (.func 94) #[] #[.pointer (some ⟨w.heap.size, 0, none⟩), .pointer (some ⟨w.heap.size + 1, 0, none⟩)]) ∧ w' = (w.alloc (.cells #[mv] 27)).alloc (.cells #[.func (.func fn) #[] #[]] 63) := by
  obtain ⟨a, n, c, rfl⟩ := hm
  go_enter Try.func58, Try.ntmps58
  go_wp2
  go_ret
  exact ⟨rfl, rfl⟩
set_option maxRecDepth 100000 in
set_option maxHeartbeats 2000000 in
theorem chM_any (m1 m2 : Nat) (ma : Option Addr) (K mc k : Nat) (mid : List Bool) (p : Int × Int) (w : World) (h : InP 1073741824 p) (hm1 : w.cell? ⟨m1, 0, none⟩ = some (.slice ma K mc)) (hm2 : w.cell? ⟨m2, 0, none⟩ = some (.func (.func 59) #[] #[]))
    (hb : Bls w (.slice ma K mc) mid) (hk : k < K) (hK : mid.length = K) :
    Calls Try.prog 94 #[.int .i64 (k : Nat), .agg #[.int .i64 p.1, .int .i64 p.2], .pointer (some ⟨m1, 0, none⟩), .pointer (some ⟨m2, 0, none⟩)] w fun e w' =>
      e = .returned (.agg #[.int .i64 (if mid.getD k false then midP p else p).1, .int .i64 (if mid.getD k false then midP p else p).2]) ∧ Upd NoB w w' := by
  obtain ⟨W, hW⟩ : ∃ W, W = (w.alloc (.cells #[.int .i64 p.1, .int .i64 p.2] 66)).alloc (.cells #[.int .i64 0, .int .i64 0] 66) := ⟨_, rfl⟩
  obtain ⟨c0, c1, hu⟩ := boxes2 w (.cells #[.int .i64 p.1, .int .i64 p.2] 66) (.cells #[.int .i64 0, .int .i64 0] 66)
  rw [← hW] at c0 c1 hu
  have d0 := cell_of_block0 c0
  have d1 := cell_of_block1 c0
  have n1 := hu.cell hm1 (noB _)
  have n2 := hu.cell hm2 (noB _)
  obtain ⟨z, hz⟩ : ∃ z, mid[k]? = some z := ⟨_, List.getElem?_eq_getElem (by omega)⟩
  have hgd : mid.getD k false = z := by rw [List.getD_eq_getElem?_getD, hz]; rfl
  obtain ⟨mb, mo, rfl, e0⟩ := (hb.later hu).cellAt hz
  have HM := Lib.hid (fun w => pMid_any p w h)
  rw [hgd]
  have q1 : (k : Int) < (K : Int) := by omega
  have HW := Lib.hid hW; have C1 := Lib.hid c1; have HU := Lib.hid hu
  clear hW hu hm1 hm2 hb hz hgd h
  cases z with
  | true =>
    rw [if_pos rfl]
    have g0 := cell_of_block0 c1
    clear c0 c1
    generalize p.1 = x at *
    generalize p.2 = y at *
    generalize (midP p).1 = a at *
    generalize (midP p).2 = b at *
    go_enter Try.func94, Try.ntmps94
    go_upto_region 1 with fail
    rw [← HW.out]
    go_wp2_with fail
    refine (HM.out W).mono ?_
    rintro e w2 ⟨rfl, u2⟩
    have U2 := Lib.hid (HU.out.then u2)
    have e1 := u2.heap C1.out (noB _)
    have E1 := Lib.hid e1
    have g0 := cell_of_block0 e1
    have g1 := cell_of_block1 e1
    have f0 := free_of_block e1 0
    have f1 := free_of_block e1 1
    clear u2 e1 d0 d1
    go_wp2_with fail
    refine bodyPost_ret (results_cell_row rfl _ _ (w.heap.size + 1) 66 _ (0, 0) _ rfl (heap_cell2 E1.out) Try.underlying66 rfl (by kernel_rfl)) rfl ⟨rfl, ?_⟩
    exact upd_cell2 U2.out (by omega) _ _
  | false =>
    rw [if_neg (by decide)]
    generalize p.1 = x at *
    generalize p.2 = y at *
    have g0 := cell_of_block0 c1
    have g1 := cell_of_block1 c1
    have f0 := free_of_block c1 0
    have f1 := free_of_block c1 1
    clear c0 c1 HM
    go_enter Try.func94, Try.ntmps94
    go_upto_region 1 with fail
    rw [← HW.out]
    go_wp2_with fail
    refine bodyPost_ret (results_cell_row rfl _ _ (w.heap.size + 1) 66 _ (0, 0) _ rfl (heap_cell2 C1.out) Try.underlying66 rfl (by kernel_rfl)) rfl ⟨rfl, ?_⟩
    exact upd_cell2 HU.out (by omega) _ _
set_option maxRecDepth 100000 in
set_option maxHeartbeats 2000000 in
theorem chS_any (m1 m2 : Nat) (ma : Option Addr) (K mc k : Nat) (mid : List Bool) (p : Int × Int) (w : World) (h : InP 4294967296 p) (hm1 : w.cell? ⟨m1, 0, none⟩ = some (.slice ma K mc)) (hm2 : w.cell? ⟨m2, 0, none⟩ = some (.func (.func 62) #[] #[]))
    (hb : Bls w (.slice ma K mc) mid) (hk : k < K) (hK : mid.length = K) :
    Calls Try.prog 94 #[.int .i64 (k : Nat), .agg #[.int .i64 p.1, .int .i64 p.2], .pointer (some ⟨m1, 0, none⟩), .pointer (some ⟨m2, 0, none⟩)] w fun e w' =>
      e = .returned (.agg #[.int .i64 (if mid.getD k false then sidP p else p).1, .int .i64 (if mid.getD k false then sidP p else p).2]) ∧ Upd NoB w w' := by
  obtain ⟨W, hW⟩ : ∃ W, W = (w.alloc (.cells #[.int .i64 p.1, .int .i64 p.2] 66)).alloc (.cells #[.int .i64 0, .int .i64 0] 66) := ⟨_, rfl⟩
  obtain ⟨c0, c1, hu⟩ := boxes2 w (.cells #[.int .i64 p.1, .int .i64 p.2] 66) (.cells #[.int .i64 0, .int .i64 0] 66)
  rw [← hW] at c0 c1 hu
  have d0 := cell_of_block0 c0
  have d1 := cell_of_block1 c0
  have n1 := hu.cell hm1 (noB _)
  have n2 := hu.cell hm2 (noB _)
  obtain ⟨z, hz⟩ : ∃ z, mid[k]? = some z := ⟨_, List.getElem?_eq_getElem (by omega)⟩
  have hgd : mid.getD k false = z := by rw [List.getD_eq_getElem?_getD, hz]; rfl
  obtain ⟨mb, mo, rfl, e0⟩ := (hb.later hu).cellAt hz
  have HM := Lib.hid (fun w => pSides_any p w h)
  rw [hgd]
  have q1 : (k : Int) < (K : Int) := by omega
  have HW := Lib.hid hW; have C1 := Lib.hid c1; have HU := Lib.hid hu
  clear hW hu hm1 hm2 hb hz hgd h
  cases z with
  | true =>
    rw [if_pos rfl]
    have g0 := cell_of_block0 c1
    clear c0 c1
    generalize p.1 = x at *
    generalize p.2 = y at *
    generalize (sidP p).1 = a at *
    generalize (sidP p).2 = b at *
    go_enter Try.func94, Try.ntmps94
    go_upto_region 1 with fail
    rw [← HW.out]
    go_wp2_with fail
    refine (HM.out W).mono ?_
    rintro e w2 ⟨rfl, u2⟩
    have U2 := Lib.hid (HU.out.then u2)
    have e1 := u2.heap C1.out (noB _)
    have E1 := Lib.hid e1
    have g0 := cell_of_block0 e1
    have g1 := cell_of_block1 e1
    have f0 := free_of_block e1 0
    have f1 := free_of_block e1 1
    clear u2 e1 d0 d1
    go_wp2_with fail
    refine bodyPost_ret (results_cell_row rfl _ _ (w.heap.size + 1) 66 _ (0, 0) _ rfl (heap_cell2 E1.out) Try.underlying66 rfl (by kernel_rfl)) rfl ⟨rfl, ?_⟩
    exact upd_cell2 U2.out (by omega) _ _
  | false =>
    rw [if_neg (by decide)]
    generalize p.1 = x at *
    generalize p.2 = y at *
    have g0 := cell_of_block0 c1
    have g1 := cell_of_block1 c1
    have f0 := free_of_block c1 0
    have f1 := free_of_block c1 1
    clear c0 c1 HM
    go_enter Try.func94, Try.ntmps94
    go_upto_region 1 with fail
    rw [← HW.out]
    go_wp2_with fail
    refine bodyPost_ret (results_cell_row rfl _ _ (w.heap.size + 1) 66 _ (0, 0) _ rfl (heap_cell2 C1.out) Try.underlying66 rfl (by kernel_rfl)) rfl ⟨rfl, ?_⟩
    exact upd_cell2 HU.out (by omega) _ _
end Go.Proofs.Ytopjjdfnnjgnlaa
