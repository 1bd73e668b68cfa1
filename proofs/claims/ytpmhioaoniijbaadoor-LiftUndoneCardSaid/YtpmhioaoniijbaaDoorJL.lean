/- Apply and Undo -/
import Derived.Test.YtpmhioaoniijbaaDoorJK
namespace Go.Proofs.YtpmhioaoniijbaaDoor
open Go.RowKit Go.Shelf
attribute [local go_sem] Oper.semAt_some

/-- What a function answers that makes a list, or an error. -/
def LRes (w : World) (xs : List Int) (err : Int) (e : Ending) (w' : World) : Prop := ∃ v, e = .returned (.tuple #[v, .int .i64 err]) ∧ w'.ownsRow w.heap.size 3 1 v xs.length (i64s xs) ∧ Upd NoB w w'
def appV (xs : List Int) (ts : List Tn) : List Int := if stpE 1048576 xs ts = 0 then allT forthF ts xs else []
def undV (xs : List Int) (ts : List Tn) : List Int := if stpE 1073741824 xs ts = 0 then allT backF ts.reverse xs else []
theorem ord_snoc {K : Nat} {pre : List (Ix K)} {x : Ix K} {ord : Nat → List Nat} {f : Nat → Nat} (ho : ∀ m, ord (m + 1) = ord m ++ [f m]) (h : (pre ++ [x]).map Subtype.val = ord (pre ++ [x]).length) : pre.map Subtype.val = ord pre.length ∧ x.1 = f pre.length := by
  rw [List.map_append, List.length_append, show pre.length + [x].length = pre.length + 1 from rfl, ho] at h
  have := List.append_inj' h rfl
  exact ⟨this.1, by simpa using this.2⟩
theorem row_grown {w w' : World} {base : Nat} {e : TypeId} {size : Nat} {v : Value} {n : Nat} {xs : List Value} {row : Option Nat} (h : w.ownsRow base e size v n xs) (hg : w.grownBy w' row)
    (hr : ∀ r, row = some r → ∃ o : Obj, w.heap[r]? = some o ∧ o.isCells = false) : w'.ownsRow base e size v n xs := by
  refine ⟨h.1, ?_⟩
  rcases h.2 with h' | ⟨g, cap, cur, hv, hb, hgg, rest⟩
  · exact .inl h'
  · refine .inr ⟨g, cap, cur, hv, hb, ?_, rest⟩
    refine (hg.block g (lt_of_block hgg) (fun e => ?_)).trans hgg
    obtain ⟨o, ho, hc⟩ := hr g e.symm
    rw [hgg] at ho
    cases ho
    cases hc
/-- What holds between two steps of a list. -/
def ApI (f : Nat → Int → Int → Int × Int → Int × Int) (ord : Nat → List Nat) (xs : List Int) (tq : List Tn) (yv : Value) (L base : Nat) (W : World) (K : Nat) (pre : List (Ix K)) (W' : World) : Prop :=
  ∃ ys : List Int, W'.ownsRow base 3 1 yv L (i64s ys) ∧ ys.length = L ∧ sq ys ≤ (bnd 73786976294838206464 pre.length : Nat) ∧ (pre.map Subtype.val = ord pre.length → ys = allT f (tq.take pre.length) xs) ∧ Upd (fun k => yv.ownBlock = some k) W W'
theorem ApI.own (f : Nat → Int → Int → Int × Int → Int × Int) (ord : Nat → List Nat) (xs : List Int) (tq : List Tn) (yv : Value) (L base : Nat) (W : World) (K : Nat) : OwnFrom W.heap.size (ApI f ord xs tq yv L base W K) := by
  rintro s A B row ⟨ys, h1, h2, h3, h4, h5⟩ hg hr
  exact ⟨ys, row_grown h1 hg (fun r e => (hr r e).2), h2, h3, h4, h5.grown hg (fun k e hk => by have := (hr k e).1; omega)⟩
set_option maxRecDepth 100000 in
set_option maxHeartbeats 1000000 in
theorem apply_any (xv tv : Value) (xs : List Int) (ts : List Tn) (w : World) (hx : Ints w xv xs) (ht : Tns w tv ts) (hp : Parts w) (hsm : stpE 1048576 xs ts = 0 → xs.length ≤ 60 ∧ ts.length ≤ 60) :
    Calls Tryd.prog 28 #[xv, tv] w (LRes w (appV xs ts) (stpE 1048576 xs ts)) := by
  have HST := Lib.hid (stepsOf_any 1048576 xv tv xs ts w (by omega) (by omega) hx ht hp)
  have HX := Lib.hid hx; have HP := Lib.hid hp
  obtain ⟨xa, xcap, rfl⟩ := hx.form
  obtain ⟨ta, tcap, rfl⟩ := ht.form
  clear hx ht hp
  by_cases hE : stpE 1048576 xs ts = 0
  · have V := Lib.hid (show appV xs ts = allT forthF ts xs from if_pos hE)
    obtain ⟨sm1, sm2⟩ := hsm hE
    obtain ⟨_, _, hall, htn⟩ := stp_ok hE
    have E := Lib.hid hE
    have tok := tnsE_ok htn
    have hsq0 := sqs_le (M := 1048576) (by omega) hall
    obtain ⟨K, hK⟩ : ∃ K, ts.length = K := ⟨_, rfl⟩
    obtain ⟨L, hL⟩ : ∃ L, xs.length = L := ⟨_, rfl⟩
    have HK := Lib.hid hK; have HL := Lib.hid hL
    rw [hL] at hsq0
    rw [hK, hL] at HST ⊢
    rw [hL] at HX sm1
    rw [hK] at sm2
    have hsq : sq xs ≤ (bnd 73786976294838206464 0 : Nat) := by
      have : bnd 73786976294838206464 0 = 73786976294838206464 := rfl
      rw [this]; omega
    have TOK := Lib.hid tok; have HSQ := Lib.hid hsq
    clear hE hsm hall htn tok hsq0 hsq hK hL
    refine (callsIn_wide (n := 2)).1 ?_
    refine callsIn_of_wp_marks Tryd.func28 rfl trivial (wpIn_wide.2 ?_) rfl
    simp only [Tryd.ntmps28, List.size_toArray, List.length_cons, List.length_nil, Nat.reduceAdd, Nat.reduceSub, Array.replicate_succ, Array.replicate_zero, List.push_toArray, List.append_toArray, List.nil_append, List.cons_append]
    go_wp2_with fail
    (with_reducible refine HST.out.mono ?_)
    rintro e w1 ⟨u1, ⟨h, _⟩ | ⟨_, g, rfl, hS, hg⟩⟩
    · exact absurd E.out h
    have S1 := Lib.hid hS; have U1 := Lib.hid u1; have HG := Lib.hid hg
    have HX1 := Lib.hid (HX.out.later u1)
    clear hS u1 hg
    go_wp2_with fail
    refine (iclone_any _ xs _ HX1.out).mono ?_
    rintro e w2 ⟨yv, rfl, hrow, u2⟩
    obtain ⟨ya, ycap, hyv⟩ := row_form hrow
    rw [HL.out] at hrow hyv
    subst hyv
    obtain ⟨W4, hW4⟩ : ∃ W4, W4 = w2.alloc (.cells #[.slice ya L ycap] 33) := ⟨_, rfl⟩
    have u4 : Upd NoB w2 W4 := by rw [hW4]; exact (Upd.refl _ _).alloc _
    have b8 : W4.heap[w2.heap.size]? = some (.cells #[.slice ya L ycap] 33 (0, 0)) := by rw [hW4]; exact heap_alloc_new w2 _
    have sz4 : W4.heap.size = w2.heap.size + 1 := by rw [hW4]; exact size_alloc _ _
    have HW4 := Lib.hid hW4; clear hW4
    have HA := Lib.hid (all_in g K W4)
    go_wp2_with fail
    rw [← HW4.out]
    (with_reducible refine HA.out.mono ?_)
    rintro e w5 ⟨rfl, rfl⟩
    obtain ⟨W, hW⟩ : ∃ W, W = W4.alloc (.cells #[.slice (some ⟨g, 0, none⟩) K K] 62) := ⟨_, rfl⟩
    have u5 : Upd NoB W4 W := by rw [hW]; exact (Upd.refl _ _).alloc _
    have bS : W.heap[W4.heap.size]? = some (.cells #[.slice (some ⟨g, 0, none⟩) K K] 62 (0, 0)) := by rw [hW]; exact heap_alloc_new W4 _
    have sz5 : W.heap.size = W4.heap.size + 1 := by rw [hW]; exact size_alloc _ _
    rw [← hW]
    rw [sz4] at bS sz5 ⊢
    clear hW
    have hgl : g < w1.heap.size := by obtain ⟨c, hc, _⟩ := S1.out; exact lt_of_block hc
    have hrl : ∀ k, (Value.slice ya L ycap).ownBlock = some k → w1.heap.size ≤ k ∧ k < w2.heap.size := hrow.lt
    have hs12 := u2.size
    have hs01 := U1.out.size
    have ssl : (ts.map Tn.sp).length = K := by rw [List.length_map, HK.out]
    have SW := Lib.hid (((S1.out.upd u2 (noB _)).upd u4 (noB _)).upd u5 (noB _))
    have B8 := Lib.hid (u5.heap b8 (noB _))
    have UW := Lib.hid (((U1.out.then u2).then u4).then u5)
    have h0 : ApI forthF List.range xs ts (.slice ya L ycap) L w.heap.size W K [] W := ⟨xs, row_base ((u4.then u5).row hrow (fun k _ => noB k)) (by omega), HL.out, HSQ.out, fun _ => rfl, Upd.refl _ _⟩
    have hW0 : w2.heap.size + 2 = W.heap.size := by omega
    go_wp2_with fail
    refine (wpIn_wide (n := 2)).1 (wpIn_rangeFunc_ownH rfl (by omega) (gf := 84) (lb := #[.pointer (some ⟨w2.heap.size + 1, 0, none⟩)]) rfl trivial (enters_of Tryd.func84 (by kernel_rfl) rfl)
      (all_seq (w2.heap.size + 1) g K (ts.map Tn.sp) W ssl (by omega) (cell_of_one bS) SW.out (by omega) (by omega)) (fun h k => h.trans k)
      (fun W' l o o' hl _ _ _ => keepD_putObj (fun hd => by rcases hd with rfl | rfl <;> omega)) (Below.refl _ _) (fun _ => rfl)
      (ApI forthF List.range xs ts (.slice ya L ycap) L w.heap.size W K) (fun _ _ _ => False) (ApI.own _ _ _ _ _ _ _ _ _) (fun _ _ _ _ _ hs _ _ => hs) h0
      (fun x a' W' => ∃ Bx, W.heap.size ≤ Bx ∧ W'.heap[Bx]? = some (.cells #[.int .i64 ((ts.map Tn.sp).getD x.1 noSp).q, .int .i64 ((ts.map Tn.sp).getD x.1 noSp).A, .int .i64 ((ts.map Tn.sp).getD x.1 noSp).B, .int .i64 ((ts.map Tn.sp).getD x.1 noSp).i, .int .i64 ((ts.map Tn.sp).getD x.1 noSp).j] 70 (0, 0)) ∧
        a' = { tmps := #[.slice xa L xcap, .slice ta K tcap, undef, undef, .slice none 0 0, .int .i64 0, .slice (some ⟨g, 0, none⟩) K K, .int .i64 0, .pointer (some ⟨w2.heap.size, 0, none⟩), undef, .pointer (some ⟨Bx, 0, none⟩), .tuple #[.slice (some ⟨g, 0, none⟩) K K, .int .i64 0], .slice xa L xcap, .slice ta K tcap, .tuple #[.slice (some ⟨g, 0, none⟩) K K, .int .i64 0], .slice (some ⟨g, 0, none⟩) K K, .int .i64 0, .int .i64 0, .bool false, undef, .slice xa L xcap, .slice ya L ycap, .slice (some ⟨g, 0, none⟩) K K, .func (.func 84) #[] #[.pointer (some ⟨w2.heap.size + 1, 0, none⟩)], .int .i64 (x.1 : Nat), ((ts.map Tn.sp).getD x.1 noSp).val, undef, undef, undef, undef, undef, undef, undef], defers := [] })
      (fun x a' s A B row hs hg hr => by
        obtain ⟨Bx, h1, h2, h3⟩ := hs
        refine ⟨Bx, h1, (hg.block _ (lt_of_block h2) (fun e => ?_)).trans h2, h3⟩
        obtain ⟨_, o, ho, hc⟩ := hr _ e.symm
        rw [h2] at ho
        cases ho
        cases hc) ?assign ?body ?done ?stop)
    case assign =>
      intro l pre x W' K' hi hK'
      obtain ⟨ys, r1, r2, r3, r4, r5⟩ := hi
      have hsz := r5.size
      have hi : ApI forthF List.range xs ts (.slice ya L ycap) L w.heap.size W K pre W' := ⟨ys, r1, r2, r3, r4, r5⟩
      have Hi := Lib.hid hi; have R5 := Lib.hid r5
      clear hi r1 r2 r3 r4 r5
      simp only [encS, Sp.val] at hK' ⊢
      generalize (ts.map Tn.sp).getD x.1 noSp = s at *
      obtain ⟨q, A, B, i, j⟩ := s
      gi_wp2
      refine hK' _ _ ((KeepsOthers.alloc _ _).from _) (keepD_alloc _ (fun k hk => by rcases hk with rfl | rfl <;> omega)) ((ApI.own _ _ _ _ _ _ _ _ _).alloc _ Hi.out) ⟨W'.heap.size, hsz, heap_alloc_new W' _, rfl⟩
    case body =>
      rintro l pre x a' W' _ _ ⟨ys, r1, r2, r3, r4, r5⟩ ⟨Bx, hx1, hx2, rfl⟩ hN
      obtain ⟨t, ht⟩ : ∃ t, ts[x.1]? = some t := ⟨_, List.getElem?_eq_getElem (by rw [HK.out]; exact x.2)⟩
      have hgd : (ts.map Tn.sp).getD x.1 noSp = t.sp := by rw [List.getD_eq_getElem?_getD, List.getElem?_map, ht]; rfl
      have tk := TOK.out x.1 t ht
      rw [HL.out] at tk
      obtain ⟨hok, hfit⟩ := tn_ok tk
      have hL0 : 0 < L := by have h1 := hok.2.2.2.2.2.1; have h2 := hok.2.2.2.2.2.2.1; omega
      obtain ⟨b, cap, e⟩ := row_slice r1 hL0
      injection e with e1 e2 e3
      subst e1 e3
      have hrb := hrl b rfl
      rw [← r2] at r1
      obtain ⟨oR, ob1, ob2⟩ := OwnR.of r1
      have hbd := fun k y hk => sq_bd (M := 137438953472) r3 (by omega) (by
        have h1 := bnd_le (B := 73786976294838206464) (show pre.length ≤ 60 by omega)
        have h2 := bnd_wide
        generalize bnd 73786976294838206464 pre.length = u at *
        generalize bnd 73786976294838206464 60 = v at *
        omega) k y hk
      have hgrow := sq_step (f := forthF) (s := t.sp) (xs := ys) (by have h1 := hok.2.2.2.2.2.1; have h2 := hok.2.2.2.2.2.2.1; omega) (by have h1 := hok.2.2.2.2.2.2.2.1; have h2 := hok.2.2.2.2.2.2.2.2.1; omega) (by have h1 := hok.2.2.2.2.2.1; have h2 := hok.2.2.2.2.2.2.2.1; have h3 := hok.2.2.2.2.2.2.2.2.2; omega) (fun p => forth_grow hfit p)
      have Hnext := Lib.hid (bnd_next r3 hgrow)
      have Hord := Lib.hid (show (pre ++ [x]).map Subtype.val = List.range (pre ++ [x]).length → stepL forthF t.sp ys = allT forthF (ts.take (pre ++ [x]).length) xs from fun h => by
        obtain ⟨h1, h2⟩ := ord_snoc (ord := List.range) (f := fun m => m) (fun m => List.range_succ) h
        rw [r4 h1, List.length_append, show pre.length + [x].length = pre.length + 1 from rfl, allT_snoc (by rw [← h2]; exact ht)])
      rw [hgd] at hx2 ⊢
      have b8' := r5.heap B8.out (by intro h; have := (hrl _ h).2; omega)
      have R5 := Lib.hid r5
      have oL : ys.length = L := r2
      clear r1 r3 r4 r5 hgd tk hfit hgrow ht
      have HM := Lib.hid (fun w' (o : OwnR w' b ycap ys) => by
        have := moveF_any t.sp.q t.sp.A t.sp.B t.sp.i.toNat t.sp.j.toNat b ycap ys w' (by
          rw [Int.toNat_of_nonneg hok.2.2.2.2.2.1, Int.toNat_of_nonneg hok.2.2.2.2.2.2.2.1, oL]; exact hok) o (by omega) hbd
        rw [Int.toNat_of_nonneg hok.2.2.2.2.2.1, Int.toNat_of_nonneg hok.2.2.2.2.2.2.2.1] at this
        exact this)
      generalize t.sp = s at *
      obtain ⟨q, A, B, i, j⟩ := s
      simp only [Sp.val] at *
      obtain ⟨c0, c1, c2, c3, c4⟩ := cells5 hx2
      have y0 := cell_of_one b8'
      rw [oL] at HM
      have HO := Lib.hid oR
      have Hx2 := Lib.hid hx2
      clear hok hbd oR hx2 b8'
      gi_wp2
      refine ⟨trivial, rfl, ?_⟩
      (with_reducible refine ((callsIn_wide.2 (HM.out W' HO.out)).inRound l).mono ?_)
      rintro e W2 ⟨rfl, oW, uW⟩
      gi_wp2
      have hsl := R5.out.size
      refine ⟨keeps_of_upd uW (fun k hB e => by omega), fun k hk => uW.block k (by rcases hk with rfl | rfl <;> omega) (by have h1 := HG.out; have h2 := HO.out; rcases hk with rfl | rfl <;> omega), _, ?_, by rw [stepL_length]; exact oL, by rw [List.length_append]; exact Hnext.out, Hord.out, R5.out.trans uW (fun k _ h => by subst h; rfl)⟩
      have hr := oW.row ob1 ob2
      rw [stepL_length, oL] at hr
      exact hr
    case done =>
      rintro D ys' W' hD' hS ⟨ys, r1, r2, r3, r4, r5⟩ hK
      have hlen : ys'.length = K := by have := congrArg List.length hS; simpa using this
      have hys := r4 (by rw [hlen]; exact hS)
      rw [hlen, List.take_of_length_le (by rw [HK.out]; exact Nat.le_refl _)] at hys
      have b8' := r5.heap B8.out (by intro h; have := (hrl _ h).2; omega)
      have y0 := cell_of_one b8'
      have HY := Lib.hid hys; have R1 := Lib.hid r1; have R5 := Lib.hid r5; have R2 := Lib.hid r2
      have HKD := Lib.hid hK
      clear hys r1 r2 r3 r4 r5 b8' hK hS
      go_wp2
      refine ⟨by simp, .inl ⟨_, _, rfl, run_takeDeferred HKD.out, ?_⟩⟩
      refine ⟨_, results_tmp2 rfl _ _ _, _, by rw [E.out]; rfl, ?_, ?_⟩
      · rw [V.out, ← HY.out, R2.out]
        exact row_grown R1.out (grownBy_putObj' _ _ _) (fun r e => by cases e; exact ⟨_, HKD.out, rfl⟩)
      · have hsl := UW.out.size
        refine Upd.mono (S := fun k => w.heap.size ≤ k) (((UW.out.mono (T := fun k => w.heap.size ≤ k) (fun _ _ h => h.elim)).trans R5.out (fun k _ h => by have := (hrl k h).1; omega)).grown (grownBy_putObj' _ _ _) (fun k e hlt => by cases e; omega)) (fun k hk h => by omega)
    case stop =>
      rintro D c pre W' _ _ h _
      exact h.elim
  · have V := Lib.hid (show appV xs ts = [] from if_neg hE)
    have t : (stpE 1048576 xs ts != 0) = true := by simpa using hE
    have HE := Lib.hid hE
    clear hE hsm
    rw [V.out]
    go_enter Tryd.func28, Tryd.ntmps28
    go_wp2_with fail
    (with_reducible refine HST.out.mono ?_)
    rintro e w1 ⟨u1, ⟨_, rfl⟩ | ⟨h, _⟩⟩
    · have U1 := Lib.hid u1; clear u1
      go_wp2
      go_ret2
      exact ⟨_, rfl, World.ownsRow_nil _ _ _ _, U1.out⟩
    · exact absurd h HE.out
set_option maxRecDepth 100000 in
set_option maxHeartbeats 1000000 in
theorem undo_any (xv tv : Value) (xs : List Int) (ts : List Tn) (w : World) (hx : Ints w xv xs) (ht : Tns w tv ts) (hp : Parts w) (hsm : stpE 1073741824 xs ts = 0 → xs.length ≤ 60 ∧ ts.length ≤ 60) :
    Calls Tryd.prog 30 #[xv, tv] w (LRes w (undV xs ts) (stpE 1073741824 xs ts)) := by
  have HST := Lib.hid (stepsOf_any 1073741824 xv tv xs ts w (by omega) (by omega) hx ht hp)
  have HX := Lib.hid hx; have HP := Lib.hid hp
  obtain ⟨xa, xcap, rfl⟩ := hx.form
  obtain ⟨ta, tcap, rfl⟩ := ht.form
  clear hx ht hp
  by_cases hE : stpE 1073741824 xs ts = 0
  · have V := Lib.hid (show undV xs ts = allT backF ts.reverse xs from if_pos hE)
    obtain ⟨sm1, sm2⟩ := hsm hE
    obtain ⟨_, _, hall, htn⟩ := stp_ok hE
    have E := Lib.hid hE
    have tok := tnsE_ok htn
    have hsq0 := sqs_le (M := 1073741824) (by omega) hall
    obtain ⟨K, hK⟩ : ∃ K, ts.length = K := ⟨_, rfl⟩
    obtain ⟨L, hL⟩ : ∃ L, xs.length = L := ⟨_, rfl⟩
    have HK := Lib.hid hK; have HL := Lib.hid hL
    rw [hL] at hsq0
    rw [hK, hL] at HST ⊢
    rw [hL] at HX sm1
    rw [hK] at sm2
    have hsq : sq xs ≤ (bnd 73786976294838206464 0 : Nat) := by
      have : bnd 73786976294838206464 0 = 73786976294838206464 := rfl
      rw [this]; omega
    have TOK := Lib.hid tok; have HSQ := Lib.hid hsq
    clear hE hsm hall htn tok hsq0 hsq hK hL
    refine (callsIn_wide (n := 2)).1 ?_
    refine callsIn_of_wp_marks Tryd.func30 rfl trivial (wpIn_wide.2 ?_) rfl
    simp only [Tryd.ntmps30, List.size_toArray, List.length_cons, List.length_nil, Nat.reduceAdd, Nat.reduceSub, Array.replicate_succ, Array.replicate_zero, List.push_toArray, List.append_toArray, List.nil_append, List.cons_append]
    go_wp2_with fail
    (with_reducible refine HST.out.mono ?_)
    rintro e w1 ⟨u1, ⟨h, _⟩ | ⟨_, g, rfl, hS, hg⟩⟩
    · exact absurd E.out h
    have S1 := Lib.hid hS; have U1 := Lib.hid u1; have HG := Lib.hid hg
    have HX1 := Lib.hid (HX.out.later u1)
    clear hS u1 hg
    go_wp2_with fail
    refine (iclone_any _ xs _ HX1.out).mono ?_
    rintro e w2 ⟨yv, rfl, hrow, u2⟩
    obtain ⟨ya, ycap, hyv⟩ := row_form hrow
    rw [HL.out] at hrow hyv
    subst hyv
    obtain ⟨W4, hW4⟩ : ∃ W4, W4 = w2.alloc (.cells #[.slice ya L ycap] 33) := ⟨_, rfl⟩
    have u4 : Upd NoB w2 W4 := by rw [hW4]; exact (Upd.refl _ _).alloc _
    have b8 : W4.heap[w2.heap.size]? = some (.cells #[.slice ya L ycap] 33 (0, 0)) := by rw [hW4]; exact heap_alloc_new w2 _
    have sz4 : W4.heap.size = w2.heap.size + 1 := by rw [hW4]; exact size_alloc _ _
    have HW4 := Lib.hid hW4; clear hW4
    have HA := Lib.hid (bwd_in g K W4)
    go_wp2_with fail
    rw [← HW4.out]
    (with_reducible refine HA.out.mono ?_)
    rintro e w5 ⟨rfl, rfl⟩
    obtain ⟨W, hW⟩ : ∃ W, W = W4.alloc (.cells #[.slice (some ⟨g, 0, none⟩) K K] 62) := ⟨_, rfl⟩
    have u5 : Upd NoB W4 W := by rw [hW]; exact (Upd.refl _ _).alloc _
    have bS : W.heap[W4.heap.size]? = some (.cells #[.slice (some ⟨g, 0, none⟩) K K] 62 (0, 0)) := by rw [hW]; exact heap_alloc_new W4 _
    have sz5 : W.heap.size = W4.heap.size + 1 := by rw [hW]; exact size_alloc _ _
    rw [← hW]
    rw [sz4] at bS sz5 ⊢
    clear hW
    have hgl : g < w1.heap.size := by obtain ⟨c, hc, _⟩ := S1.out; exact lt_of_block hc
    have hrl : ∀ k, (Value.slice ya L ycap).ownBlock = some k → w1.heap.size ≤ k ∧ k < w2.heap.size := hrow.lt
    have hs12 := u2.size
    have hs01 := U1.out.size
    have ssl : (ts.map Tn.sp).length = K := by rw [List.length_map, HK.out]
    have SW := Lib.hid (((S1.out.upd u2 (noB _)).upd u4 (noB _)).upd u5 (noB _))
    have B8 := Lib.hid (u5.heap b8 (noB _))
    have UW := Lib.hid (((U1.out.then u2).then u4).then u5)
    have h0 : ApI backF (rv K) xs ts.reverse (.slice ya L ycap) L w.heap.size W K [] W := ⟨xs, row_base ((u4.then u5).row hrow (fun k _ => noB k)) (by omega), HL.out, HSQ.out, fun _ => rfl, Upd.refl _ _⟩
    have hW0 : w2.heap.size + 2 = W.heap.size := by omega
    go_wp2_with fail
    refine (wpIn_wide (n := 2)).1 (wpIn_rangeFunc_ownH rfl (by omega) (gf := 85) (lb := #[.pointer (some ⟨w2.heap.size + 1, 0, none⟩)]) rfl trivial (enters_of Tryd.func85 (by kernel_rfl) rfl)
      (bwd_seq (w2.heap.size + 1) g K (ts.map Tn.sp) W ssl (by omega) (cell_of_one bS) SW.out (by omega) (by omega)) (fun h k => h.trans k)
      (fun W' l o o' hl _ _ _ => keepD_putObj (fun hd => by rcases hd with rfl | rfl <;> omega)) (Below.refl _ _) (fun _ => rfl)
      (ApI backF (rv K) xs ts.reverse (.slice ya L ycap) L w.heap.size W K) (fun _ _ _ => False) (ApI.own _ _ _ _ _ _ _ _ _) (fun _ _ _ _ _ hs _ _ => hs) h0
      (fun x a' W' => ∃ Bx, W.heap.size ≤ Bx ∧ W'.heap[Bx]? = some (.cells #[.int .i64 ((ts.map Tn.sp).getD x.1 noSp).q, .int .i64 ((ts.map Tn.sp).getD x.1 noSp).A, .int .i64 ((ts.map Tn.sp).getD x.1 noSp).B, .int .i64 ((ts.map Tn.sp).getD x.1 noSp).i, .int .i64 ((ts.map Tn.sp).getD x.1 noSp).j] 70 (0, 0)) ∧
        a' = { tmps := #[.slice xa L xcap, .slice ta K tcap, undef, undef, .slice none 0 0, .int .i64 0, .slice (some ⟨g, 0, none⟩) K K, .int .i64 0, .pointer (some ⟨w2.heap.size, 0, none⟩), undef, .pointer (some ⟨Bx, 0, none⟩), .tuple #[.slice (some ⟨g, 0, none⟩) K K, .int .i64 0], .slice xa L xcap, .slice ta K tcap, .tuple #[.slice (some ⟨g, 0, none⟩) K K, .int .i64 0], .slice (some ⟨g, 0, none⟩) K K, .int .i64 0, .int .i64 0, .bool false, undef, .slice xa L xcap, .slice ya L ycap, .slice (some ⟨g, 0, none⟩) K K, .func (.func 85) #[] #[.pointer (some ⟨w2.heap.size + 1, 0, none⟩)], .int .i64 (x.1 : Nat), ((ts.map Tn.sp).getD x.1 noSp).val, undef, undef, undef, undef, undef, undef, undef], defers := [] })
      (fun x a' s A B row hs hg hr => by
        obtain ⟨Bx, h1, h2, h3⟩ := hs
        refine ⟨Bx, h1, (hg.block _ (lt_of_block h2) (fun e => ?_)).trans h2, h3⟩
        obtain ⟨_, o, ho, hc⟩ := hr _ e.symm
        rw [h2] at ho
        cases ho
        cases hc) ?assign ?body ?done ?stop)
    case assign =>
      intro l pre x W' K' hi hK'
      obtain ⟨ys, r1, r2, r3, r4, r5⟩ := hi
      have hsz := r5.size
      have hi : ApI backF (rv K) xs ts.reverse (.slice ya L ycap) L w.heap.size W K pre W' := ⟨ys, r1, r2, r3, r4, r5⟩
      have Hi := Lib.hid hi; have R5 := Lib.hid r5
      clear hi r1 r2 r3 r4 r5
      simp only [encS, Sp.val] at hK' ⊢
      generalize (ts.map Tn.sp).getD x.1 noSp = s at *
      obtain ⟨q, A, B, i, j⟩ := s
      gi_wp2
      refine hK' _ _ ((KeepsOthers.alloc _ _).from _) (keepD_alloc _ (fun k hk => by rcases hk with rfl | rfl <;> omega)) ((ApI.own _ _ _ _ _ _ _ _ _).alloc _ Hi.out) ⟨W'.heap.size, hsz, heap_alloc_new W' _, rfl⟩
    case body =>
      rintro l pre x a' W' _ _ ⟨ys, r1, r2, r3, r4, r5⟩ ⟨Bx, hx1, hx2, rfl⟩ hN
      obtain ⟨t, ht⟩ : ∃ t, ts[x.1]? = some t := ⟨_, List.getElem?_eq_getElem (by rw [HK.out]; exact x.2)⟩
      have hgd : (ts.map Tn.sp).getD x.1 noSp = t.sp := by rw [List.getD_eq_getElem?_getD, List.getElem?_map, ht]; rfl
      have tk := TOK.out x.1 t ht
      rw [HL.out] at tk
      obtain ⟨hok, hfit⟩ := tn_ok tk
      have hL0 : 0 < L := by have h1 := hok.2.2.2.2.2.1; have h2 := hok.2.2.2.2.2.2.1; omega
      obtain ⟨b, cap, e⟩ := row_slice r1 hL0
      injection e with e1 e2 e3
      subst e1 e3
      have hrb := hrl b rfl
      rw [← r2] at r1
      obtain ⟨oR, ob1, ob2⟩ := OwnR.of r1
      have hbd := fun k y hk => sq_bd (M := 137438953472) r3 (by omega) (by
        have h1 := bnd_le (B := 73786976294838206464) (show pre.length ≤ 60 by omega)
        have h2 := bnd_wide
        generalize bnd 73786976294838206464 pre.length = u at *
        generalize bnd 73786976294838206464 60 = v at *
        omega) k y hk
      have hgrow := sq_step (f := backF) (s := t.sp) (xs := ys) (by have h1 := hok.2.2.2.2.2.1; have h2 := hok.2.2.2.2.2.2.1; omega) (by have h1 := hok.2.2.2.2.2.2.2.1; have h2 := hok.2.2.2.2.2.2.2.2.1; omega) (by have h1 := hok.2.2.2.2.2.1; have h2 := hok.2.2.2.2.2.2.2.1; have h3 := hok.2.2.2.2.2.2.2.2.2; omega) (fun p => back_grow hfit p)
      have Hnext := Lib.hid (bnd_next r3 hgrow)
      have Hord := Lib.hid (show (pre ++ [x]).map Subtype.val = rv K (pre ++ [x]).length → stepL backF t.sp ys = allT backF (ts.reverse.take (pre ++ [x]).length) xs from fun h => by
        obtain ⟨h1, h2⟩ := ord_snoc (ord := rv K) (f := fun m => K - 1 - m) (fun m => rv_succ K m) h
        rw [r4 h1, List.length_append, show pre.length + [x].length = pre.length + 1 from rfl, allT_snoc (by rw [List.getElem?_reverse (by rw [HK.out]; omega), HK.out, ← h2]; exact ht)])
      rw [hgd] at hx2 ⊢
      have b8' := r5.heap B8.out (by intro h; have := (hrl _ h).2; omega)
      have R5 := Lib.hid r5
      have oL : ys.length = L := r2
      clear r1 r3 r4 r5 hgd tk hfit hgrow ht
      have HM := Lib.hid (fun w' (o : OwnR w' b ycap ys) => by
        have := moveB_any t.sp.q t.sp.A t.sp.B t.sp.i.toNat t.sp.j.toNat b ycap ys w' (by
          rw [Int.toNat_of_nonneg hok.2.2.2.2.2.1, Int.toNat_of_nonneg hok.2.2.2.2.2.2.2.1, oL]; exact hok) o (by omega) hbd
        rw [Int.toNat_of_nonneg hok.2.2.2.2.2.1, Int.toNat_of_nonneg hok.2.2.2.2.2.2.2.1] at this
        exact this)
      generalize t.sp = s at *
      obtain ⟨q, A, B, i, j⟩ := s
      simp only [Sp.val] at *
      obtain ⟨c0, c1, c2, c3, c4⟩ := cells5 hx2
      have y0 := cell_of_one b8'
      rw [oL] at HM
      have HO := Lib.hid oR
      have Hx2 := Lib.hid hx2
      clear hok hbd oR hx2 b8'
      gi_wp2
      refine ⟨trivial, rfl, ?_⟩
      (with_reducible refine ((callsIn_wide.2 (HM.out W' HO.out)).inRound l).mono ?_)
      rintro e W2 ⟨rfl, oW, uW⟩
      gi_wp2
      have hsl := R5.out.size
      refine ⟨keeps_of_upd uW (fun k hB e => by omega), fun k hk => uW.block k (by rcases hk with rfl | rfl <;> omega) (by have h1 := HG.out; have h2 := HO.out; rcases hk with rfl | rfl <;> omega), _, ?_, by rw [stepL_length]; exact oL, by rw [List.length_append]; exact Hnext.out, Hord.out, R5.out.trans uW (fun k _ h => by subst h; rfl)⟩
      have hr := oW.row ob1 ob2
      rw [stepL_length, oL] at hr
      exact hr
    case done =>
      rintro D ys' W' hD' hS ⟨ys, r1, r2, r3, r4, r5⟩ hK
      have hlen : ys'.length = K := by have := congrArg List.length hS; simpa [rv_length] using this
      have hys := r4 (by rw [hlen]; exact hS)
      rw [hlen, List.take_of_length_le (by rw [List.length_reverse, HK.out]; exact Nat.le_refl _)] at hys
      have b8' := r5.heap B8.out (by intro h; have := (hrl _ h).2; omega)
      have y0 := cell_of_one b8'
      have HY := Lib.hid hys; have R1 := Lib.hid r1; have R5 := Lib.hid r5; have R2 := Lib.hid r2
      have HKD := Lib.hid hK
      clear hys r1 r2 r3 r4 r5 b8' hK hS
      go_wp2
      refine ⟨by simp, .inl ⟨_, _, rfl, run_takeDeferred HKD.out, ?_⟩⟩
      refine ⟨_, results_tmp2 rfl _ _ _, _, by rw [E.out]; rfl, ?_, ?_⟩
      · rw [V.out, ← HY.out, R2.out]
        exact row_grown R1.out (grownBy_putObj' _ _ _) (fun r e => by cases e; exact ⟨_, HKD.out, rfl⟩)
      · have hsl := UW.out.size
        refine Upd.mono (S := fun k => w.heap.size ≤ k) (((UW.out.mono (T := fun k => w.heap.size ≤ k) (fun _ _ h => h.elim)).trans R5.out (fun k _ h => by have := (hrl k h).1; omega)).grown (grownBy_putObj' _ _ _) (fun k e hlt => by cases e; omega)) (fun k hk h => by omega)
    case stop =>
      rintro D c pre W' _ _ h _
      exact h.elim
  · have V := Lib.hid (show undV xs ts = [] from if_neg hE)
    have t : (stpE 1073741824 xs ts != 0) = true := by simpa using hE
    have HE := Lib.hid hE
    clear hE hsm
    rw [V.out]
    go_enter Tryd.func30, Tryd.ntmps30
    go_wp2_with fail
    (with_reducible refine HST.out.mono ?_)
    rintro e w1 ⟨u1, ⟨_, rfl⟩ | ⟨h, _⟩⟩
    · have U1 := Lib.hid u1; clear u1
      go_wp2
      go_ret2
      exact ⟨_, rfl, World.ownsRow_nil _ _ _ _, U1.out⟩
    · exact absurd h HE.out
end Go.Proofs.YtpmhioaoniijbaaDoor
