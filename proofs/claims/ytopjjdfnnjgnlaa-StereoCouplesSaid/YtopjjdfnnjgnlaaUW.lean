/- stereo: the reference's Mid, Sides, channels, cost, sides; two rows at once -/
import Derived.Test.YtopjjdfnnjgnlaaUV
namespace Go.Proofs.Ytopjjdfnnjgnlaa
open Go.RowKit Go.Shelf

theorem wpList_pushF {w : World} {ops : Array Oper} {rest : List Oper} {o : Oper} {a : Act} {Q : Exit → Act → World → Prop} (hgd : o.guard = none) (s x : Operand)
    (ho : o.op = .call { callee := .builtin .append, args := #[s, x], argTypes := #[22, 22] }) (B : Nat) (v : Value) (n : Nat) (xs : List Int) (y : Int) (hs : a.eval s = v) (hx : a.eval x = .slice (some ⟨w.heap.size, 0, none⟩) 1 1)
    (hown : w.ownsRow B 3 1 v n (i64s xs)) (hn : n ≤ 1000000) (hB : B ≤ w.heap.size)
    (hK : ∀ v' w', w'.ownsRow B 3 1 v' (n + 1) (i64s (xs ++ [y])) → Upd (fun k => v.ownBlock = some k) w w' → (v'.ownBlock = v.ownBlock ∨ ∃ k, v'.ownBlock = some k ∧ w.heap.size ≤ k) → wpList Try.prog ops Q rest (a.put o.dst v') w') : wpList Try.prog ops Q (o :: rest) a (w.alloc (.cells #[.int .i64 y] 3)) := by
  obtain ⟨i0, hi, hz0, hz1, hz2⟩ := info_parts Try.infoInt
  have u : Upd NoB w (w.alloc (.cells #[.int .i64 y] 3)) := (Upd.refl _ _).alloc _
  refine wpList_append_own_at (w := w.alloc (.cells #[.int .i64 y] 3)) hgd s x 22 ho B 3 i0 (.int .i64 0) 1 8 Try.underlying22 hi hz0 hz1 hz2 rfl (by decide) v n (i64s xs) hs (u.row hown (fun k _ => noB k)) ⟨w.heap.size, 0, none⟩ 1 1 [.int .i64 y] hx rfl (World.news_of_block (heap_alloc_new w _)) (by intro u hu; rw [List.mem_singleton] at hu; subst hu; rfl) (by unfold maxLen; omega) (by omega) (Nat.le_trans hB u.size) ?_
  intro v' w' hown' hgr _ hat
  refine hK v' w' (by rw [i64s_append]; exact hown') ?_ ?_
  · exact ((u.mono (T := fun k => v.ownBlock = some k) (fun _ _ h => h.elim))).grown hgr (fun k hk _ => hk)
  · rcases hat with h | h
    · exact .inl h
    · exact .inr ⟨_, h, u.size⟩
theorem wpList_pushb {w : World} {ops : Array Oper} {rest : List Oper} {o : Oper} {a : Act} {Q : Exit → Act → World → Prop} (hgd : o.guard = none) (s x : Operand)
    (ho : o.op = .call { callee := .builtin .append, args := #[s, x], argTypes := #[27, 27] }) (B : Nat) (v : Value) (n : Nat) (xs : List Bool) (y : Bool) (hs : a.eval s = v) (hx : a.eval x = .slice (some ⟨w.heap.size, 0, none⟩) 1 1)
    (hown : w.ownsRow B 4 1 v n (bls xs)) (hn : n ≤ 1000000) (hB : B ≤ w.heap.size)
    (hK : ∀ v' w', w'.ownsRow B 4 1 v' (n + 1) (bls (xs ++ [y])) → Upd (fun k => B ≤ k) w w' → wpList Try.prog ops Q rest (a.put o.dst v') w') : wpList Try.prog ops Q (o :: rest) a (w.alloc (.cells #[.bool y] 4)) := by
  obtain ⟨i0, hi, hz0, hz1, hz2⟩ := info_parts Try.infoBool
  have u : Upd NoB w (w.alloc (.cells #[.bool y] 4)) := (Upd.refl _ _).alloc _
  refine wpList_append_own (w := w.alloc (.cells #[.bool y] 4)) hgd s x 27 ho B 4 i0 (.bool false) 1 1 Try.underlying27 hi hz0 hz1 hz2 rfl (by decide) v n (bls xs) hs (u.row hown (fun k _ => noB k)) ⟨w.heap.size, 0, none⟩ 1 1 [.bool y] hx rfl (World.news_of_block (heap_alloc_new w _)) (by intro u hu; rw [List.mem_singleton] at hu; subst hu; rfl) (by unfold maxLen; omega) (by omega) (Nat.le_trans hB u.size) ?_
  intro v' w' hown' hgr _
  refine hK v' w' (by rw [bls_append]; exact hown') ?_
  exact ((u.mono (T := fun k => B ≤ k) (fun _ _ h => h.elim))).grown hgr (fun k hk _ => (hown.lt k hk).1)
theorem rwithin2 (M x y : Int) (w : World) (hM : 0 ≤ M) (hM2 : M ≤ 4611686018427387904) (hx : -M ≤ x ∧ x ≤ M) (hy : -M ≤ y ∧ y ≤ M) : Calls Try.prog 64 #[.int .i64 M, .slice (some ⟨w.heap.size, 0, none⟩) 2 2] (w.alloc (.cells #[.int .i64 x, .int .i64 y] 3)) fun e w' => e = .returned (.bool true) ∧ w' = w.alloc (.cells #[.int .i64 x, .int .i64 y] 3) := by
  have := rwithin_any M _ [x, y] (w.alloc (.cells #[.int .i64 x, .int .i64 y] 3)) hM hM2 (Ints.of2 (heap_alloc_new w _))
  rw [show inM M [x, y] = true from inM_all fun z hz => by
    simp only [List.mem_cons, List.not_mem_nil, or_false] at hz
    rcases hz with rfl | rfl
    · exact hx
    · exact hy] at this
  exact this
set_option maxRecDepth 100000 in
theorem rMid_any (p : Int × Int) (w : World) (h : InP 1073741824 p) : Calls Try.prog 61 #[.int .i64 p.1, .int .i64 p.2] w fun e w' => e = .returned (.tuple #[.int .i64 (midP p).1, .int .i64 (midP p).2, .int .i64 0]) ∧ Upd NoB w w' := by
  obtain ⟨l, r⟩ := p
  obtain ⟨⟨h1, h2⟩, h3, h4⟩ := h
  simp only at h1 h2 h3 h4 ⊢
  have U := Lib.hid ((Upd.refl NoB w).alloc (.cells #[.int .i64 l, .int .i64 r] 3))
  have HA := Lib.hid (rwithin2 1073741824 l r w (by omega) (by omega) ⟨h1, h2⟩ ⟨h3, h4⟩)
  have HD := Lib.hid (fun Z => down_any (l - r) 2 Z (by omega) (by omega) (by omega) (by omega))
  have V := Lib.hid (show midP (l, r) = (r + (l - r) / 2, l - r) from rfl)
  rw [V.out]
  go_enter Try.func61, Try.ntmps61
  go_wp2_with fail
  refine HA.out.mono ?_
  rintro e w' ⟨rfl, rfl⟩
  go_wp2_with fail
  refine (HD.out _).mono ?_
  rintro e w' ⟨rfl, rfl⟩
  go_wp2
  go_ret3
  exact ⟨rfl, U.out⟩
set_option maxRecDepth 100000 in
theorem rSides_any (p : Int × Int) (w : World) (h : InP 4294967296 p) : Calls Try.prog 63 #[.int .i64 p.1, .int .i64 p.2] w fun e w' => e = .returned (.tuple #[.int .i64 (sidP p).1, .int .i64 (sidP p).2, .int .i64 0]) ∧ Upd NoB w w' := by
  obtain ⟨l, r⟩ := p
  obtain ⟨⟨h1, h2⟩, h3, h4⟩ := h
  simp only at h1 h2 h3 h4 ⊢
  have U := Lib.hid ((Upd.refl NoB w).alloc (.cells #[.int .i64 l, .int .i64 r] 3))
  have HA := Lib.hid (rwithin2 4294967296 l r w (by omega) (by omega) ⟨h1, h2⟩ ⟨h3, h4⟩)
  have HD := Lib.hid (fun Z => down_any r 2 Z (by omega) (by omega) (by omega) (by omega))
  have V := Lib.hid (show sidP (l, r) = (l - r / 2 + r, l - r / 2) from rfl)
  rw [V.out]
  go_enter Try.func63, Try.ntmps63
  go_wp2_with fail
  refine HA.out.mono ?_
  rintro e w' ⟨rfl, rfl⟩
  go_wp2_with fail
  refine (HD.out _).mono ?_
  rintro e w' ⟨rfl, rfl⟩
  go_wp2
  go_ret3
  exact ⟨rfl, U.out⟩
set_option maxRecDepth 100000 in
set_option maxHeartbeats 4000000 in
theorem rchannels_any (lv rv wv : Value) (l r ws : List Int) (M : Int) (w : World) (hM : 0 ≤ M) (hM2 : M ≤ 4611686018427387904) (hl : Ints w lv l) (hr : Ints w rv r) (hw : Ints w wv ws) : Calls Try.prog 52 #[lv, rv, wv, .int .i64 M] w fun e w' => e = .returned (.int .i64 (chE l r ws M)) ∧ w' = w := by
  have HV := Lib.hid (rWidths_any wv ws w hw)
  have HA := Lib.hid (rWithin_any M lv l w hM hM2 hl)
  have HB := Lib.hid (rWithin_any M rv r w hM hM2 hr)
  have HE := Lib.hid (show chE l r ws M = if isW ws then (if l.length = 128 ∧ r.length = 128 then (if inM M l && inM M r then 0 else 6) else 4) else 1 from rfl)
  rw [HE.out]
  obtain ⟨la, lc, rfl⟩ := hl.form
  obtain ⟨ra, rc, rfl⟩ := hr.form
  obtain ⟨wa, wc, rfl⟩ := hw.form
  generalize l.length = L at *
  generalize r.length = R at *
  generalize ws.length = N at *
  generalize inM M l = p at *
  generalize inM M r = q at *
  clear hl hr hw HE
  cases hz : isW ws with
  | false =>
    rw [hz] at HV
    clear hz HA HB
    go_enter Try.func52, Try.ntmps52
    go_wp2_with fail
    refine HV.out.mono ?_
    rintro e w' ⟨rfl, rfl⟩
    go_wp2_with fail
    go_ret
    exact ⟨rfl, rfl⟩
  | true =>
    rw [hz] at HV
    clear hz
    by_cases h1 : L = 128
    · subst h1
      by_cases h2 : R = 128
      · subst h2
        cases p with
        | true =>
          cases q with
          | true =>
            go_enter Try.func52, Try.ntmps52
            go_wp2_with fail
            refine HV.out.mono ?_
            rintro e w' ⟨rfl, hw'⟩
            rw [hw']
            clear hw'
            go_wp2_with fail
            refine HA.out.mono ?_
            rintro e w' ⟨rfl, hw'⟩
            rw [hw']
            clear hw'
            go_wp2_with fail
            refine HB.out.mono ?_
            rintro e w' ⟨rfl, rfl⟩
            go_wp2_with fail
            go_ret
            exact ⟨rfl, rfl⟩
          | false =>
            go_enter Try.func52, Try.ntmps52
            go_wp2_with fail
            refine HV.out.mono ?_
            rintro e w' ⟨rfl, hw'⟩
            rw [hw']
            clear hw'
            go_wp2_with fail
            refine HA.out.mono ?_
            rintro e w' ⟨rfl, hw'⟩
            rw [hw']
            clear hw'
            go_wp2_with fail
            refine HB.out.mono ?_
            rintro e w' ⟨rfl, rfl⟩
            go_wp2_with fail
            go_ret
            exact ⟨rfl, rfl⟩
        | false =>
          clear HB
          go_enter Try.func52, Try.ntmps52
          go_wp2_with fail
          refine HV.out.mono ?_
          rintro e w' ⟨rfl, hw'⟩
          rw [hw']
          clear hw'
          go_wp2_with fail
          refine HA.out.mono ?_
          rintro e w' ⟨rfl, rfl⟩
          go_wp2_with fail
          go_ret
          exact ⟨rfl, rfl⟩
      · have t1 : ((R : Int) != 128) = true := bne_iff_ne.2 (by omega)
        rw [if_pos rfl, if_neg (fun h => h2 h.2)]
        clear h2 HA HB
        go_enter Try.func52, Try.ntmps52
        go_wp2_with fail
        refine HV.out.mono ?_
        rintro e w' ⟨rfl, rfl⟩
        go_wp2_with fail
        go_ret
        exact ⟨rfl, rfl⟩
    · have t1 : ((L : Int) != 128) = true := bne_iff_ne.2 (by omega)
      rw [if_pos rfl, if_neg (fun h => h1 h.1)]
      clear h1 HA HB
      go_enter Try.func52, Try.ntmps52
      go_wp2_with fail
      refine HV.out.mono ?_
      rintro e w' ⟨rfl, rfl⟩
      go_wp2_with fail
      go_ret
      exact ⟨rfl, rfl⟩
set_option maxRecDepth 100000 in
set_option maxHeartbeats 4000000 in
theorem rcost_any (v : Value) (xs : List Int) (w : World) (h : Ints w v xs) (hl : xs.length ≤ 1000) (hx : ∀ i, -1073741824 ≤ xs.getD i 0 ∧ xs.getD i 0 ≤ 1073741824) : Calls Try.prog 54 #[v] w fun e w' => e = .returned (.int .i64 (csL xs)) ∧ w' = w := by
  have H := Lib.hid h; have HX := Lib.hid hx
  have HB := Lib.hid (fun k => sm_bd (A := 0) (B := 16128) (g := fun i => lgA (xs.getD i 0)) (n := k) (fun i _ => lgA_bd (hx i)))
  have HS := Lib.hid (fun k => sm_succ (fun i => lgA (xs.getD i 0)) k)
  have HE := Lib.hid (show csL xs = sm (fun i => lgA (xs.getD i 0)) xs.length from rfl)
  rw [HE.out]
  obtain ⟨a, cap, rfl⟩ := h.form
  obtain ⟨L, hL⟩ : ∃ L, xs.length = L := ⟨_, rfl⟩
  have HL := Lib.hid hL
  rw [hL] at H hl ⊢
  clear h hx hL HE
  go_enter Try.func54, Try.ntmps54
  go_wp2_with fail
  go_loop [3, 8] (fun s i => ∃ k : Nat, k ≤ L ∧ i = .int .i64 k ∧ s = .int .i64 (sm (fun i => lgA (xs.getD i 0)) k)) (fun _ i => L - (intOf i).toNat)
  case atStart => exact ⟨0, Nat.zero_le _, rfl, rfl⟩
  case round =>
    obtain ⟨k, hk, rfl, rfl⟩ := hrel
    by_cases hlt : k < L
    · obtain ⟨x, hx⟩ : ∃ x, xs[k]? = some x := ⟨_, List.getElem?_eq_getElem (by rw [HL.out]; exact hlt)⟩
      obtain ⟨bb, off, rfl, c0⟩ := H.out.cellAt hx
      have hg : xs.getD k 0 = x := by rw [List.getD_eq_getElem?_getD, hx]; rfl
      have hxi := HX.out k
      have hs := HS.out k
      have hb := HB.out k
      simp only [hg] at hs
      rw [hg] at hxi
      have HLv := Lib.hid (fun w => rLevel_any x w hxi)
      have hq := lgA_bd hxi
      generalize lgA x = q at *
      have HSu := Lib.hid hs
      generalize sm (fun i => lgA (xs.getD i 0)) k = S at *
      have hS1 : S ≤ 16128000 := by omega
      have hS0 : 0 ≤ S := by omega
      have y1 : IntKind.i64.wrap (-x) = -x := IntWalk.i64_in _ (by omega)
      have y2 : wrap64 (-x) = -x := IntWalk.wrap64_in _ (by omega)
      have y3 : IntKind.i64.wrap (max x (-x) + 1) = max x (-x) + 1 := IntWalk.i64_in _ (by omega)
      have y4 : wrap64 (max x (-x) + 1) = max x (-x) + 1 := IntWalk.wrap64_in _ (by omega)
      have z1 : wrap64 (S + q) = S + q := IntWalk.wrap64_in _ (by omega)
      have z2 : IntKind.i64.wrap (S + q) = S + q := IntWalk.i64_in _ (by omega)
      clear hx hg hxi hs hb hq hS1 hS0
      go_wp2_with fail
      refine (HLv.out _).mono ?_
      rintro e w' ⟨rfl, rfl⟩
      go_wp2_with fail
      go_round
      case rel => exact ⟨k + 1, by clear y1 y2 y3 y4 z1 z2; omega, by go_num, by rw [HSu.out]⟩
      case measure => clear y1 y2 y3 y4 z1 z2; simp [intOf]; omega
    · obtain rfl : k = L := by omega
      clear hlt
      go_wp2_with fail
      go_ret
      exact ⟨rfl, rfl⟩
/-- Two rows of their own, in two blocks. -/
def TwoR (w : World) (B : Nat) (va : Value) (n : Nat) (xs : List Int) (vb : Value) (m : Nat) (ys : List Int) : Prop :=
  w.ownsRow B 3 1 va n (i64s xs) ∧ w.ownsRow B 3 1 vb m (i64s ys) ∧ ∀ k, va.ownBlock = some k → vb.ownBlock ≠ some k
theorem TwoR.later {w w' : World} {B : Nat} {va vb : Value} {n m : Nat} {xs ys : List Int} (h : TwoR w B va n xs vb m ys) (u : Upd NoB w w') : TwoR w' B va n xs vb m ys :=
  ⟨u.row h.1 (fun k _ => noB k), u.row h.2.1 (fun k _ => noB k), h.2.2⟩
theorem TwoR.swap {w : World} {B : Nat} {va vb : Value} {n m : Nat} {xs ys : List Int} (h : TwoR w B va n xs vb m ys) : TwoR w B vb m ys va n xs :=
  ⟨h.2.1, h.1, fun k h1 h2 => h.2.2 k h2 h1⟩
theorem TwoR.step {w w' : World} {B : Nat} {va vb v' : Value} {n m n' : Nat} {xs ys xs' : List Int} (h : TwoR w B va n xs vb m ys) (ho : w'.ownsRow B 3 1 v' n' (i64s xs')) (u : Upd (fun k => va.ownBlock = some k) w w')
    (hat : v'.ownBlock = va.ownBlock ∨ ∃ k, v'.ownBlock = some k ∧ w.heap.size ≤ k) : TwoR w' B v' n' xs' vb m ys := by
  refine ⟨ho, u.row h.2.1 (fun k h1 h2 => h.2.2 k h2 h1), fun k h1 h2 => ?_⟩
  rcases hat with e | ⟨j, e, hj⟩
  · rw [e] at h1; exact h.2.2 k h1 h2
  · rw [e] at h1
    injection h1 with h1
    have := (h.2.1.lt k h2).2
    omega
theorem TwoR.out {w0 w w' : World} {va vb : Value} {n m : Nat} {xs ys : List Int} (h : TwoR w w0.heap.size va n xs vb m ys) (hu : Upd NoB w0 w) (u : Upd (fun k => va.ownBlock = some k) w w') : Upd NoB w0 w' :=
  hu.trans u (fun k hk e => by have := (h.1.lt k e).1; omega)
theorem TwoR.nil (w : World) (B : Nat) : TwoR w B (.slice none 0 0) 0 [] (.slice none 0 0) 0 [] := ⟨World.ownsRow_nil _ _ _ _, World.ownsRow_nil _ _ _ _, fun k h => by cases h⟩
theorem TwoR.form {w : World} {B : Nat} {va vb : Value} {n m : Nat} {xs ys : List Int} (h : TwoR w B va n xs vb m ys) : ∃ a c b d, va = .slice a n c ∧ vb = .slice b m d := by
  obtain ⟨a, c, e1⟩ := row_form h.1
  obtain ⟨b, d, e2⟩ := row_form h.2.1
  exact ⟨a, c, b, d, e1, e2⟩
def mdA (A B : List Int) (n : Nat) : List Int := (List.range n).map fun i => (midP (P2 A B i)).1
def mdB (A B : List Int) (n : Nat) : List Int := (List.range n).map fun i => (midP (P2 A B i)).2
theorem mdA_succ (A B : List Int) (n : Nat) : mdA A B (n + 1) = mdA A B n ++ [(midP (P2 A B n)).1] := rmap_succ _ _
theorem mdB_succ (A B : List Int) (n : Nat) : mdB A B (n + 1) = mdB A B n ++ [(midP (P2 A B n)).2] := rmap_succ _ _
set_option maxRecDepth 100000 in
set_option maxHeartbeats 8000000 in
theorem rsidesL_any (lv rv : Value) (A B : List Int) (w : World) (ha : Ints w lv A) (hb : Ints w rv B) (hl : A.length = B.length) (hl8 : A.length ≤ 128) (hin : ∀ i, InP 1073741824 (P2 A B i)) : Calls Try.prog 53 #[lv, rv] w fun e w' =>
    ∃ va ca vb cb, e = .returned (.tuple #[.slice va A.length ca, .slice vb A.length cb]) ∧ Ints w' (.slice va A.length ca) (mdA A B A.length) ∧ Ints w' (.slice vb A.length cb) (mdB A B A.length) ∧ Upd NoB w w' := by
  have HX := Lib.hid ha; have HY := Lib.hid hb
  have HM := Lib.hid (fun k Z => rMid_any (P2 A B k) Z (hin k))
  have HSA := Lib.hid (fun k => mdA_succ A B k); have HSB := Lib.hid (fun k => mdB_succ A B k)
  have HLA := Lib.hid (fun k => show (mdA A B k).length = k from rmap_len _ _); have HLB := Lib.hid (fun k => show (mdB A B k).length = k from rmap_len _ _)
  have HGA := Lib.hid (show ∀ k, k < A.length → A[k]? = some (P2 A B k).1 ∧ B[k]? = some (P2 A B k).2 from fun k hk => by
    unfold P2
    rw [List.getD_eq_getElem?_getD, List.getD_eq_getElem?_getD, List.getElem?_eq_getElem hk, List.getElem?_eq_getElem (by omega)]
    exact ⟨rfl, rfl⟩)
  obtain ⟨la, lc, rfl⟩ := ha.form
  obtain ⟨ra, rc, rfl⟩ := hb.form
  rw [← hl] at HY ⊢
  obtain ⟨n, hn⟩ : ∃ n, A.length = n := ⟨_, rfl⟩
  rw [hn] at HX HY hl8 HGA ⊢
  have h0 : mdA A B 0 = [] := rfl
  have h1 : mdB A B 0 = [] := rfl
  have H00 := Lib.hid (And.intro h0 h1)
  clear ha hb hl hin hn h0 h1
  go_enter Try.func53, Try.ntmps53
  go_wp2_with fail
  go_loopw [4, 5, 12] (fun va vb i wr => ∃ k : Nat, k ≤ n ∧ i = .int .i64 k ∧ TwoR wr w.heap.size va k (mdA A B k) vb k (mdB A B k) ∧ Upd NoB w wr) (fun _ _ i _ => n - (intOf i).toNat)
  case atStart => exact ⟨0, Nat.zero_le _, rfl, by rw [H00.out.1, H00.out.2]; exact TwoR.nil _ _, Upd.refl _ _⟩
  case round =>
    obtain ⟨k, hk, rfl, ht, hu⟩ := hrel
    obtain ⟨va, vc, vb, vd, rfl, rfl⟩ := ht.form
    by_cases hlt : k < n
    · obtain ⟨gA, gB⟩ := HGA.out k hlt
      obtain ⟨b1, o1, rfl, c1⟩ := (HX.out.later hu).cellAt gA
      obtain ⟨b2, o2, rfl, c2⟩ := (HY.out.later hu).cellAt gB
      have HMk := Lib.hid (HM.out k)
      have SA := Lib.hid (HSA.out k); have SB := Lib.hid (HSB.out k)
      generalize (P2 A B k).1 = x at *
      generalize (P2 A B k).2 = y at *
      generalize (midP (P2 A B k)).1 = p at *
      generalize (midP (P2 A B k)).2 = q at *
      have d1 : wr.drew.cell? ⟨b1, o1 + k, none⟩ = some (.int .i64 x) := c1
      have d2 : wr.drew.cell? ⟨b2, o2 + k, none⟩ = some (.int .i64 y) := c2
      have hk1 : k ≤ 1000000 := by omega
      have HT := Lib.hid ht; have HU := Lib.hid hu
      clear gA gB ht hu
      go_wp2_with fail
      go_region_with (go_at_call 61; (with_reducible refine (HMk.out _).mono ?_); rintro e w4 ⟨rfl, u4⟩; have W4 := Lib.hid ((Upd.refl NoB wr).drew.then u4); have U4 := Lib.hid (HU.out.then W4.out); have T4 := Lib.hid (HT.out.later W4.out); have hb4 := U4.out.size; clear u4)
      all_goals
        go_wp2_with (at_builtin; first
          | (refine wpList_pushF rfl (.tmp 28) (.tmp 30) rfl w.heap.size (.slice va k vc) k (mdA A B k) p rfl rfl T4.out.1 hk1 hb4 ?_; intro v5 w5 o5 u5 hat5; have T5 := Lib.hid (T4.out.step o5 u5 hat5); have U5 := Lib.hid (T4.out.out U4.out u5); have hb5 := U5.out.size; obtain ⟨a5, c5, rfl⟩ := row_form o5; clear o5 u5 hat5)
          | (refine wpList_pushF rfl (.tmp 32) (.tmp 34) rfl w.heap.size (.slice vb k vd) k (mdB A B k) q rfl rfl T5.out.2.1 hk1 hb5 ?_; intro v6 w6 o6 u6 hat6; have T6 := Lib.hid (T5.out.swap.step o6 u6 hat6).swap; have U6 := Lib.hid (T5.out.swap.out U5.out u6); obtain ⟨a6, c6, rfl⟩ := row_form o6; clear o6 u6 hat6))
        go_roundw
        case rel => exact ⟨k + 1, by omega, by go_num, by rw [SA.out, SB.out]; exact T6.out, U6.out⟩
        case measure => simp [intOf]; omega
    · obtain rfl : k = n := by omega
      have HI1 := Lib.hid (show Ints wr (.slice va k vc) (mdA A B k) by
        have ho := ht.1
        have := Ints.ofRow (xs := mdA A B k) (w := wr) (base := w.heap.size) (v := .slice va k vc) (by rw [HLA.out]; exact ho) (by rw [HLA.out]; omega)
        exact this)
      have HI2 := Lib.hid (show Ints wr (.slice vb k vd) (mdB A B k) by
        have ho := ht.2.1
        have := Ints.ofRow (xs := mdB A B k) (w := wr) (base := w.heap.size) (v := .slice vb k vd) (by rw [HLB.out]; exact ho) (by rw [HLB.out]; omega)
        exact this)
      have HU := Lib.hid hu
      clear ht hu hlt
      go_wp2_with fail
      go_ret2
      exact ⟨_, _, _, _, rfl, HI1.out, HI2.out, HU.out⟩
end Go.Proofs.Ytopjjdfnnjgnlaa
