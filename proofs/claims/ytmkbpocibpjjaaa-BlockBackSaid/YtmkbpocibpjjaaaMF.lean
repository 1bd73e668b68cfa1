/- block: Layout, and that of the reference -/
import Derived.Test.YtmkbpocibpjjaaaME
namespace Go.Proofs.Ytmkbpocibpjjaaa
open Go.RowKit Go.Shelf

def loO (x : Bool) : List Int := if x then List.replicate 8 16 else [128]
def loL (fs : List Bool) (k : Nat) : List Int := (fs.take k).flatMap loO
theorem loL_zero (fs : List Bool) : loL fs 0 = [] := by simp [loL]
theorem loL_succ {fs : List Bool} {k : Nat} {x : Bool} (h : fs[k]? = some x) : loL fs (k + 1) = loL fs k ++ loO x := by
  unfold loL
  rw [List.take_add_one, h, List.flatMap_append]
  simp
theorem loO_len (x : Bool) : (loO x).length ≤ 8 := by cases x <;> decide
theorem loL_len (fs : List Bool) : ∀ k : Nat, (loL fs k).length ≤ 8 * k
  | 0 => by simp [loL]
  | k + 1 => by
    have ih := loL_len fs k
    cases h : fs[k]? with
    | none =>
      have : loL fs (k + 1) = loL fs k := by unfold loL; rw [List.take_add_one, h]; simp
      rw [this]; omega
    | some x =>
      have := loO_len x
      rw [loL_succ h, List.length_append]; omega
def loE (fs : List Bool) : Int := if 64 < fs.length then 2 else 0
def loS (fs : List Bool) : List Int := if 64 < fs.length then [] else loL fs fs.length
theorem wpList_pushR {w : World} {ops : Array Oper} {rest : List Oper} {o : Oper} {a : Act} {Q : Exit → Act → World → Prop} (hgd : o.guard = none) (s x : Operand)
    (ho : o.op = .call { callee := .builtin .append, args := #[s, x], argTypes := #[22, 22] }) (B : Nat) (v : Value) (n : Nat) (xs ys : List Int) (xv : Value) (hs : a.eval s = v) (hx : a.eval x = xv) (hI : Ints w xv ys) (hy : 0 < ys.length ∧ ys.length ≤ 1000000)
    (hown : w.ownsRow B 3 1 v n (i64s xs)) (hn : n ≤ 1000000) (hB : B ≤ w.heap.size)
    (hK : ∀ v' w', w'.ownsRow B 3 1 v' (n + ys.length) (i64s (xs ++ ys)) → Upd (fun k => B ≤ k) w w' → wpList Try.prog ops Q rest (a.put o.dst v') w') : wpList Try.prog ops Q (o :: rest) a w := by
  obtain ⟨i0, hi, hz0, hz1, hz2⟩ := info_parts Try.infoInt
  obtain ⟨ad, cap, rfl⟩ := hI.form
  cases ad with
  | none =>
    obtain ⟨x0, hx0⟩ : ∃ z, ys[0]? = some z := ⟨_, List.getElem?_eq_getElem hy.1⟩
    obtain ⟨_, _, e, _⟩ := hI.cellAt hx0
    cases e
  | some ad =>
    refine wpList_append_own (w := w) hgd s x 22 ho B 3 i0 (.int .i64 0) 1 8 Try.underlying22 hi hz0 hz1 hz2 rfl (by decide) v n (i64s xs) hs hown ad ys.length cap (i64s ys) hx (by simp [i64s_length]) hI.cellsOf (i64s_one ys) (by unfold maxLen; omega) (by omega) hB ?_
    intro v' w' hown' hgr _
    refine hK v' w' (by rw [i64s_append]; exact hown') ?_
    exact (Upd.refl _ _).grown hgr (fun k hk _ => (hown.lt k hk).1)
set_option maxRecDepth 100000 in
set_option maxHeartbeats 4000000 in
theorem Layout_any (v : Value) (fs : List Bool) (w : World) (h : Bls w v fs) : Calls Try.prog 24 #[v] w (EInts w (loS fs) (loE fs)) := by
  obtain ⟨a, cap, rfl⟩ := h.form
  have H := Lib.hid h
  have hlb := h.1
  obtain ⟨L, hL⟩ : ∃ L, fs.length = L := ⟨_, rfl⟩
  have HL := Lib.hid hL
  rw [hL] at H hlb ⊢
  clear h hL
  by_cases h1 : 64 < L
  · have HS := Lib.hid (show loS fs = [] from if_pos (by rw [HL.out]; exact h1))
    have HE := Lib.hid (show loE fs = 2 from if_pos (by rw [HL.out]; exact h1))
    rw [HS.out, HE.out]
    have T1 := Lib.hid (show decide ((64 : Int) < (L : Int)) = true from decide_eq_true (by omega))
    clear h1 hlb
    go_enter Try.func24, Try.ntmps24
    go_wp2_with (go_at_call 44; refine (fullb_any (.int .i64 0) _ _ _ _).mono ?_; rw [T1.out]; rintro e w' ⟨rfl, rfl⟩)
    go_ret2
    exact ⟨none, 0, 0, rfl, World.ownsRow_nil _ _ _ _, Upd.refl _ _⟩
  · have HS := Lib.hid (show loS fs = loL fs L by unfold loS; rw [if_neg (by rw [HL.out]; exact h1), HL.out])
    have HE := Lib.hid (show loE fs = 0 from if_neg (by rw [HL.out]; exact h1))
    rw [HS.out, HE.out]
    have T1 := Lib.hid (show decide ((64 : Int) < (L : Int)) = false from decide_eq_false (by omega))
    have hl : L ≤ 64 := by omega
    clear h1 hlb
    go_enter Try.func24, Try.ntmps24
    go_wp2_with (go_at_call 44; refine (fullb_any (.int .i64 0) _ _ _ _).mono ?_; rw [T1.out]; rintro e w' ⟨rfl, rfl⟩)
    go_loopw [4, 11] (fun v i wr => ∃ k : Nat, k ≤ L ∧ i = .int .i64 k ∧ wr.ownsRow w.heap.size 3 1 v (loL fs k).length (i64s (loL fs k)) ∧ Upd NoB w wr) (fun _ i _ => L - (intOf i).toNat)
    case atStart => exact ⟨0, Nat.zero_le _, rfl, World.ownsRow_nil _ _ _ _, Upd.refl _ _⟩
    case round =>
      obtain ⟨k, hk, rfl, hown, hu⟩ := hrel
      obtain ⟨va, vc, rfl⟩ := row_form hown
      have HOw := Lib.hid hown; have HU := Lib.hid hu
      clear hown hu
      by_cases hlt : k < L
      · obtain ⟨x, hx⟩ : ∃ x, fs[k]? = some x := ⟨_, List.getElem?_eq_getElem (by rw [HL.out]; exact hlt)⟩
        obtain ⟨b, off, rfl, c0⟩ := (H.out.later HU.out).cellAt hx
        have HT := Lib.hid (loL_succ hx)
        have hle := loL_len fs k
        have hbs := HU.out.size
        have HTl := Lib.hid (show (loL fs (k + 1)).length = (loL fs k).length + (loO x).length by rw [HT.out, List.length_append])
        generalize loL fs k = ys at *
        obtain ⟨n, hn⟩ : ∃ n, ys.length = n := ⟨_, rfl⟩
        rw [hn] at HOw HTl hle ⊢
        clear hx hn
        cases x with
        | true =>
          go_wp2_with fail
          refine (repeat_any wr.heap.size _ (heap_alloc_new wr _)).mono ?_
          rintro e w2 ⟨v2, rfl, r2, u2⟩
          have hu2 : Upd NoB wr w2 := ((Upd.refl NoB wr).alloc _).then u2
          have I2 := Lib.hid (Ints.ofRow r2 (by decide))
          have O2 := Lib.hid (hu2.row HOw.out (fun j _ => noB j)); have U2 := Lib.hid (HU.out.then hu2)
          have hb2 := hu2.size
          obtain ⟨a2, c2, rfl⟩ := row_form r2
          clear r2 u2 hu2
          go_wp2_with (at_builtin; refine wpList_pushR rfl (.tmp 16) (.tmp 18) rfl w.heap.size (.slice va n vc) n ys (List.replicate 8 16) (.slice a2 8 c2) rfl rfl I2.out (by decide) O2.out (by omega) (by omega) ?_; intro v' w' hown' u'; have R' := Lib.hid hown'; have U' := Lib.hid u'; clear hown' u')
          go_roundw
          case rel => exact ⟨k + 1, by omega, by go_num, by rw [HTl.out, HT.out]; exact R'.out, upd_ge ((upd_ge' U2.out w.heap.size).trans U'.out (fun _ _ h => h))⟩
          case measure => simp [intOf]; omega
        | false =>
          go_wp2_with (at_builtin; refine wpList_push rfl (.tmp 20) (.tmp 21) rfl w.heap.size (.slice va n vc) n ys 128 rfl rfl HOw.out (by omega) hbs ?_; intro v' w' hown' u'; have R' := Lib.hid hown'; have U' := Lib.hid u'; clear hown' u')
          go_roundw
          case rel => exact ⟨k + 1, by omega, by go_num, by rw [HTl.out, HT.out]; exact R'.out, upd_ge ((upd_ge' HU.out w.heap.size).trans U'.out (fun _ _ h => h))⟩
          case measure => simp [intOf]; omega
      · obtain rfl : k = L := by omega
        go_wp2_with fail
        go_ret2
        exact ⟨_, _, _, rfl, HOw.out, HU.out⟩
set_option maxRecDepth 100000 in
set_option maxHeartbeats 4000000 in
theorem rLayout_any (v : Value) (fs : List Bool) (w : World) (h : Bls w v fs) : Calls Try.prog 25 #[v] w (EInts w (loS fs) (loE fs)) := by
  obtain ⟨a, cap, rfl⟩ := h.form
  have H := Lib.hid h
  have hlb := h.1
  obtain ⟨L, hL⟩ : ∃ L, fs.length = L := ⟨_, rfl⟩
  have HL := Lib.hid hL
  rw [hL] at H hlb ⊢
  clear h hL
  by_cases h1 : 64 < L
  · have HS := Lib.hid (show loS fs = [] from if_pos (by rw [HL.out]; exact h1))
    have HE := Lib.hid (show loE fs = 2 from if_pos (by rw [HL.out]; exact h1))
    rw [HS.out, HE.out]
    have t1 : decide ((64 : Int) < (L : Int)) = true := decide_eq_true (by omega)
    clear h1 hlb
    go_enter Try.func25, Try.ntmps25
    go_wp2_with fail
    go_ret2
    exact ⟨none, 0, 0, rfl, World.ownsRow_nil _ _ _ _, Upd.refl _ _⟩
  · have HS := Lib.hid (show loS fs = loL fs L by unfold loS; rw [if_neg (by rw [HL.out]; exact h1), HL.out])
    have HE := Lib.hid (show loE fs = 0 from if_neg (by rw [HL.out]; exact h1))
    rw [HS.out, HE.out]
    have t1 : decide ((64 : Int) < (L : Int)) = false := decide_eq_false (by omega)
    have hl : L ≤ 64 := by omega
    clear h1 hlb
    go_enter Try.func25, Try.ntmps25
    go_wp2_with fail
    go_loopw [4, 12] (fun v i wr => ∃ k : Nat, k ≤ L ∧ i = .int .i64 k ∧ wr.ownsRow w.heap.size 3 1 v (loL fs k).length (i64s (loL fs k)) ∧ Upd NoB w wr) (fun _ i _ => L - (intOf i).toNat)
    case atStart => exact ⟨0, Nat.zero_le _, rfl, World.ownsRow_nil _ _ _ _, Upd.refl _ _⟩
    case round =>
      obtain ⟨k, hk, rfl, hown, hu⟩ := hrel
      have HOw := Lib.hid hown; have HU := Lib.hid hu
      by_cases hlt : k < L
      · obtain ⟨x, hx⟩ : ∃ x, fs[k]? = some x := ⟨_, List.getElem?_eq_getElem (by rw [HL.out]; exact hlt)⟩
        obtain ⟨b, off, rfl, c0⟩ := (H.out.later HU.out).cellAt hx
        have HT := Lib.hid (loL_succ hx)
        have hle := loL_len fs k
        have hbs := HU.out.size
        have HTl := Lib.hid (show (loL fs (k + 1)).length = (loL fs k).length + (loO x).length by rw [HT.out, List.length_append])
        generalize loL fs k = ys at *
        obtain ⟨n, hn⟩ : ∃ n, ys.length = n := ⟨_, rfl⟩
        rw [hn] at HOw HTl hle hown
        obtain ⟨va, vc, rfl⟩ := row_form hown
        clear hx hn hown hu
        cases x with
        | true =>
          obtain ⟨wo, rfl⟩ : ∃ wo : World, wo = wr := ⟨_, rfl⟩
          go_wp2_with fail
          go_loopw [4, 21] (fun v i wr => ∃ t : Nat, t ≤ 8 ∧ i = .int .i64 t ∧ wr.ownsRow w.heap.size 3 1 v (n + t) (i64s (ys ++ List.replicate t 16)) ∧ Upd NoB w wr) (fun _ i _ => 8 - (intOf i).toNat)
          case atStart => exact ⟨0, Nat.zero_le _, rfl, by rw [List.replicate_zero, List.append_nil]; exact HOw.out, HU.out⟩
          case round =>
            obtain ⟨t, ht, rfl, hown2, hu2⟩ := hrel
            obtain ⟨va2, vc2, rfl⟩ := row_form hown2
            have HO2 := Lib.hid hown2; have HU2 := Lib.hid hu2
            have hb2 := hu2.size
            clear hown2 hu2
            by_cases hlt2 : t < 8
            · have HRt := Lib.hid (show ys ++ List.replicate (t + 1) 16 = (ys ++ List.replicate t 16) ++ [(16 : Int)] by rw [List.replicate_succ', List.append_assoc])
              generalize ys ++ List.replicate t 16 = zs at *
              obtain ⟨nt, hnt⟩ : ∃ nt, n + t = nt := ⟨_, rfl⟩
              have HNt := Lib.hid (show n + (t + 1) = nt + 1 by omega)
              rw [hnt] at HO2 ⊢
              have hnt6 : nt ≤ 1000000 := by omega
              clear hnt
              go_wp2_with (at_builtin; refine wpList_push rfl (.tmp 23) (.tmp 24) rfl w.heap.size (.slice va2 nt vc2) nt zs 16 rfl rfl HO2.out hnt6 hb2 ?_; intro v' w' hown' u'; have R' := Lib.hid hown'; have U' := Lib.hid u'; clear hown' u')
              go_roundw
              case rel => exact ⟨t + 1, by omega, by go_num, by rw [HNt.out, HRt.out]; exact R'.out, upd_ge ((upd_ge' HU2.out w.heap.size).trans U'.out (fun _ _ h => h))⟩
              case measure => simp [intOf]; omega
            · obtain rfl : t = 8 := by omega
              go_wp2_with fail
              go_roundw
              case rel => exact ⟨k + 1, by omega, by go_num, by rw [HTl.out, HT.out]; exact HO2.out, HU2.out⟩
              case measure => simp [intOf]; omega
        | false =>
          go_wp2_with (at_builtin; refine wpList_push rfl (.tmp 18) (.tmp 19) rfl w.heap.size (.slice va n vc) n ys 128 rfl rfl HOw.out (by omega) hbs ?_; intro v' w' hown' u'; have R' := Lib.hid hown'; have U' := Lib.hid u'; clear hown' u')
          go_roundw
          case rel => exact ⟨k + 1, by omega, by go_num, by rw [HTl.out, HT.out]; exact R'.out, upd_ge ((upd_ge' HU.out w.heap.size).trans U'.out (fun _ _ h => h))⟩
          case measure => simp [intOf]; omega
      · obtain ⟨va, vc, rfl⟩ := row_form hown
        clear hown hu
        obtain rfl : k = L := by omega
        go_wp2_with fail
        go_ret2
        exact ⟨_, _, _, rfl, HOw.out, HU.out⟩
end Go.Proofs.Ytmkbpocibpjjaaa
