/- block: Attacks -/
import Derived.Test.YtmkbpocibpjjaaaLG
namespace Go.Proofs.Ytmkbpocibpjjaaa
open Go.RowKit Go.Shelf

theorem wpList_push {w : World} {ops : Array Oper} {rest : List Oper} {o : Oper} {a : Act} {Q : Exit → Act → World → Prop} (hgd : o.guard = none) (s x : Operand)
    (ho : o.op = .call { callee := .builtin .append, args := #[s, x], argTypes := #[22, 22] }) (B : Nat) (v : Value) (n : Nat) (xs : List Int) (y : Int) (hs : a.eval s = v) (hx : a.eval x = .slice (some ⟨w.heap.size, 0, none⟩) 1 1)
    (hown : w.ownsRow B 3 1 v n (i64s xs)) (hn : n ≤ 1000000) (hB : B ≤ w.heap.size)
    (hK : ∀ v' w', w'.ownsRow B 3 1 v' (n + 1) (i64s (xs ++ [y])) → Upd (fun k => B ≤ k) w w' → wpList Try.prog ops Q rest (a.put o.dst v') w') : wpList Try.prog ops Q (o :: rest) a (w.alloc (.cells #[.int .i64 y] 3)) := by
  obtain ⟨i0, hi, hz0, hz1, hz2⟩ := info_parts Try.infoInt
  have u : Upd NoB w (w.alloc (.cells #[.int .i64 y] 3)) := (Upd.refl _ _).alloc _
  refine wpList_append_own (w := w.alloc (.cells #[.int .i64 y] 3)) hgd s x 22 ho B 3 i0 (.int .i64 0) 1 8 Try.underlying22 hi hz0 hz1 hz2 rfl (by decide) v n (i64s xs) hs (u.row hown (fun k _ => noB k)) ⟨w.heap.size, 0, none⟩ 1 1 [.int .i64 y] hx rfl (World.news_of_block (heap_alloc_new w _)) (by intro u hu; rw [List.mem_singleton] at hu; subst hu; rfl) (by unfold maxLen; omega) (by omega) (Nat.le_trans hB u.size) ?_
  intro v' w' hown' hgr _
  refine hK v' w' (by rw [i64s_append]; exact hown') ?_
  exact ((u.mono (T := fun k => B ≤ k) (fun _ _ h => h.elim))).grown hgr (fun k hk _ => (hown.lt k hk).1)
theorem upd_ge {w w' : World} (h : Upd (fun k => w.heap.size ≤ k) w w') : Upd NoB w w' := h.mono (fun k hk h => by omega)
theorem upd_ge' {w w' : World} (h : Upd NoB w w') (B : Nat) : Upd (fun k => B ≤ k) w w' := h.mono (fun _ _ h => h.elim)
theorem ens_ok {xs : List Int} (h : ckE xs = 0) : okE (ens xs) := by
  obtain ⟨h1, h2, h3⟩ := ckE_ok h
  refine ⟨by rw [ens_length]; omega, fun k x hx => ?_⟩
  unfold ens at hx
  rw [List.getElem?_map] at hx
  cases hr : (List.range (xs.length / 16))[k]? with
  | none => rw [hr] at hx; cases hx
  | some i =>
    rw [hr] at hx
    cases hx
    have := enT_bound h3 i 16
    unfold en
    omega
/-- the parts at which an attack is, of the first n -/
def attL (es : List Int) (n : Nat) : List Int := ((List.range n).filter (attB es)).map fun (k : Nat) => (k : Int)
theorem attL_yes {es : List Int} {k : Nat} (h : attB es k = true) : attL es (k + 1) = attL es k ++ [(k : Int)] := by simp [attL, List.range_succ, h]
theorem attL_no {es : List Int} {k : Nat} (h : attB es k = false) : attL es (k + 1) = attL es k := by simp [attL, List.range_succ, h]
theorem attL_le (es : List Int) (n : Nat) : (attL es n).length ≤ n := by
  have := List.length_filter_le (attB es) (List.range n)
  simpa [attL] using this
def atS (xs : List Int) : List Int := if ckE xs = 0 then attL (ens xs) (ens xs).length else []
set_option maxRecDepth 100000 in
set_option maxHeartbeats 4000000 in
theorem Attacks_any (v : Value) (xs : List Int) (w : World) (h : Ints w v xs) : Calls Try.prog 14 #[v] w (EInts w (atS xs) (ckE xs)) := by
  have HP := Lib.hid (Parts_any v xs w h)
  obtain ⟨xa, cap, rfl⟩ := h.form
  by_cases h0 : ckE xs = 0
  · have HO := Lib.hid (ens_ok h0)
    have HS := Lib.hid (show atS xs = attL (ens xs) (ens xs).length from if_pos h0)
    have HPa := Lib.hid (show paS xs = ens xs from if_pos h0)
    rw [HS.out, h0]
    rw [h0, HPa.out] at HP
    generalize ens xs = es at *
    generalize xs.length = L0 at *
    clear h h0 HS HPa
    go_enter Try.func14, Try.ntmps14
    go_wp2_with fail
    refine HP.out.mono ?_
    rintro e w1 ⟨a, n, c, rfl, hr, u1⟩
    have hl5 := HO.out.1
    obtain ⟨N, hN⟩ : ∃ N, es.length = N := ⟨_, rfl⟩
    obtain ⟨a', n', c', e⟩ : ∃ a' n' c', Value.slice a n c = .slice a' n' c' := ⟨_, _, _, rfl⟩
    have hnl : n = es.length := by
      rcases hr.2 with ⟨h1, h2⟩ | ⟨g, cap', cur, h1, _⟩
      · cases h1; exact h2.symm
      · cases h1; rfl
    subst hnl
    have hx1 := Ints.ofRow hr (by omega)
    obtain ⟨W, hW⟩ : ∃ W, W = w1.alloc (.cells #[.slice a es.length c] 22) := ⟨_, rfl⟩
    have uW : Upd NoB w1 W := by rw [hW]; exact (Upd.refl _ _).alloc _
    have bw : W.heap[w1.heap.size]? = some (.cells #[.slice a es.length c] 22 (0, 0)) := by rw [hW]; exact heap_alloc_new w1 _
    have HW := Lib.hid hW; have U1 := Lib.hid u1; have UW := Lib.hid (u1.then uW)
    have HAt := Lib.hid (fun (k : Nat) (hk : k < es.length) (w' : World) (u : Upd NoB W w') => attack1_any w1.heap.size (.slice a es.length c) es k w' (u.cell (blk_cell bw 0) (noB _)) ((hx1.later uW).later u) HO.out hk)
    have HN := Lib.hid hN
    rw [hN] at HAt hl5 HW ⊢
    clear hr u1 hN hx1 hW uW bw e
    go_wp2_with (go_at_call 43; refine (attacksIn_any _ _ ⟨_, _, _, rfl⟩).mono ?_; rintro e w' ⟨rfl, rfl⟩; rw [← HW.out])
    go_loopw [6, 8, 21] (fun v _ i wr => ∃ k : Nat, k ≤ N ∧ i = .int .i64 k ∧ wr.ownsRow W.heap.size 3 1 v (attL es k).length (i64s (attL es k)) ∧ Upd NoB W wr) (fun _ _ i _ => N - (intOf i).toNat)
    case atStart => exact ⟨0, Nat.zero_le _, rfl, World.ownsRow_nil _ _ _ _, Upd.refl _ _⟩
    case round =>
      obtain ⟨k, hk, rfl, hown, hu⟩ := hrel
      obtain ⟨va, vc, rfl⟩ := row_form hown
      have HOw := Lib.hid hown; have HU := Lib.hid hu
      clear hown hu
      by_cases hlt : k < N
      · have HK := Lib.hid (HAt.out k hlt wr HU.out)
        have hle := attL_le es k
        have hsW := HU.out.size
        cases hb : attB es k with
        | true =>
          have HB := Lib.hid hb
          have HL := Lib.hid (attL_yes hb)
          have HLn := Lib.hid (show (attL es (k + 1)).length = (attL es k).length + 1 by rw [HL.out]; simp)
          generalize attL es k = ys at *
          obtain ⟨m, hm⟩ : ∃ m, ys.length = m := ⟨_, rfl⟩
          rw [hm] at HOw HLn hle ⊢
          clear hb hm
          go_wp2_with fail
          refine HK.out.mono ?_
          rw [HB.out]
          rintro e w3 ⟨rfl, u3⟩
          have U3 := Lib.hid u3; clear u3
          go_wp2_with (at_builtin; refine wpList_push rfl (.tmp 27) (.tmp 29) rfl W.heap.size (.slice va m vc) m ys (k : Int) rfl rfl (U3.out.row HOw.out (fun j _ => noB j)) (by omega) (by have := U3.out.size; omega) ?_; intro v' w' hown' u'; have R' := Lib.hid hown'; have U' := Lib.hid u'; clear hown' u')
          go_roundw
          case rel => exact ⟨k + 1, by omega, by go_num, by rw [HLn.out, HL.out]; exact R'.out, upd_ge (((upd_ge' HU.out W.heap.size).trans (upd_ge' U3.out W.heap.size) (fun _ _ h => h)).trans U'.out (fun _ _ h => h))⟩
          case measure => simp [intOf]; omega
        | false =>
          have HB := Lib.hid hb
          have HL := Lib.hid (attL_no hb)
          clear hb
          go_wp2_with fail
          refine HK.out.mono ?_
          rw [HB.out]
          rintro e w3 ⟨rfl, u3⟩
          have U3 := Lib.hid u3; clear u3
          go_wp2_with fail
          go_roundw
          case rel => exact ⟨k + 1, by omega, by go_num, by rw [HL.out]; exact U3.out.row HOw.out (fun j _ => noB j), HU.out.then U3.out⟩
          case measure => simp [intOf]; omega
      · obtain rfl : k = N := by omega
        go_wp2_with fail
        go_ret2
        exact ⟨_, _, _, rfl, by rw [HN.out]; exact row_base HOw.out (UW.out.size), UW.out.then HU.out⟩
  · have HS := Lib.hid (show atS xs = [] from if_neg h0)
    have t : (ckE xs != 0) = true := by simpa using h0
    rw [HS.out]
    have HPa := Lib.hid (show paS xs = [] from if_neg h0)
    rw [HPa.out] at HP
    generalize ckE xs = E at *
    clear h h0
    go_enter Try.func14, Try.ntmps14
    go_wp2_with fail
    refine HP.out.mono ?_
    rintro e w1 ⟨a, n, c, rfl, hr, u1⟩
    have U1 := Lib.hid u1; clear u1 hr
    go_wp2_with fail
    go_ret2
    exact ⟨none, 0, 0, rfl, World.ownsRow_nil _ _ _ _, U1.out⟩
end Go.Proofs.Ytmkbpocibpjjaaa
