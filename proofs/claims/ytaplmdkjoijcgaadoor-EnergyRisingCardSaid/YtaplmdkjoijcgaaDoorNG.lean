/- bands: spans -/
import Derived.Test.YtaplmdkjoijcgaaDoorNF
namespace Go.Proofs.YtaplmdkjoijcgaaDoor
open Go.RowKit Go.Shelf

theorem Tryd.infoSpan : (Tryd.prog.info? 66).map (fun i => (i.zero, i.size, i.bytes)) = some (some (.agg #[.int .i64 0, .int .i64 0]), 2, 16) := by kernel_rfl
/-- the cells of the first k spans -/
def spC (ws : List Int) (k : Nat) : List Value := (List.range k).flatMap fun j => [Value.int .i64 (spT ws j), .int .i64 (spT ws (j + 1))]
theorem spC_succ (ws : List Int) (k : Nat) : spC ws (k + 1) = spC ws k ++ [Value.int .i64 (spT ws k), .int .i64 (spT ws (k + 1))] := by
  unfold spC; rw [List.range_succ, List.flatMap_append]; simp
theorem spT_bd {ws : List Int} (h : ∀ x ∈ ws, 0 ≤ x ∧ x ≤ 200) : ∀ k : Nat, 0 ≤ spT ws k ∧ spT ws k ≤ 200 * (k : Int)
  | 0 => by simp [spT]
  | k + 1 => by
    have ih := spT_bd h k
    cases e : ws[k]? with
    | none =>
      have : spT ws (k + 1) = spT ws k := by unfold spT; rw [List.take_add_one, e]; simp
      rw [this]; omega
    | some x =>
      have := h x (List.mem_of_getElem? e)
      rw [spT_succ e]; omega
theorem wpList_pushS {w : World} {ops : Array Oper} {rest : List Oper} {o : Oper} {a : Act} {Q : Exit → Act → World → Prop} (hgd : o.guard = none) (s x : Operand)
    (ho : o.op = .call { callee := .builtin .append, args := #[s, x], argTypes := #[64, 64] }) (B : Nat) (v : Value) (n : Nat) (cs : List Value) (y z : Int) (hs : a.eval s = v) (hx : a.eval x = .slice (some ⟨w.heap.size, 0, none⟩) 1 1)
    (hown : w.ownsRow B 66 2 v n cs) (hn : n ≤ 1000000) (hB : B ≤ w.heap.size)
    (hK : ∀ v' w', w'.ownsRow B 66 2 v' (n + 1) (cs ++ [Value.int .i64 y, .int .i64 z]) → Upd (fun k => B ≤ k) w w' → wpList Tryd.prog ops Q rest (a.put o.dst v') w') : wpList Tryd.prog ops Q (o :: rest) a (w.alloc (.cells #[.int .i64 y, .int .i64 z] 66)) := by
  obtain ⟨i0, hi, hz0, hz1, hz2⟩ := info_parts Tryd.infoSpan
  have u : Upd NoB w (w.alloc (.cells #[.int .i64 y, .int .i64 z] 66)) := (Upd.refl _ _).alloc _
  refine wpList_append_own (w := w.alloc (.cells #[.int .i64 y, .int .i64 z] 66)) hgd s x 64 ho B 66 i0 (.agg #[.int .i64 0, .int .i64 0]) 2 16 Tryd.underlying64 hi hz0 hz1 hz2 rfl (by decide) v n cs hs (u.row hown (fun k _ => noB k)) ⟨w.heap.size, 0, none⟩ 1 1 [.int .i64 y, .int .i64 z] hx rfl (World.news_of_block (heap_alloc_new w _)) (by
    intro u hu
    rcases List.mem_cons.1 hu with rfl | hu
    · rfl
    · rw [List.mem_singleton] at hu; subst hu; rfl) (by unfold maxLen; omega) (by omega) (Nat.le_trans hB u.size) ?_
  intro v' w' hown' hgr _
  exact hK v' w' hown' (((u.mono (T := fun k => B ≤ k) (fun _ _ h => h.elim))).grown hgr (fun k hk _ => (hown.lt k hk).1))
set_option maxRecDepth 100000 in
set_option maxHeartbeats 2000000 in
theorem spans_any (v : Value) (ws : List Int) (w : World) (h : Ints w v ws) (hl : ws.length ≤ 1000) (hb : ∀ x ∈ ws, 0 ≤ x ∧ x ≤ 200) :
    Calls Tryd.prog 60 #[v] w fun e w' => ∃ v', e = .returned v' ∧ w'.ownsRow w.heap.size 66 2 v' ws.length (spC ws ws.length) ∧ Upd NoB w w' := by
  obtain ⟨a, cap, rfl⟩ := h.form
  have H := Lib.hid h
  have BD := Lib.hid (fun k => spT_bd hb k); have HB := Lib.hid hb
  obtain ⟨L, hL⟩ : ∃ L, ws.length = L := ⟨_, rfl⟩
  have HL := Lib.hid hL
  rw [hL] at H hl ⊢
  clear h hL hb
  go_enter Tryd.func60, Tryd.ntmps60
  go_wp2_with fail
  go_loopw [3, 4, 9] (fun v f i wr => ∃ k : Nat, k ≤ L ∧ i = .int .i64 k ∧ f = .int .i64 (spT ws k) ∧ wr.ownsRow w.heap.size 66 2 v k (spC ws k) ∧ Upd NoB w wr) (fun _ _ i _ => L - (intOf i).toNat)
  case atStart => exact ⟨0, Nat.zero_le _, rfl, rfl, World.ownsRow_nil _ _ _ _, Upd.refl _ _⟩
  case round =>
    obtain ⟨k, hk, rfl, rfl, hown, hu⟩ := hrel
    obtain ⟨va, vc, rfl⟩ := row_form hown
    have HOw := Lib.hid hown; have HU := Lib.hid hu
    have hbs := hu.size
    by_cases hlt : k < L
    · obtain ⟨x, hx⟩ : ∃ x, ws[k]? = some x := ⟨_, List.getElem?_eq_getElem (by rw [HL.out]; exact hlt)⟩
      obtain ⟨b, off, rfl, c0⟩ := (H.out.later hu).cellAt hx
      obtain ⟨x0, x8⟩ := HB.out x (List.mem_of_getElem? hx)
      obtain ⟨f0, f8⟩ := BD.out k
      have HS := Lib.hid (spT_succ hx)
      have HC := Lib.hid (spC_succ ws k)
      rw [HS.out] at HC
      generalize spT ws k = f at *
      generalize spC ws k = cs at *
      clear hx hown hu
      go_wp2_with (at_builtin; refine wpList_pushS rfl (.tmp 13) (.tmp 19) rfl w.heap.size (.slice va k vc) k cs f (f + x) rfl rfl HOw.out (by omega) hbs ?_; intro v' w' hown' u'; have R' := Lib.hid hown'; have U' := Lib.hid u'; clear hown' u')
      go_roundw
      case rel => exact ⟨k + 1, by omega, by go_num, by rw [HS.out], by rw [HC.out]; exact R'.out, upd_ge ((upd_ge' HU.out w.heap.size).trans U'.out (fun _ _ h => h))⟩
      case measure => simp [intOf]; omega
    · obtain rfl : k = L := by omega
      clear hown hu
      go_wp2_with fail
      go_ret
      exact ⟨_, rfl, HOw.out, HU.out⟩
end Go.Proofs.YtaplmdkjoijcgaaDoor
