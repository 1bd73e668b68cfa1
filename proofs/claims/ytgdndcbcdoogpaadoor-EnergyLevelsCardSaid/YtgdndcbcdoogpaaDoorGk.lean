/- energy: the greatest; the tone of a band | energy: the coefficients of each band -/
import Derived.Test.YtgdndcbcdoogpaaDoorGj
import Derived.Deep.RegionHeld3
import Derived.Lib.MinMax
namespace Go.Proofs.YtgdndcbcdoogpaaDoor
open Go.RowKit Go.Shelf

def mxL (a : Int) (xs : List Int) : Int := xs.foldl max a
theorem mxL_take {a : Int} {xs : List Int} {k : Nat} {x : Int} (h : xs[k]? = some x) : mxL a (xs.take (k + 1)) = max (mxL a (xs.take k)) x := by
  unfold mxL
  rw [List.take_add_one, h, List.foldl_append]; rfl
set_option maxRecDepth 100000 in
set_option maxHeartbeats 2000000 in
theorem greatest_any (a : Int) (sv : Value) (xs : List Int) (w : World) (h : Ints w sv xs) : Calls Tryd.prog 93 #[.int .i64 a, sv] w fun r w' => r = .returned (.int .i64 (mxL a xs)) ∧ w = w' := by
  obtain ⟨xa, cap, rfl⟩ := h.form
  have hlb := h.1
  have H := Lib.hid h
  have HE := Lib.hid (show mxL a (xs.take xs.length) = mxL a xs by rw [List.take_length])
  have H0 := Lib.hid (show mxL a (xs.take 0) = a from rfl)
  obtain ⟨L, hL⟩ : ∃ L, xs.length = L := ⟨_, rfl⟩
  have HL := Lib.hid hL
  rw [hL] at H hlb HE ⊢
  clear h hL
  go_enter Tryd.func93, Tryd.ntmps93
  go_wp2_with fail
  go_loop [0, 9] (fun s i => ∃ k : Nat, k ≤ L ∧ i = .int .i64 k ∧ s = .int .i64 (mxL a (xs.take k))) (fun _ i => L - (intOf i).toNat)
  case atStart => exact ⟨0, Nat.zero_le _, rfl, by rw [H0.out]⟩
  case round =>
    obtain ⟨k, hk, rfl, rfl⟩ := hrel
    by_cases hlt : k < L
    · obtain ⟨x, hx⟩ : ∃ x, xs[k]? = some x := ⟨_, List.getElem?_eq_getElem (by rw [HL.out]; exact hlt)⟩
      obtain ⟨bb, off, rfl, c0⟩ := H.out.cellAt hx
      have HM := Lib.hid (mxL_take (a := a) hx)
      generalize mxL a (xs.take k) = m at *
      clear hx
      go_wp2_with fail
      go_round
      case rel => exact ⟨k + 1, by omega, by go_num, by rw [HM.out]⟩
      case measure => simp [intOf]; omega
    · obtain rfl : k = L := by omega
      rw [HE.out]
      clear hlt
      go_wp2_with fail
      go_ret
      exact ⟨rfl, rfl⟩
set_option maxRecDepth 100000 in
set_option maxHeartbeats 2000000 in
theorem meanSq_any (b : Nat) (a : Option Addr) (cap : Nat) (xs : List Int) (w : World) (hb : w.cell? ⟨b, 0, none⟩ = some (.slice a xs.length cap)) (h : Ints w (.slice a xs.length cap) xs) (hc : CoB xs) (h0 : 0 < xs.length) (hl : xs.length ≤ 300) :
    Calls Tryd.prog 91 #[.func (.func 90) #[] #[], .pointer (some ⟨b, 0, none⟩)] w fun r w' => r = .returned (.int .i64 ((sqs xs).tdiv xs.length)) ∧ Upd NoB w w' := by
  have HS := Lib.hid (fun w' (u : Upd NoB w w') => sumSq_any (.slice a xs.length cap) xs w' (h.later u) hc hl)
  obtain ⟨s0, s1⟩ := sqs_bd hc hl
  obtain ⟨L, hL⟩ : ∃ L, xs.length = L := ⟨_, rfl⟩
  rw [hL] at hb HS h0 hl ⊢
  obtain ⟨V, hV⟩ : ∃ V, (sqs xs).tdiv (L : Int) = V := ⟨_, rfl⟩
  have hVb : 0 ≤ V ∧ V ≤ 1319413953331200 := by
    rw [← hV, Int.tdiv_eq_ediv_of_nonneg s0]
    exact ⟨Int.ediv_nonneg s0 (by omega), Int.le_trans (Int.ediv_le_self _ s0) s1⟩
  generalize sqs xs = S at *
  have y0 : ¬ L = 0 := by omega
  have y1 : (((L : Nat) : Int) == 0) = false := by rw [beq_eq_false_iff_ne]; omega
  have y2 : decide (((L : Nat) : Int) = 0) = false := decide_eq_false (by omega)
  have y3 : IntKind.i64.wrap (S.tdiv (L : Int)) = V := by rw [hV]; exact IntWalk.i64_in _ (by omega)
  have y4 : wrap64 (S.tdiv (L : Int)) = V := by rw [hV]; exact IntWalk.wrap64_in _ (by omega)
  have hS0 : w.drew.cell? ⟨b, 0, none⟩ = some (.slice a L cap) := hb
  have UD := Lib.hid (Upd.refl NoB w).drew
  rw [hV]
  clear hV hL h hc
  go_enter Tryd.func91, Tryd.ntmps91
  go_wp2_with fail
  go_region_held3 (fun X => X.cell? ⟨b, 0, none⟩ = some (.slice a L cap)) (first | exact hS0) (first | (go_at_call 89; refine (HS.out _ UD.out).mono ?_; rintro r w2 ⟨rfl, rfl⟩))
  go_wp2_with fail
  go_ret
  exact ⟨rfl, UD.out⟩
set_option maxRecDepth 100000 in
set_option maxHeartbeats 2000000 in
theorem meanLv_any (b : Nat) (a : Option Addr) (cap : Nat) (xs : List Int) (w : World) (hb : w.cell? ⟨b, 0, none⟩ = some (.slice a xs.length cap)) (h : Ints w (.slice a xs.length cap) xs) (hc : CoB xs) (h0 : 0 < xs.length) (hl : xs.length ≤ 300) :
    Calls Tryd.prog 91 #[.func (.func 92) #[] #[], .pointer (some ⟨b, 0, none⟩)] w fun r w' => r = .returned (.int .i64 ((lvs xs).tdiv xs.length)) ∧ Upd NoB w w' := by
  have HS := Lib.hid (fun w' (u : Upd NoB w w') => sumLv_any (.slice a xs.length cap) xs w' (h.later u) hc hl)
  obtain ⟨s0, s1⟩ := lvs_bd hc hl
  obtain ⟨L, hL⟩ : ∃ L, xs.length = L := ⟨_, rfl⟩
  rw [hL] at hb HS h0 hl ⊢
  obtain ⟨V, hV⟩ : ∃ V, (lvs xs).tdiv (L : Int) = V := ⟨_, rfl⟩
  have hVb : 0 ≤ V ∧ V ≤ 4838400 := by
    rw [← hV, Int.tdiv_eq_ediv_of_nonneg s0]
    exact ⟨Int.ediv_nonneg s0 (by omega), Int.le_trans (Int.ediv_le_self _ s0) s1⟩
  generalize lvs xs = S at *
  have y0 : ¬ L = 0 := by omega
  have y1 : (((L : Nat) : Int) == 0) = false := by rw [beq_eq_false_iff_ne]; omega
  have y2 : decide (((L : Nat) : Int) = 0) = false := decide_eq_false (by omega)
  have y3 : IntKind.i64.wrap (S.tdiv (L : Int)) = V := by rw [hV]; exact IntWalk.i64_in _ (by omega)
  have y4 : wrap64 (S.tdiv (L : Int)) = V := by rw [hV]; exact IntWalk.wrap64_in _ (by omega)
  have hS0 : w.drew.cell? ⟨b, 0, none⟩ = some (.slice a L cap) := hb
  have HK := Lib.hid (fun w' (u : Upd NoB w w') => (u.cell hb (noB _) : w'.cell? ⟨b, 0, none⟩ = some (.slice a L cap)))
  have UD := Lib.hid (Upd.refl NoB w).drew
  rw [hV]
  clear hV hL h hc
  go_enter Tryd.func91, Tryd.ntmps91
  go_wp2_with fail
  go_region_held3 (fun X => X.cell? ⟨b, 0, none⟩ = some (.slice a L cap)) (first | exact hS0 | exact HK.out _ (by exact U2.out)) (first | (go_at_call 89; refine (HS.out _ UD.out).mono ?_; rintro r w2 ⟨rfl, u2⟩; have U2 := Lib.hid (UD.out.then u2); clear u2))
  go_wp2_with fail
  go_ret
  exact ⟨rfl, U2.out⟩
/-- the tone of a band -/
def tnD (xs : List Int) : Int := lv ((sqs xs).tdiv xs.length) - (lvs xs).tdiv xs.length
def tnV (xs : List Int) : Int := min (max 0 ((tnD xs).tdiv 8)) 255
set_option maxRecDepth 100000 in
set_option maxHeartbeats 2000000 in
theorem toneOf_any (sv : Value) (xs : List Int) (w : World) (h : Ints w sv xs) (hc : CoB xs) (h0 : 0 < xs.length) (hl : xs.length ≤ 300) : Calls Tryd.prog 74 #[sv] w fun r w' => r = .returned (.int .i64 (tnV xs)) ∧ Upd NoB w w' := by
  obtain ⟨a, cap, rfl⟩ := h.form
  obtain ⟨W, hW⟩ : ∃ W, W = w.alloc (.cells #[.slice a xs.length cap] 22) := ⟨_, rfl⟩
  have u0 : Upd NoB w W := by rw [hW]; exact (Upd.refl _ _).alloc _
  have b0 : W.cell? ⟨w.heap.size, 0, none⟩ = some (.slice a xs.length cap) := by rw [hW]; exact blk_cell (heap_alloc_new w _) 0
  have HS := Lib.hid (meanSq_any w.heap.size a cap xs W b0 (h.later u0) hc h0 hl)
  have HL := Lib.hid (fun w' (u : Upd NoB W w') => meanLv_any w.heap.size a cap xs w' (u.cell b0 (noB _)) ((h.later u0).later u) hc h0 hl)
  obtain ⟨s0, s1⟩ := sqs_bd hc hl
  obtain ⟨l0, l1⟩ := lvs_bd hc hl
  have HT := Lib.hid (show tnV xs = min (max 0 ((lv ((sqs xs).tdiv xs.length) - (lvs xs).tdiv xs.length).tdiv 8)) 255 from rfl)
  have hq : 0 ≤ (sqs xs).tdiv xs.length ∧ (sqs xs).tdiv xs.length ≤ 1319413953331200 := by
    rw [Int.tdiv_eq_ediv_of_nonneg s0]
    exact ⟨Int.ediv_nonneg s0 (by omega), Int.le_trans (Int.ediv_le_self _ s0) s1⟩
  have hm : 0 ≤ (lvs xs).tdiv xs.length ∧ (lvs xs).tdiv xs.length ≤ 4838400 := by
    rw [Int.tdiv_eq_ediv_of_nonneg l0]
    exact ⟨Int.ediv_nonneg l0 (by omega), Int.le_trans (Int.ediv_le_self _ l0) l1⟩
  generalize xs.length = L at *
  generalize (sqs xs).tdiv (L : Int) = Q at *
  generalize (lvs xs).tdiv (L : Int) = M at *
  have HLv := Lib.hid (fun w' => levelOf_any Q w' hq.1 (by omega))
  obtain ⟨v0, v1⟩ := lv_bd hq.1 (show Q ≤ 72057594037927936 by omega)
  generalize lv Q = V at *
  obtain ⟨m0, m1⟩ := hm
  obtain ⟨T, hT⟩ : ∃ T, (V - M).tdiv 8 = T := ⟨_, rfl⟩
  rw [hT] at HT
  have hTb : -4838400 ≤ T ∧ T ≤ 16128 := by
    rw [← hT]
    rcases Int.le_total 0 (V - M) with hn | hn
    · rw [Int.tdiv_eq_ediv_of_nonneg hn]; omega
    · have : (V - M).tdiv 8 = -((-(V - M)).tdiv 8) := by rw [Int.neg_tdiv, Int.neg_neg]
      rw [this, Int.tdiv_eq_ediv_of_nonneg (by omega)]; omega
  have y3 : IntKind.i64.wrap ((V - M).tdiv 8) = T := by rw [hT]; exact IntWalk.i64_in _ (by omega)
  have y4 : wrap64 ((V - M).tdiv 8) = T := by rw [hT]; exact IntWalk.wrap64_in _ (by omega)
  have HMx := Lib.hid (show mxL 0 [T] = max 0 T from rfl)
  have HW := Lib.hid hW; have U0 := Lib.hid u0
  rw [HT.out]
  clear h hc h0 hl hW u0 b0 s0 s1 l0 l1 hq hT
  go_enter Tryd.func74, Tryd.ntmps74
  go_wp2_with fail
  rw [← HW.out]
  refine HS.out.mono ?_
  rintro r w2 ⟨rfl, u2⟩
  have U2 := Lib.hid u2
  clear u2
  go_wp2_with fail
  refine (HLv.out w2).mono ?_
  rintro r w3 ⟨rfl, u3⟩
  have U3 := Lib.hid (U2.out.then u3)
  clear u3
  go_wp2_with fail
  refine (HL.out w3 U3.out).mono ?_
  rintro r w4 ⟨rfl, u4⟩
  have U4 := Lib.hid (U3.out.then u4)
  clear u4
  go_wp2_with fail
  refine (greatest_any 0 _ [T] _ (Ints.ofBlock (xs := [T]) (by simp) (heap_alloc_new w4 _))).mono ?_
  rw [HMx.out]
  rintro r w5 ⟨rfl, rfl⟩
  go_wp2_with fail
  go_ret
  exact ⟨rfl, (U0.out.then U4.out).alloc _⟩
end Go.Proofs.YtgdndcbcdoogpaaDoor

namespace Go.Proofs.YtgdndcbcdoogpaaDoor
open Go.RowKit Go.Shelf

theorem Tryd.infoSl : (Tryd.prog.info? 22).map (fun i => (i.zero, i.size, i.bytes)) = some (some (.slice none 0 0), 1, 24) := by kernel_rfl
theorem run_slice_hm (w : World) (b off n cap t : Nat) (ht : t ≤ cap) :
    (Instr.slice 22 (.slice (some ⟨b, off, none⟩) n cap) none (some (.int .i64 t)) (some (.int .i64 t))).run Tryd.prog w = .ok (.slice (some ⟨b, off, none⟩) t t) w := by
  have h1 : (0 : Int) ≤ (t : Int) ∧ (t : Int) ≤ (cap : Int) := ⟨by omega, by omega⟩
  have h2 : (0 : Int) ≤ (t : Int) ∧ (t : Int) ≤ (t : Int) := ⟨by omega, by omega⟩
  have hsz : (sizeOf 3).run Tryd.prog w = .ok 1 w := by kernel_rfl
  have hu : (underlying 22).run Tryd.prog w = .ok (.slice 3) w := by kernel_rfl
  simp [Instr.slice, Instr.sliceBounds, Instr.sliceBound, asIntOf, Sem.run_bind, Result.andThen, hu, hsz, h1, Int.toNat_natCast, ht, addr_add]
theorem wpList_pushV {w : World} {ops : Array Oper} {rest : List Oper} {o : Oper} {a : Act} {Q : Exit → Act → World → Prop} (hgd : o.guard = none) (s x : Operand)
    (ho : o.op = .call { callee := .builtin .append, args := #[s, x], argTypes := #[70, 70] }) (B : Nat) (v : Value) (n : Nat) (xs : List Value) (y : Value) (hy : y.oneCell' = true) (hs : a.eval s = v) (hx : a.eval x = .slice (some ⟨w.heap.size, 0, none⟩) 1 1)
    (hown : w.ownsRow B 22 1 v n xs) (hn : n ≤ 1000000) (hB : B ≤ w.heap.size)
    (hK : ∀ v' w', w'.ownsRow B 22 1 v' (n + 1) (xs ++ [y]) → Upd (fun k => B ≤ k) w w' → wpList Tryd.prog ops Q rest (a.put o.dst v') w') : wpList Tryd.prog ops Q (o :: rest) a (w.alloc (.cells #[y] 22)) := by
  obtain ⟨i0, hi, hz0, hz1, hz2⟩ := info_parts Tryd.infoSl
  have u : Upd NoB w (w.alloc (.cells #[y] 22)) := (Upd.refl _ _).alloc _
  refine wpList_append_own (w := w.alloc (.cells #[y] 22)) hgd s x 70 ho B 22 i0 (.slice none 0 0) 1 24 Tryd.underlying70 hi hz0 hz1 hz2 rfl (by decide) v n xs hs (u.row hown (fun k _ => noB k)) ⟨w.heap.size, 0, none⟩ 1 1 [y] hx rfl (World.news_of_block (heap_alloc_new w _)) (by intro u hu; rw [List.mem_singleton] at hu; subst hu; exact hy) (by unfold maxLen; omega) (by omega) (Nat.le_trans hB u.size) ?_
  intro v' w' hown' hgr _
  exact hK v' w' hown' (((u.mono (T := fun k => B ≤ k) (fun _ _ h => h.elim))).grown hgr (fun k hk _ => (hown.lt k hk).1))
theorem spT_le {ws : List Int} (hm : ∀ x ∈ ws, 0 ≤ x) {a : Nat} : ∀ {b : Nat}, a ≤ b → spT ws a ≤ spT ws b
  | 0, hab => by
    obtain rfl : a = 0 := by omega
    exact Int.le_refl _
  | b + 1, hab => by
    by_cases e : a = b + 1
    · rw [e]; exact Int.le_refl _
    · have ih := spT_le hm (show a ≤ b by omega)
      cases hx : ws[b]? with
      | none =>
        have : spT ws (b + 1) = spT ws b := by unfold spT; rw [List.take_add_one, hx]; simp
        omega
      | some x =>
        have := hm x (List.mem_of_getElem? hx)
        rw [spT_succ hx]; omega
/-- the parts of a list, where they have these widths -/
def ptA (ws l : List Int) (k : Nat) : List Int := (l.drop (spT ws k).toNat).take (ws.getD k 0).toNat
def ptL (ws l : List Int) : List (List Int) := (List.range ws.length).map (ptA ws l)
theorem ptL_get {ws l : List Int} {k : Nat} (h : k < ws.length) : (ptL ws l)[k]? = some (ptA ws l k) := by
  unfold ptL; rw [List.getElem?_map, List.getElem?_range h]; rfl
theorem ptL_len (ws l : List Int) : (ptL ws l).length = ws.length := by unfold ptL; simp
def spE (c : List Int) (s : Bool) (gs : List Int) : Int := if dfE c.length s gs = 0 then (if inB (-2097152) 2097152 c then 0 else 6) else dfE c.length s gs
def cutL (c : List Int) (s : Bool) (gs : List Int) : List (List Int) := ptL (bandsL s gs) (gaL (plI s gs) c)
/-- What cut answers. -/
def CRes (w : World) (ps : List (List Int)) (E : Int) (e : Ending) (w' : World) : Prop :=
  if E = 0 then ∃ a n c, e = .returned (.tuple #[.slice a n c, .int .i64 0]) ∧ Parts w' (.slice a n c) ps ∧ Upd NoB w w' else e = .returned (.tuple #[.slice none 0 0, .int .i64 E]) ∧ Upd NoB w w'
theorem dE_dfE {_n : Nat} {s : Bool} {gs : List Int} (h : isD s gs = true) : dE s gs = 0 := if_pos h
/-- the slices of the parts -/
def pvV (G : Nat) (ws : List Int) (cap : Nat → Nat) (k : Nat) : List Value := (List.range k).map fun j => Value.slice (some ⟨G, (spT ws j).toNat, none⟩) (ws.getD j 0).toNat (cap j)
theorem pvV_succ (G : Nat) (ws : List Int) (cap : Nat → Nat) (k : Nat) : pvV G ws cap (k + 1) = pvV G ws cap k ++ [Value.slice (some ⟨G, (spT ws k).toNat, none⟩) (ws.getD k 0).toNat (cap k)] := mp_succ _ k
/-- from the row of the parts to Parts -/
theorem parts_of {w : World} {B G N : Nat} {v : Value} {ws l : List Int} {cap : Nat → Nat} (hN : ws.length = N) (hN0 : 0 < N) (hr : w.ownsRow B 22 1 v N (pvV G ws cap N)) (hl : l.length = 128) (hG : ∀ j x, l[j]? = some x → w.cell? ⟨G, j, none⟩ = some (.int .i64 x))
    (hw : ∀ x ∈ ws, 1 ≤ x ∧ x ≤ 128) (hT : spT ws N = 128) (hcap : ∀ j, j < N → (ws.getD j 0).toNat ≤ cap j) : ∃ a n c, v = .slice a n c ∧ Parts w (.slice a n c) (ptL ws l) := by
  obtain ⟨b, c, rfl⟩ := row_slice hr hN0
  refine ⟨_, _, _, rfl, b, c, by rw [ptL_len, hN], fun k xs hk => ?_⟩
  have hkN : k < N := by
    have := (List.getElem?_eq_some_iff.1 hk).1
    rw [ptL_len, hN] at this; exact this
  rw [ptL_get (by omega)] at hk
  injection hk with hk
  subst hk
  obtain ⟨y, hy⟩ : ∃ y, ws[k]? = some y := ⟨_, List.getElem?_eq_getElem (by omega)⟩
  have hgd : ws.getD k 0 = y := by rw [List.getD_eq_getElem?_getD, hy]; rfl
  obtain ⟨y1, y8⟩ := hw y (List.mem_of_getElem? hy)
  have hm : ∀ x ∈ ws, 0 ≤ x := fun x hx => by have := hw x hx; omega
  have hs0 := spT_nn hm k
  have hs8 : spT ws k + y ≤ 128 := by
    have := spT_succ hy
    have h2 : spT ws (k + 1) ≤ spT ws N := spT_le hm (by omega)
    omega
  have hlen : (ptA ws l k).length = y.toNat := by
    unfold ptA
    rw [List.length_take, List.length_drop, hgd, hl]; omega
  have hrk := hr.cellAt k (by omega)
  have hv : (pvV G ws cap N)[k]? = some (Value.slice (some ⟨G, (spT ws k).toNat, none⟩) (ws.getD k 0).toNat (cap k)) := by
    unfold pvV; rw [List.getElem?_map, List.getElem?_range hkN]; rfl
  rw [hv, hgd, ← hlen] at hrk
  refine ⟨_, _, hrk, ?_⟩
  refine Ints.cutAt (spT ws k).toNat y.toNat hG (by unfold ptA; rw [hgd]) rfl ?_ (by rw [hlen]; omega)
  have := hcap k hkN
  rw [hgd] at this
  omega
set_option maxRecDepth 100000 in
set_option maxHeartbeats 4000000 in
theorem cut_any (cv : Value) (c : List Int) (s : Bool) (v : Value) (gs : List Int) (w : World) (hc : Ints w cv c) (h : Ints w v gs) (hg : Gv w) : Calls Tryd.prog 67 #[cv, .bool s, v] w (CRes w (cutL c s gs) (spE c s gs)) := by
  obtain ⟨ca, cc, rfl⟩ := hc.form
  have HW := Lib.hid (Widths_any s v gs w h hg)
  have HGa := Lib.hid (fun w' (u : Upd NoB w w') => Gather_any (.slice ca c.length cc) c s v gs w' (hc.later u) (h.later u) (hg.later u))
  have HCo := Lib.hid (fun w' (u : Upd NoB w w') => areCoef_any (.slice ca c.length cc) c w' (hc.later u))
  obtain ⟨a, cap, rfl⟩ := h.form
  cases hd : isD s gs with
  | false =>
    have HS := Lib.hid (show wdS s gs = [] ∧ dE s gs = 1 from ⟨if_neg (by rw [hd]; simp), if_neg (by rw [hd]; simp)⟩)
    have hdf : dfE c.length s gs = 1 := if_neg (by rw [hd]; simp)
    have HE := Lib.hid (show spE c s gs = 1 by unfold spE; rw [hdf, if_neg (by decide)])
    rw [HS.out.1, HS.out.2] at HW
    rw [HE.out]
    generalize c.length = n at *
    generalize gs.length = L at *
    clear h hc hg hd hdf
    go_enter Tryd.func67, Tryd.ntmps67
    go_wp2_with fail
    refine HW.out.mono ?_
    rintro e w1 ⟨a1, n1, c1, rfl, r1, u1⟩
    have U1 := Lib.hid u1
    clear r1 u1
    go_wp2_with fail
    go_ret2
    unfold CRes
    rw [if_neg (by decide)]
    exact ⟨rfl, U1.out⟩
  | true =>
    have HS := Lib.hid (show wdS s gs = bandsL s gs ∧ dE s gs = 0 from ⟨if_pos hd, if_pos hd⟩)
    rw [HS.out.1, HS.out.2] at HW
    by_cases hn : c.length = 128
    · have hdf : dfE c.length s gs = 0 := (if_pos hd).trans (if_pos hn)
      have HE0 := Lib.hid (show spE c s gs = if inB (-2097152) 2097152 c then 0 else 6 from if_pos hdf)
      have HGs := Lib.hid (show gaS c s gs = gaL (plI s gs) c ∧ dfE c.length s gs = 0 from ⟨if_pos hdf, hdf⟩)
      have HBl := Lib.hid (ctN_bands s gs)
      have HBd := Lib.hid (show (∀ x ∈ bandsL s gs, 1 ≤ x ∧ x ≤ 128) ∧ spT (bandsL s gs) (ctN s gs) = 128 from by
        have := by_divs (p := fun s gs => decide ((bandsL s gs).all (fun x => decide (1 ≤ x ∧ x ≤ 128)) = true ∧ spT (bandsL s gs) (ctN s gs) = 128)) (by decide +kernel) hd
        have := of_decide_eq_true this
        exact ⟨fun x hx => of_decide_eq_true (List.all_eq_true.1 this.1 x hx), this.2⟩)
      have hcp := ctN_pos hd
      have hc8 := ctN_le hd
      have HLg := Lib.hid (show (gaL (plI s gs) c).length = 128 by unfold gaL; rw [List.length_map]; exact (plI_perm hd).1)
      have HCu := Lib.hid (show cutL c s gs = ptL (bandsL s gs) (gaL (plI s gs) c) from rfl)
      rw [HCu.out, HE0.out]
      generalize bandsL s gs = ws at *
      generalize ctN s gs = N at *
      generalize gaL (plI s gs) c = l at *
      obtain ⟨z, hz⟩ : ∃ z, inB (-2097152) 2097152 c = z := ⟨_, rfl⟩
      rw [hz] at HCo ⊢
      obtain ⟨E, hE⟩ : ∃ E, (if z = true then (0 : Int) else 6) = E := ⟨_, rfl⟩
      have HEz := Lib.hid hE
      rw [hE]
      generalize c.length = n at *
      generalize gs.length = L at *
      clear h hc hg hd hdf hn hz hE
      go_enter Tryd.func67, Tryd.ntmps67
      go_wp2_with fail
      refine HW.out.mono ?_
      rintro e w1 ⟨a1, n1, c1, rfl, r1, u1⟩
      rw [HBl.out] at r1
      obtain rfl := (by have := row_form r1; obtain ⟨_, _, e⟩ := this; injection e : n1 = N)
      have IW := Lib.hid (show Ints w1 (.slice a1 n1 c1) ws from Ints.ofRow (xs := ws) (by rw [HBl.out]; exact r1) (by rw [HBl.out]; omega)); have U1 := Lib.hid u1
      clear r1 u1
      go_wp2_with fail
      refine (HGa.out w1 U1.out).mono ?_
      rw [HGs.out.1, HGs.out.2]
      rintro e w2 ⟨a2, n2, c2, rfl, r2, u2⟩
      rw [HLg.out] at r2
      obtain rfl := (by have := row_form r2; obtain ⟨_, _, e⟩ := this; injection e : n2 = 128)
      obtain ⟨G, c2', e2⟩ := row_slice r2 (by decide)
      injection e2 with e4 _ e5
      subst e4; subst e5
      have hc2 := row_cap r2
      have X2 := Lib.hid (row_cells r2 HLg.out)
      have hG2 := (r2.lt G rfl).2
      have IW2 := Lib.hid (IW.out.later u2); have U2 := Lib.hid (U1.out.then u2)
      clear r2 u2 IW
      go_wp2_with fail
      refine (HCo.out w2 U2.out).mono ?_
      rintro e w3 ⟨rfl, u3⟩
      have IW3 := Lib.hid (IW2.out.later u3); have U3 := Lib.hid (U2.out.then u3)
      have X3 := Lib.hid (show ∀ j x, l[j]? = some x → w3.cell? ⟨G, j, none⟩ = some (.int .i64 x) from fun j x hx => u3.cell (X2.out j x hx) (noB _))
      have hG3 : G < w3.heap.size := Nat.lt_of_lt_of_le hG2 u3.size
      clear u3 IW2 X2
      cases z with
      | false =>
        go_wp2_with fail
        go_ret2
        unfold CRes
        rw [← HEz.out]
        rw [if_neg (by decide)]
        exact ⟨rfl, U3.out⟩
      | true =>
        go_wp2_with fail
        go_loopw [10, 11, 38] (fun lf v i wr => ∃ k : Nat, k ≤ n1 ∧ i = .int .i64 k ∧ (∃ (f : Nat) (al : Option Addr), spT ws k = (f : Int) ∧ lf = .slice al (128 - f) (c2 - f) ∧ (k < n1 → al = some ⟨G, f, none⟩)) ∧ wr.ownsRow w3.heap.size 22 1 v k (pvV G ws (fun j => (ws.getD j 0).toNat) k) ∧ Upd NoB w3 wr) (fun _ _ i _ => n1 - (intOf i).toNat)
        case atStart => exact ⟨0, Nat.zero_le _, rfl, ⟨0, _, rfl, rfl, fun _ => rfl⟩, World.ownsRow_nil _ _ _ _, Upd.refl _ _⟩
        case round =>
          obtain ⟨k, hk, rfl, ⟨f, al, hf, rfl, hal⟩, hown, hu⟩ := hrel
          obtain ⟨va, vc, rfl⟩ := row_form hown
          have HOw := Lib.hid hown; have HU := Lib.hid hu
          have hbs := hu.size
          by_cases hlt : k < n1
          · obtain ⟨x, hx⟩ : ∃ x, ws[k]? = some x := ⟨_, List.getElem?_eq_getElem (by rw [HBl.out]; exact hlt)⟩
            obtain ⟨x1, x8⟩ := HBd.out.1 x (List.mem_of_getElem? hx)
            obtain ⟨bb, off, rfl, c0⟩ := (IW3.out.later hu).cellAt hx
            obtain ⟨xn, rfl⟩ := Int.eq_ofNat_of_zero_le (show 0 ≤ x by omega)
            have hgd : ws.getD k 0 = (xn : Int) := by rw [List.getD_eq_getElem?_getD, hx]; rfl
            have hs1 := spT_succ hx
            have hle : (f : Int) + xn ≤ 128 := by
              have h9 : spT ws (k + 1) ≤ spT ws n1 := spT_le (fun x hx => by have := HBd.out.1 x hx; omega) (by omega)
              rw [HBd.out.2, hs1, hf] at h9
              omega
            rw [hal hlt]
            have HV := Lib.hid (show pvV G ws (fun j => (ws.getD j 0).toNat) (k + 1) = pvV G ws (fun j => (ws.getD j 0).toNat) k ++ [Value.slice (some ⟨G, f, none⟩) xn xn] by
              rw [pvV_succ]
              simp only [hgd, hf, Int.toNat_natCast])
            have HNx := Lib.hid (show spT ws (k + 1) = ((f + xn : Nat) : Int) by rw [hs1, hf]; omega)
            have HSt := Lib.hid (show k + 1 < n1 → f + xn < 128 from fun h2 => by
              obtain ⟨y, hy⟩ : ∃ y, ws[k + 1]? = some y := ⟨_, List.getElem?_eq_getElem (by rw [HBl.out]; exact h2)⟩
              have hy1 := HBd.out.1 y (List.mem_of_getElem? hy)
              have hs2 := spT_succ hy
              have h9 : spT ws (k + 1 + 1) ≤ spT ws n1 := spT_le (fun x hx => by have := HBd.out.1 x hx; omega) (by omega)
              rw [HBd.out.2, hs2, hs1, hf] at h9
              omega)
            generalize pvV G ws (fun j => (ws.getD j 0).toNat) k = vs at *
            have hsl := fun w => run_slice_hm w G f (128 - f) (c2 - f) xn (by omega)
            have hlo := fun w => run_slice_lo w (some ⟨G, f, none⟩) (128 - f) (c2 - f) xn (by omega) (by omega)
            obtain ⟨al2, hal2⟩ : ∃ al2, (if c2 - f = xn then (some ⟨G, f, none⟩ : Option Addr) else (some ⟨G, f, none⟩ : Option Addr).map (fun p => p.add (xn * 1))) = al2 := ⟨_, rfl⟩
            have HAl := Lib.hid (show f + xn < 128 → al2 = some ⟨G, f + xn, none⟩ from fun h2 => by
              rw [← hal2, if_neg (by omega), Option.map_some, addr_add, Nat.mul_one])
            rw [hal2, show 128 - f - xn = 128 - (f + xn) by omega, show c2 - f - xn = c2 - (f + xn) by omega] at hlo
            have hx8 : xn ≤ 128 := by omega
            clear hx hs1 hle hgd hown hu hal2 hf hal x1 x8
            go_wp2_with (at_builtin; refine wpList_pushV rfl (.tmp 42) (.tmp 47) rfl w3.heap.size (.slice va k vc) k vs (.slice (some ⟨G, f, none⟩) xn xn) rfl rfl rfl HOw.out (by omega) hbs ?_; intro v' w' hown' u'; have R' := Lib.hid hown'; have U' := Lib.hid u'; clear hown' u')
            go_roundw
            case rel => exact ⟨k + 1, by omega, by go_num, ⟨f + xn, al2, HNx.out, rfl, fun h2 => HAl.out (HSt.out h2)⟩, by rw [HV.out]; exact R'.out, upd_ge ((upd_ge' HU.out w3.heap.size).trans U'.out (fun _ _ h => h))⟩
            case measure => simp [intOf]; omega
          · obtain rfl : k = n1 := by omega
            have hP := parts_of HBl.out hcp HOw.out HLg.out (fun j x hx => HU.out.cell (X3.out j x hx) (noB _)) HBd.out.1 HBd.out.2 (fun j _ => Nat.le_refl _)
            obtain ⟨pa, pn, pc, e, hP⟩ := hP
            cases e
            have HP := Lib.hid hP
            clear hown hu hP hf hal
            go_wp2_with fail
            go_ret2
            unfold CRes
            rw [← HEz.out]
            rw [if_pos (by decide)]
            exact ⟨_, _, _, rfl, HP.out, U3.out.then HU.out⟩
    · have hdf : dfE c.length s gs = 4 := (if_pos hd).trans (if_neg hn)
      have HE := Lib.hid (show spE c s gs = 4 by unfold spE; rw [hdf, if_neg (by decide)])
      have HGs := Lib.hid (show gaS c s gs = [] ∧ dfE c.length s gs = 4 from ⟨if_neg (by rw [hdf]; decide), hdf⟩)
      rw [HE.out]
      generalize c.length = n at *
      generalize gs.length = L at *
      clear h hc hg hd hdf hn
      go_enter Tryd.func67, Tryd.ntmps67
      go_wp2_with fail
      refine HW.out.mono ?_
      rintro e w1 ⟨a1, n1, c1, rfl, r1, u1⟩
      have U1 := Lib.hid u1
      clear r1 u1
      go_wp2_with fail
      refine (HGa.out w1 U1.out).mono ?_
      rw [HGs.out.1, HGs.out.2]
      rintro e w2 ⟨a2, n2, c2, rfl, r2, u2⟩
      have U2 := Lib.hid (U1.out.then u2)
      clear r2 u2
      go_wp2_with fail
      go_ret2
      unfold CRes
      rw [if_neg (by decide)]
      exact ⟨rfl, U2.out⟩
end Go.Proofs.YtgdndcbcdoogpaaDoor
