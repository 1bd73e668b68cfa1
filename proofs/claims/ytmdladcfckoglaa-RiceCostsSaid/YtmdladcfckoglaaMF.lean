/- the reference's writer: put, Number, unary | the reference's writer: its numbers | the calls of the reference's writer | the reference's writer: Gamma, Align, Len, Bytes | the reference's writer: Align, Len, Bytes -/
import Derived.Test.YtmdladcfckoglaaME
import Derived.Maps.AppendAt
import Derived.Deep.AppendLies
import Derived.Deep.RegionHeld3
import Derived.Laws.OwnMore
namespace Go.Proofs.Ytmdladcfckoglaa
open Go.RowKit Go.Shelf

/-- A writer of the reference: its bits, each a byte. -/
def VAt (w : World) (b : Nat) (l : List Nat) (v : Value) : Prop := w.heap[b]? = some (.cells #[v] 37 (0, 0)) ∧ Row8 w v l ∧ (∀ x ∈ l, x ≤ 1)
theorem VAt.upd {w w' : World} {b : Nat} {l : List Nat} {v : Value} (h : VAt w b l v) {S : Nat → Prop} (u : Upd S w w') (hs : ∀ k, wfoot b v k → ¬ S k) : VAt w' b l v :=
  ⟨u.heap h.1 (hs b (.inl rfl)), ⟨u.row h.2.1.1 (fun k hk => hs k (.inr hk)), h.2.1.2⟩, h.2.2⟩
def VPost (b : Nat) (v0 : Value) (w : World) (l : List Nat) (w' : World) : Prop := ∃ v, VAt w' b l v ∧ Upd (wfoot b v0) w w' ∧ newOr w v0 v
/-- What a call of a writer of the reference comes to. -/
def VRes (b : Nat) (v : Value) (w : World) (l : List Nat) (bad : Prop) (bs : List Nat) (e : Ending) (w' : World) : Prop :=
  ∃ r : Int, e = .returned (.int .i64 r) ∧ ((bad ∧ r = 1 ∧ Upd NoB w w') ∨ (¬ bad ∧ 1048576 < l.length + bs.length ∧ r = 2 ∧ Upd NoB w w') ∨ (¬ bad ∧ l.length + bs.length ≤ 1048576 ∧ r = 0 ∧ VPost b v w (l ++ bs) w'))
theorem VRes.bad {b : Nat} {v : Value} {w : World} {l : List Nat} {bad : Prop} {bs : List Nat} (h : bad) : VRes b v w l bad bs (.returned (.int .i64 1)) w := ⟨1, rfl, .inl ⟨h, rfl, Upd.refl _ _⟩⟩
theorem VRes.after {b : Nat} {v : Value} {w w1 : World} {l : List Nat} {bad : Prop} {bs : List Nat} {e : Ending} {w' : World} (u : Upd NoB w w1) (h : VRes b v w1 l bad bs e w') : VRes b v w l bad bs e w' := by
  obtain ⟨r, rfl, ⟨h1, h2, h3⟩ | ⟨h1, h0, h2, h3⟩ | ⟨h1, h0, h2, v2, h3, h4, h5⟩⟩ := h
  · exact ⟨r, rfl, .inl ⟨h1, h2, u.then h3⟩⟩
  · exact ⟨r, rfl, .inr (.inl ⟨h1, h0, h2, u.then h3⟩)⟩
  · refine ⟨r, rfl, .inr (.inr ⟨h1, h0, h2, v2, h3, ?_, fun k hk => ?_⟩)⟩
    · exact (u.mono (fun k _ hk => (noB k hk).elim)).trans h4 (fun _ _ h => h)
    · rcases h5 k hk with h | h
      · exact .inl h
      · have := u.size; exact .inr (by omega)
theorem row_form {w : World} {base : Nat} {e : TypeId} {size : Nat} {v : Value} {n : Nat} {xs : List Value} (h : w.ownsRow base e size v n xs) : ∃ a c, v = .slice a n c := by
  rcases h.2 with ⟨rfl, rfl⟩ | ⟨g, cap, cur, rfl, _⟩
  · exact ⟨none, 0, rfl⟩
  · exact ⟨_, _, rfl⟩
theorem VAt.sep {w : World} {b : Nat} {l : List Nat} {v : Value} (h : VAt w b l v) : v.ownBlock ≠ some b := row_ne h.2.1.1 h.1 (by decide)
theorem u8s_append (xs ys : List Nat) : u8s (xs ++ ys) = u8s xs ++ u8s ys := by simp [u8s]
/-- The writer behind an append and the store. -/
theorem VAt.app {w w' : World} {b : Nat} {l bs : List Nat} {v v' : Value} (h : VAt w b l v) (h01 : ∀ x ∈ bs, x ≤ 1) (hown : w'.ownsRow 0 5 1 v' (l.length + bs.length) (u8s l ++ u8s bs)) (hg : w.grownBy w' v.ownBlock) (hn : newOr w v v') :
    VPost b v w (l ++ bs) (w'.setCell ⟨b, 0, none⟩ v') := by
  have u1 : Upd (wfoot b v) w w' := (Upd.refl _ _).grown hg (fun k hk _ => .inr hk)
  have hb : w'.heap[b]? = some (.cells #[v] 37 (0, 0)) := ((Upd.refl (fun k => v.ownBlock = some k) w).grown hg (fun k hk _ => hk)).heap h.1 (fun e => h.sep e)
  have hs : v'.ownBlock ≠ some b := row_ne hown hb (by decide)
  have u2 : Upd (fun k => k = b) w' (w'.setCell ⟨b, 0, none⟩ v') := (Upd.refl _ _).setCell _ (fun _ => rfl)
  refine ⟨v', ⟨by have := block_set (i := 0) hb v'; simpa using this, ⟨?_, fun j => ?_⟩, fun x hx => ?_⟩, u1.trans u2 (fun i _ e => .inl e), hn⟩
  · rw [List.length_append, u8s_append]
    exact u2.row hown (fun k hk e => hs (by rw [hk, e]))
  · exact getD_255 (fun x hx => (List.mem_append.1 hx).elim (h.2.2 x) (h01 x)) j
  · exact (List.mem_append.1 hx).elim (h.2.2 x) (h01 x)
set_option maxRecDepth 100000 in
set_option maxHeartbeats 1000000 in
theorem vput_any (b : Nat) (l : List Nat) (v : Value) (sb so cap : Nat) (bs : List Nat) (w : World) (h : VAt w b l v) (hl : l.length ≤ 1048576) (hs : Bytes w (.slice (some ⟨sb, so, none⟩) bs.length cap) bs) (h01 : ∀ x ∈ bs, x ≤ 1) (hbl : bs.length ≤ 140737488355328) (bad : Prop) (hbad : ¬ bad) :
    Calls Try.prog 66 #[.pointer (some ⟨b, 0, none⟩), .slice (some ⟨sb, so, none⟩) bs.length cap] w fun e w' => VRes b v w l bad bs e w' := by
  obtain ⟨i0, hi, hz0, hz1, hz2⟩ := info_parts Try.info5
  obtain ⟨va, vc, rfl⟩ := row8_slice h.2.1
  have c0 : w.cell? ⟨b, 0, none⟩ = some (.slice va l.length vc) := blk_cell h.1 0
  have f0 := blk_free h.1 0
  have hcell : ∀ j u, (u8s bs)[j]? = some u → w.cell? ((⟨sb, so, none⟩ : Addr).add j) = some u := by
    obtain ⟨_, a', cap', he, _, hc⟩ := hs
    intro j u hu
    rw [u8s_get] at hu
    by_cases hj : j < bs.length
    · rw [if_pos hj] at hu
      rcases hc with hc | ⟨sb', so', hso, hc⟩
      · rw [hc] at hj; simp at hj
      · injection he with e1 e2 e3
        rw [← e1] at hso
        injection hso with hso
        cases hso
        rw [addr_add, hc j hj, hu]
    · rw [if_neg hj] at hu; cases hu
  have H := Lib.hid h; have H01 := Lib.hid h01; have Hbad := Lib.hid hbad
  have hrow := h.2.1.1
  have hone := u8s_one bs
  have hnl : (u8s bs).length = bs.length * 1 := by rw [u8s_length]; omega
  clear h hs h01 hbad
  obtain ⟨L, hL⟩ : ∃ L, L = l.length := ⟨_, rfl⟩
  obtain ⟨M, hM⟩ : ∃ M, M = bs.length := ⟨_, rfl⟩
  rw [← hL] at c0 hl hrow
  rw [← hM] at hnl hbl ⊢
  have HL := Lib.hid hL; have HM := Lib.hid hM
  clear hL hM
  by_cases hfull : 1048576 < L + M
  · have t1 : decide ((1048576 : Int) < (L : Int) + (M : Int)) = true := decide_eq_true (by omega)
    go_enter Try.func66, Try.ntmps66
    go_wp2
    go_ret
    exact ⟨2, rfl, .inr (.inl ⟨Hbad.out, by rw [← HL.out, ← HM.out]; exact hfull, rfl, Upd.refl _ _⟩)⟩
  have t1 : decide ((1048576 : Int) < (L : Int) + (M : Int)) = false := decide_eq_false (by omega)
  go_enter Try.func66, Try.ntmps66
  go_wp2_with (at_builtin; refine wpList_append_own_at w rfl _ _ 32 rfl 0 5 i0 (.int .u8 0) 1 1 Try.underlying32 hi hz0 hz1 hz2 rfl (by decide) _ L _ rfl hrow ⟨sb, so, none⟩ M cap (u8s bs) rfl hnl hcell hone ?c3 ?c4 (Nat.zero_le _) ?_)
  case c3 => unfold maxLen; omega
  case c4 => omega
  intro v' w1 hown hgr _ hnw
  obtain ⟨va', vc', rfl⟩ := row_form hown
  have hnew : newOr w (.slice va L vc) (.slice va' (L + M) vc') := fun k hk => by
    rcases hnw with h | h
    · exact .inl (by rw [← h, hk])
    · rw [h] at hk; injection hk with hk; exact .inr (by omega)
  have hb1 : w1.heap[b]? = some (.cells #[.slice va L vc] 37 (0, 0)) := by
    have := ((Upd.refl (fun k => (Value.slice va l.length vc).ownBlock = some k) w).grown (by rw [← HL.out]; exact hgr) (fun k hk _ => hk)).heap H.out.1 (fun e => H.out.sep e)
    rw [← HL.out] at this; exact this
  have f1 := blk_free hb1 0
  have d0 := blk_cell hb1 0
  have hp : VPost b (.slice va L vc) w (l ++ bs) (w1.setCell ⟨b, 0, none⟩ (.slice va' (L + M) vc')) := by
    have h0 : VAt w b l (.slice va L vc) := by have := H.out; rw [← HL.out] at this; exact this
    exact h0.app H01.out (by rw [← HL.out, ← HM.out]; exact hown) hgr hnew
  have Hp := Lib.hid hp
  clear hp hgr hnew hown hb1 c0 hnw hcell hone hnl
  go_wp2
  go_ret
  exact ⟨0, rfl, .inr (.inr ⟨Hbad.out, by rw [← HL.out, ← HM.out]; omega, rfl, by rw [← HL.out]; exact Hp.out⟩)⟩
end Go.Proofs.Ytmdladcfckoglaa

namespace Go.Proofs.Ytmdladcfckoglaa
open Go.RowKit Go.Shelf

def numF (x : Int) (n : Nat) (i : Nat) : Nat := (x / 2 ^ (n - 1 - i) % 2).toNat
theorem numBits_map (x : Int) (n : Nat) : numBits x n = (List.range n).map (numF x n) := rfl
theorem numBits_01 (x : Int) (n : Nat) : ∀ y ∈ numBits x n, y ≤ 1 := fun y hy => by
  rw [numBits_map] at hy
  obtain ⟨i, _, rfl⟩ := List.mem_map.1 hy
  unfold numF; omega
theorem vnumBits_zero (n : Nat) : numBits 0 n = List.replicate n 0 := by
  refine List.ext_getElem (by simp [numBits_length]) fun i h1 h2 => ?_
  simp [numBits_map, numF]
theorem numBits_wrap (x : Int) (n : Nat) : numBits (x + 2 ^ n) n = numBits x n := by
  rw [numBits_map, numBits_map]
  refine List.map_congr_left fun i hi => ?_
  have hi := List.mem_range.1 hi
  unfold numF
  congr 1
  obtain ⟨d, hd⟩ : ∃ d, n = (n - 1 - i) + 1 + d := ⟨n - (n - 1 - i) - 1, by omega⟩
  generalize hj : n - 1 - i = j at hd ⊢
  have e : (2 : Int) ^ n = 2 ^ j * (2 * 2 ^ d) := by rw [hd, Int.pow_add, Int.pow_succ, Int.mul_assoc]
  have hp : (2 : Int) ^ j ≠ 0 := Int.ne_of_gt (Int.pow_pos (by decide))
  rw [e, Int.add_mul_ediv_left _ _ hp]
  generalize (2 : Int) ^ d = y
  omega

set_option maxRecDepth 100000 in
set_option maxHeartbeats 1000000 in
theorem qnumber_any (x : Int) (n : Nat) (w : World) (hn : n ≤ 40) (_hx0 : -9223372036854775808 ≤ x) (_hx1 : x ≤ 9223372036854775807) :
    Calls Try.prog 102 #[.int .i64 x, .int .i64 n] w fun e w' => ∃ g c, e = .returned (.slice (some ⟨g, 0, none⟩) n c) ∧ Row8 w' (.slice (some ⟨g, 0, none⟩) n c) (numBits x n) ∧ Upd NoB w w' ∧ w.heap.size ≤ g := by
  obtain ⟨i0, hi, hz0, hz1, hz2⟩ := info_parts Try.info5
  go_enter Try.func102, Try.ntmps102
  go_wp2_with (refine wpList_make_full _ rfl _ _ 32 rfl 0 5 i0 (.int .u8 0) 1 Try.underlying32 hi hz0 hz1 .i64 .i64 _ _ n rfl rfl rfl rfl ?c1 ?c2 ?c3 ?_)
  case c1 => rw [hz2]; omega
  case c2 => unfold maxLen; omega
  case c3 => omega
  intro w1 hown hgr
  have hown : w1.ownsRow 0 5 1 (.slice (some ⟨w.heap.size, 0, none⟩) n n) n (u8s (fillTo (numF x n) n 0)) := by
    rw [fillTo_zero]
    have e := toList_madeCells_one (.int .u8 0) n
    rw [← e]
    simpa using hown
  have hu1 : Upd NoB w w1 := (Upd.refl _ _).grown hgr (fun k e => by cases e)
  have Hown := Lib.hid hown; clear hown
  clear hgr
  go_wp2
  obtain ⟨g, hg⟩ : ∃ g, g = w.heap.size := ⟨_, rfl⟩
  rw [← hg] at Hown ⊢
  have hg1 : w.heap.size ≤ g := by omega
  have Hg := Lib.hid hg; clear hg
  clear hown
  go_loopw [10] (fun i wr => ∃ k : Nat, k ≤ n ∧ i = .int .i64 k ∧ wr.ownsRow 0 5 1 (.slice (some ⟨g, 0, none⟩) n n) n (u8s (fillTo (numF x n) n k)) ∧ Upd NoB w wr) (fun i _ => n - (intOf i).toNat)
  case atStart => exact ⟨0, Nat.zero_le _, rfl, Hown.out, hu1⟩
  case round =>
    obtain ⟨k, hk, rfl, ho, hu⟩ := hrel
    by_cases hlt : k < n
    · have hgk : wr.cell? ⟨g, k, none⟩ = some (.int .u8 (fillTo (numF x n) n k)[k]! ) := by
        rw [ho.cellAt k (by omega), u8s_get, if_pos (by rw [fillTo_length]; exact hlt)]
        simp [List.getD_eq_getElem?_getD, fillTo_length, hlt]
      have hgf := ho.frozenAt k
      have hst := ho.stored k (.int .u8 (numF x n k : Nat))
      rw [fillTo_succ _ hlt] at hst
      obtain ⟨m, hm⟩ : ∃ m : Nat, m = n - 1 - k := ⟨_, rfl⟩
      have em : (n : Int) - 1 - k = (m : Int) := by omega
      obtain ⟨y, hy⟩ : ∃ y : Nat, y = numF x n k := ⟨_, rfl⟩
      have hbit : Go.bits .and .i64 (x / 2 ^ m) 1 = (y : Int) := by rw [i64_and1, hy]; unfold numF; rw [← hm]; omega
      have hy1 : y ≤ 1 := by rw [hy]; unfold numF; omega
      rw [← hy] at hst
      have hm1 : m < 64 := by omega
      have k1 : IntKind.i64.wrap ((n : Int) - 1) = (n : Int) - 1 := IntWalk.i64_in _ (by omega)
      have Hst := Lib.hid hst; clear hst
      have Ho := Lib.hid ho; clear ho
      have Hy := Lib.hid hy; clear hy
      have Hm := Lib.hid hm; clear hm
      clear k1
      go_wp2
      go_roundw
      case rel => exact ⟨k + 1, by omega, by go_num, Hst.out.1, hu.setCell _ (fun h => by exfalso; have h : g < w.heap.size := h; omega)⟩
      case measure => simp [intOf]; omega
    · obtain rfl : k = n := by omega
      rw [fillTo_all, ← numBits_map] at ho
      have Ho := Lib.hid ho; clear ho
      go_wp2
      go_ret
      refine ⟨g, k, rfl, ⟨?_, fun j => ?_⟩, hu, hg1⟩
      · rw [numBits_length]; exact Ho.out
      · exact getD_255 (numBits_01 _ _) j

def unF (n : Nat) (i : Nat) : Nat := if i = n then 1 else 0
theorem unary_bits (n : Nat) : numBits 0 n ++ numBits 1 1 = (List.range (n + 1)).map (unF n) := by
  rw [List.range_succ, List.map_append, vnumBits_zero]
  congr 1
  · refine List.ext_getElem (by simp) fun i h1 h2 => ?_
    have : i ≠ n := by simp at h1; omega
    simp [unF, this]
  · simp [unF]; decide
set_option maxRecDepth 100000 in
set_option maxHeartbeats 1000000 in
theorem qun_any (n : Nat) (w : World) (hn : n ≤ 1000) :
    Calls Try.prog 110 #[.int .i64 n] w fun e w' => ∃ g c, e = .returned (.slice (some ⟨g, 0, none⟩) (n + 1) c) ∧ Row8 w' (.slice (some ⟨g, 0, none⟩) (n + 1) c) (numBits 0 n ++ numBits 1 1) ∧ Upd NoB w w' ∧ w.heap.size ≤ g := by
  obtain ⟨i0, hi, hz0, hz1, hz2⟩ := info_parts Try.info5
  go_enter Try.func110, Try.ntmps110
  go_wp2_with (refine wpList_make_full _ rfl _ _ 32 rfl 0 5 i0 (.int .u8 0) 1 Try.underlying32 hi hz0 hz1 .i64 .i64 _ _ (n + 1) rfl rfl rfl rfl ?c1 ?c2 ?c3 ?_)
  case c1 => rw [hz2]; omega
  case c2 => unfold maxLen; omega
  case c3 => omega
  intro w1 hown hgr
  have hown : w1.ownsRow 0 5 1 (.slice (some ⟨w.heap.size, 0, none⟩) (n + 1) (n + 1)) (n + 1) (u8s (fillTo (fun _ => 0) (n + 1) 0)) := by
    rw [fillTo_zero]
    have e := toList_madeCells_one (.int .u8 0) (n + 1)
    rw [← e]
    simpa using hown
  have hu1 : Upd NoB w w1 := (Upd.refl _ _).grown hgr (fun k e => by cases e)
  have hgk : w1.cell? ⟨w.heap.size, n, none⟩ = some (.int .u8 0) := by
    rw [hown.cellAt n (by omega), u8s_get, if_pos (by rw [fillTo_length]; omega)]
    simp [List.getD_eq_getElem?_getD, fillTo]
  have hgf := hown.frozenAt n
  have hst := hown.stored n (.int .u8 (1 : Nat))
  have hl : (u8s (fillTo (fun _ => 0) (n + 1) 0)).set n (.int .u8 (1 : Nat)) = u8s ((List.range (n + 1)).map (unF n)) := by
    refine List.ext_getElem (by simp [u8s, fillTo]) fun j h1 h2 => ?_
    rw [List.getElem_set]
    simp only [u8s, fillTo, List.getElem_map, List.getElem_range, unF]
    by_cases hj : n = j
    · subst hj; simp
    · have hj2 : ¬ j = n := fun e => hj e.symm
      simp [hj, hj2]
  rw [hl, ← unary_bits] at hst
  obtain ⟨g, hg⟩ : ∃ g, g = w.heap.size := ⟨_, rfl⟩
  rw [← hg] at hst hgk hgf ⊢
  have Hst := Lib.hid hst; have Hg := Lib.hid hg
  clear hown hgr hst hl hg
  go_wp2
  go_ret
  refine ⟨g, n + 1, rfl, ⟨?_, fun j => ?_⟩, hu1.setCell _ (fun h => by exfalso; have h : g < w.heap.size := h; have := Hg.out; omega), by have := Hg.out; omega⟩
  · rw [List.length_append, numBits_length, numBits_length]; exact Hst.out.1
  · exact getD_255 (fun y hy => (List.mem_append.1 hy).elim (numBits_01 _ _ y) (numBits_01 _ _ y)) j
set_option maxRecDepth 100000 in
set_option maxHeartbeats 1000000 in
theorem of_any_at (sv : Value) (zs : List Nat) (n : Nat) (w : World) (h : Bytes w sv zs) (hn : n ≤ 8 * zs.length) (hl : zs.length ≤ 1099511627776) :
    Calls Try.prog 67 #[sv, .int .i64 n] w fun e w' => ∃ g c, e = .returned (.slice (some ⟨g, 0, none⟩) n c) ∧ Row8 w' (.slice (some ⟨g, 0, none⟩) n c) (bitsOf zs 0 n) ∧ Upd NoB w w' ∧ w.heap.size ≤ g := by
  obtain ⟨i0, hi, hz0, hz1, hz2⟩ := info_parts Try.info5
  obtain ⟨a, cap, rfl⟩ : ∃ a cap, sv = .slice a zs.length cap := by obtain ⟨_, a, cap, rfl, _⟩ := h; exact ⟨a, cap, rfl⟩
  have hlt : ∀ k, zs ≠ [] ∧ (Value.slice a zs.length cap).ownBlock = some k → k < w.heap.size := fun k hk => by obtain ⟨c, t, fr, hc⟩ := h.lt hk.1 k hk.2; exact lt_of_block hc
  have H := Lib.hid h; clear h
  have Hlt := Lib.hid hlt; clear hlt
  go_enter Try.func67, Try.ntmps67
  go_wp2_with (refine wpList_make_full _ rfl _ _ 32 rfl 0 5 i0 (.int .u8 0) 1 Try.underlying32 hi hz0 hz1 .i64 .i64 _ _ n rfl rfl rfl rfl ?c1 ?c2 ?c3 ?_)
  case c1 => rw [hz2]; omega
  case c2 => unfold maxLen; omega
  case c3 => omega
  intro w1 hown hgr
  have hown : w1.ownsRow 0 5 1 (.slice (some ⟨w.heap.size, 0, none⟩) n n) n (u8s (fillTo (bitOf zs) n 0)) := by
    rw [fillTo_zero]
    have e := toList_madeCells_one (.int .u8 0) n
    rw [← e]
    simpa using hown
  have hu1 : Upd NoB w w1 := (Upd.refl _ _).grown hgr (fun k e => by cases e)
  have Hown := Lib.hid hown; clear hown
  clear hgr
  go_wp2
  obtain ⟨g, hg⟩ : ∃ g, g = w.heap.size := ⟨_, rfl⟩
  rw [← hg] at Hown ⊢
  have hg1 : w.heap.size ≤ g := by omega
  have Hg := Lib.hid hg; clear hg
  clear hown
  go_loopw [10] (fun i wr => ∃ k : Nat, k ≤ n ∧ i = .int .i64 k ∧ wr.ownsRow 0 5 1 (.slice (some ⟨g, 0, none⟩) n n) n (u8s (fillTo (bitOf zs) n k)) ∧ Upd NoB w wr) (fun i _ => n - (intOf i).toNat)
  case atStart => exact ⟨0, Nat.zero_le _, rfl, Hown.out, hu1⟩
  case round =>
    obtain ⟨k, hk, rfl, ho, hu⟩ := hrel
    by_cases hlt : k < n
    · have hgk : wr.cell? ⟨g, k, none⟩ = some (.int .u8 (fillTo (bitOf zs) n k)[k]! ) := by
        rw [ho.cellAt k (by omega), u8s_get, if_pos (by rw [fillTo_length]; exact hlt)]
        simp [List.getD_eq_getElem?_getD, fillTo_length, hlt]
      have hgf := ho.frozenAt k
      have hst := ho.stored k (.int .u8 (bitOf zs k : Nat))
      rw [fillTo_succ _ hlt] at hst
      have hB := H.out.keep (D := fun k => zs ≠ [] ∧ (Value.slice a zs.length cap).ownBlock = some k) (hu.keepD (fun k hk => ⟨Hlt.out k hk, noB k⟩)) (fun hz k hk => ⟨hz, hk⟩)
      obtain ⟨h255, a', cap', he, _, hz⟩ := hB
      cases he
      have hz' : zs ≠ [] := by rintro rfl; simp at hn; omega
      rcases hz with hz | ⟨b, off, rfl, hz⟩
      · exact absurd hz hz'
      have hzj := hz (k / 8) (by omega)
      have hz1 := h255 (k / 8)
      have hx : bitOf zs k = zs.getD (k / 8) 0 / 2 ^ (7 - k % 8) % 2 := rfl
      have hkz : k / 8 < zs.length := by omega
      have hx1 := bitOf_le zs k
      generalize zs.getD (k / 8) 0 = z at *
      generalize bitOf zs k = x at *
      have hbit : Go.bits .and .u8 ((z : Int) / 2 ^ (7 - k % 8)) 1 = (x : Int) := and_one hz1 hx
      have Hst := Lib.hid hst; clear hst
      have Ho := Lib.hid ho; clear ho
      have Hx := Lib.hid hx; clear hx
      clear hz h255
      go_wp2
      go_roundw
      case rel => exact ⟨k + 1, by omega, by go_num, Hst.out.1, hu.setCell _ (fun h => by exfalso; have h : g < w.heap.size := h; omega)⟩
      case measure => simp [intOf]; omega
    · obtain rfl : k = n := by omega
      rw [fillTo_all, ← bitsOf_zero] at ho
      have Ho := Lib.hid ho; clear ho
      go_wp2
      go_ret
      refine ⟨g, k, rfl, ⟨?_, fun j => ?_⟩, hu, hg1⟩
      · rw [bitsOf_length]; exact Ho.out
      · exact getD_255 (bitsOf_01 _ _ _) j
end Go.Proofs.Ytmdladcfckoglaa

namespace Go.Proofs.Ytmdladcfckoglaa
open Go.RowKit Go.Shelf

theorem VAt.later {w w' : World} {b : Nat} {l : List Nat} {v : Value} (h : VAt w b l v) (u : Upd NoB w w') : VAt w' b l v := h.upd u (fun k _ => noB k)
set_option maxRecDepth 100000 in
set_option maxHeartbeats 1000000 in
theorem vPut_any (b : Nat) (l : List Nat) (v : Value) (x n : Int) (w : World) (h : VAt w b l v) (hl : l.length ≤ 1048576) :
    Calls Try.prog 82 #[.pointer (some ⟨b, 0, none⟩), .int .i64 x, .int .i64 n] w fun e w' => VRes b v w l (putBad x n) (numBits x n.toNat) e w' := by
  have H := Lib.hid h; clear h
  by_cases h1 : n < 0
  · have hb : putBad x n := fun hh => by omega
    have Hb := Lib.hid hb; clear hb
    go_enter Try.func82, Try.ntmps82
    go_wp2
    go_ret
    exact VRes.bad Hb.out
  by_cases h2 : 32 < n
  · have hb : putBad x n := fun hh => by omega
    have Hb := Lib.hid hb; clear hb
    go_enter Try.func82, Try.ntmps82
    go_wp2
    go_ret
    exact VRes.bad Hb.out
  by_cases h3 : x < 0
  · have hb : putBad x n := fun hh => by omega
    have Hb := Lib.hid hb; clear hb
    go_enter Try.func82, Try.ntmps82
    go_wp2
    go_ret
    exact VRes.bad Hb.out
  obtain ⟨m, rfl⟩ := Int.eq_ofNat_of_zero_le (show 0 ≤ n by omega)
  have hp : (2 : Int) ^ m ≤ 2 ^ 32 := by
    have := Nat.pow_le_pow_right (n := 2) (by decide) (show m ≤ 32 by omega)
    exact_mod_cast this
  have hp' : (2 : Int) ^ 32 = 4294967296 := by decide
  rw [hp'] at hp
  have h0 : (0 : Int) ≤ 2 ^ m := Int.le_of_lt (Int.pow_pos (by decide))
  by_cases h4 : x < 2 ^ m
  · have hb : ¬ putBad x m := fun hh => hh ⟨by omega, by omega, by omega, h4⟩
    have Hb := Lib.hid hb; clear hb
    have hx1 : x ≤ 9223372036854775807 := by omega
    clear hp'
    go_enter Try.func82, Try.ntmps82
    go_wp2_with fail
    refine (qnumber_any x m w (by omega) (by omega) hx1).mono ?_
    rintro e w2 ⟨g, c, rfl, r2, u2, _⟩
    have R2 := Lib.hid r2.bytes; have U2 := Lib.hid u2; clear r2 u2
    go_wp2_with fail
    have hput := vput_any b l v g 0 c (numBits x m) w2 (H.out.later U2.out) hl (by rw [numBits_length]; exact R2.out) (numBits_01 _ _) (by rw [numBits_length]; omega) _ Hb.out
    rw [numBits_length] at hput
    refine hput.mono ?_
    rintro e w3 ⟨r, rfl, hr⟩
    have Hr := Lib.hid hr; clear hr hput
    go_wp2_with fail
    go_ret
    exact VRes.after U2.out ⟨r, rfl, Hr.out⟩
  · have hb : putBad x m := fun hh => h4 hh.2.2.2
    have h4' : (2 : Int) ^ m ≤ x := by omega
    have Hb := Lib.hid hb; clear hb
    clear hp' h4
    go_enter Try.func82, Try.ntmps82
    go_wp2
    go_ret
    exact VRes.bad Hb.out

set_option maxRecDepth 100000 in
set_option maxHeartbeats 1000000 in
theorem vUnary_any (b : Nat) (l : List Nat) (v : Value) (n : Int) (w : World) (h : VAt w b l v) (hl : l.length ≤ 1048576) :
    Calls Try.prog 96 #[.pointer (some ⟨b, 0, none⟩), .int .i64 n] w fun e w' => VRes b v w l (unaryBad n) (numBits 0 n.toNat ++ numBits 1 1) e w' := by
  have H := Lib.hid h; clear h
  by_cases h1 : n < 0
  · have hb : unaryBad n := fun hh => by omega
    have Hb := Lib.hid hb; clear hb
    go_enter Try.func96, Try.ntmps96
    go_wp2
    go_ret
    exact VRes.bad Hb.out
  by_cases h2 : 1000 < n
  · have hb : unaryBad n := fun hh => by omega
    have Hb := Lib.hid hb; clear hb
    go_enter Try.func96, Try.ntmps96
    go_wp2
    go_ret
    exact VRes.bad Hb.out
  obtain ⟨m, rfl⟩ := Int.eq_ofNat_of_zero_le (show 0 ≤ n by omega)
  have hb : ¬ unaryBad (m : Int) := fun hh => hh ⟨by omega, by omega⟩
  have Hb := Lib.hid hb; clear hb
  go_enter Try.func96, Try.ntmps96
  go_wp2_with fail
  refine (qun_any m w (by omega)).mono ?_
  rintro e w2 ⟨g, c, rfl, r2, u2, _⟩
  have R2 := Lib.hid r2.bytes; have U2 := Lib.hid u2; clear r2 u2
  go_wp2_with fail
  have hln : (numBits 0 m ++ numBits 1 1).length = m + 1 := by rw [List.length_append, numBits_length, numBits_length]
  have hput := vput_any b l v g 0 c (numBits 0 m ++ numBits 1 1) w2 (H.out.later U2.out) hl (by rw [hln]; exact R2.out) (fun y hy => (List.mem_append.1 hy).elim (numBits_01 _ _ y) (numBits_01 _ _ y)) (by rw [hln]; omega) _ Hb.out
  rw [hln] at hput
  refine hput.mono ?_
  rintro e w3 ⟨r, rfl, hr⟩
  have Hr := Lib.hid hr; clear hr hput hln
  go_wp2_with fail
  go_ret
  exact VRes.after U2.out ⟨r, rfl, Hr.out⟩

set_option maxRecDepth 100000 in
set_option maxHeartbeats 1000000 in
theorem vAppend_any (b : Nat) (l : List Nat) (v : Value) (sv : Value) (zs : List Nat) (n : Int) (w : World) (h : VAt w b l v) (hl : l.length ≤ 1048576) (hs : Bytes w sv zs) (hz : zs.length ≤ 1099511627776) :
    Calls Try.prog 25 #[.pointer (some ⟨b, 0, none⟩), sv, .int .i64 n] w fun e w' => VRes b v w l (appendBad zs n) (bitsOf zs 0 n.toNat) e w' := by
  obtain ⟨a, cap, rfl⟩ : ∃ a cap, sv = .slice a zs.length cap := by obtain ⟨_, a, cap, rfl, _⟩ := hs; exact ⟨a, cap, rfl⟩
  have H := Lib.hid h; have HS := Lib.hid hs; clear h hs
  by_cases h1 : n < 0
  · have hb : appendBad zs n := fun hh => by omega
    have Hb := Lib.hid hb; clear hb
    go_enter Try.func25, Try.ntmps25
    go_wp2
    go_ret
    exact VRes.bad Hb.out
  by_cases h2 : 8 * (zs.length : Int) < n
  · have hb : appendBad zs n := fun hh => by omega
    have Hb := Lib.hid hb; clear hb
    go_enter Try.func25, Try.ntmps25
    go_wp2
    go_ret
    exact VRes.bad Hb.out
  obtain ⟨m, rfl⟩ := Int.eq_ofNat_of_zero_le (show 0 ≤ n by omega)
  have hb : ¬ appendBad zs (m : Int) := fun hh => hh ⟨by omega, by omega⟩
  have hmz : m ≤ 8 * zs.length := by omega
  have Hb := Lib.hid hb; have Hmz := Lib.hid hmz; clear hb hmz
  go_enter Try.func25, Try.ntmps25
  go_wp2_with fail
  refine (of_any_at _ zs m w HS.out Hmz.out hz).mono ?_
  rintro e w2 ⟨g, c, rfl, r2, u2, _⟩
  have R2 := Lib.hid r2.bytes; have U2 := Lib.hid u2; clear r2 u2
  go_wp2_with fail
  have hput := vput_any b l v g 0 c (bitsOf zs 0 m) w2 (H.out.later U2.out) hl (by rw [bitsOf_length]; exact R2.out) (bitsOf_01 _ _ _) (by rw [bitsOf_length]; have := Hmz.out; omega) _ Hb.out
  rw [bitsOf_length] at hput
  refine hput.mono ?_
  rintro e w3 ⟨r, rfl, hr⟩
  have Hr := Lib.hid hr; clear hr hput
  go_wp2_with fail
  go_ret
  exact VRes.after U2.out ⟨r, rfl, Hr.out⟩
end Go.Proofs.Ytmdladcfckoglaa

namespace Go.Proofs.Ytmdladcfckoglaa
open Go.RowKit Go.Shelf

theorem upd_grown_new {w w1 w2 : World} {row : Option Nat} (u : Upd NoB w w1) (hg : w1.grownBy w2 row) (h : ∀ k, row = some k → w.heap.size ≤ k) : Upd NoB w w2 := u.grown hg (fun k hk hlt => by have := h k hk; omega)
/-- Two rows, one appended to the other, as bits. -/
theorem row8_of {w : World} {v : Value} {n m : Nat} {xs ys : List Nat} (h : w.ownsRow 0 5 1 v (n + m) (u8s xs ++ u8s ys)) (hn : xs.length = n) (hm : ys.length = m) (h1 : ∀ x ∈ xs, x ≤ 1) (h2 : ∀ y ∈ ys, y ≤ 1) : Row8 w v (xs ++ ys) := by
  refine ⟨?_, fun j => getD_255 (fun y hy => (List.mem_append.1 hy).elim (h1 y) (h2 y)) j⟩
  rw [List.length_append, hn, hm, u8s_append]; exact h
theorem row8_later {w w' : World} {v : Value} {zs : List Nat} (h : Row8 w v zs) (u : Upd NoB w w') : Row8 w' v zs := ⟨u.row h.1 (fun k _ => noB k), h.2⟩
theorem row8_cells {w : World} {g n c : Nat} {bs : List Nat} (h : Row8 w (.slice (some ⟨g, 0, none⟩) n c) bs) : ∀ j u, (u8s bs)[j]? = some u → w.cell? ((⟨g, 0, none⟩ : Addr).add j) = some u := by
  obtain ⟨a, c', e⟩ := row8_slice h
  injection e with e1 e2 e3
  subst e2
  intro j u hu
  have hj : j < bs.length := by
    rw [u8s_get] at hu
    by_cases hj : j < bs.length
    · exact hj
    · rw [if_neg hj] at hu; cases hu
  rw [addr_add, Nat.zero_add, h.1.cellAt j (by omega), hu]
end Go.Proofs.Ytmdladcfckoglaa

namespace Go.Proofs.Ytmdladcfckoglaa
open Go.RowKit Go.Shelf

theorem VPost.next {b : Nat} {v0 v1 : Value} {w w1 w2 : World} {l : List Nat} (u : Upd (wfoot b v0) w w1) (n1 : newOr w v0 v1) (h : VPost b v1 w1 l w2) : VPost b v0 w l w2 := by
  obtain ⟨v2, h1, h2, h3⟩ := h
  refine ⟨v2, h1, u.trans h2 ?_, n1.trans h3 u.size⟩
  rintro i hi (rfl | hi')
  · exact .inl rfl
  · rcases n1 i hi' with h | h
    · exact .inr h
    · omega
theorem numBits_same {x : Int} (h0 : 0 ≤ x) (h1 : x ≤ 1) (n : Nat) : numBits (-x) n = List.replicate n x.toNat := by
  refine List.ext_getElem (by simp [numBits_length]) fun i h1' h2' => ?_
  simp only [numBits_map, List.getElem_map, List.getElem_range, List.getElem_replicate, numF]
  rcases (show x = 0 ∨ x = 1 by omega) with rfl | rfl
  · simp
  · have : (-1 : Int) / 2 ^ (n - 1 - i) = -1 := ediv_neg_one (by decide) (by have := Int.pow_pos (n := 2) (m := n - 1 - i) (by decide); omega)
    rw [this]; rfl
theorem vlen_any (b : Nat) (l : List Nat) (v : Value) (w : World) (h : VAt w b l v) :
    Calls Try.prog 29 #[.pointer (some ⟨b, 0, none⟩)] w fun e w' => e = .returned (.int .i64 (l.length : Nat)) ∧ w = w' := by
  obtain ⟨a, c, rfl⟩ := row8_slice h.2.1
  have c0 : w.cell? ⟨b, 0, none⟩ = some (.slice a l.length c) := blk_cell h.1 0
  clear h
  go_enter Try.func29, Try.ntmps29
  go_wp2
  go_ret
  exact ⟨rfl, rfl⟩
theorem vbytes_any (b : Nat) (l : List Nat) (v : Value) (w : World) (h : VAt w b l v) (hl : l.length ≤ 1048576) :
    Calls Try.prog 32 #[.pointer (some ⟨b, 0, none⟩)] w fun e w' => ∃ v', e = .returned v' ∧ Row8 w' v' (pack l) ∧ Upd NoB w w' ∧ newB w v' := by
  obtain ⟨a, c, rfl⟩ := row8_slice h.2.1
  have c0 : w.cell? ⟨b, 0, none⟩ = some (.slice a l.length c) := blk_cell h.1 0
  have H := Lib.hid h; clear h
  go_enter Try.func32, Try.ntmps32
  go_wp2_with fail
  refine (pack_any _ l w H.out.2.1.bytes H.out.2.2 (by omega)).mono ?_
  rintro e w2 ⟨v2, rfl, r2, u2, n2⟩
  have R2 := Lib.hid r2; have U2 := Lib.hid u2; have N2 := Lib.hid n2
  clear r2 u2 n2
  go_wp2_with fail
  go_ret
  exact ⟨_, rfl, R2.out, U2.out, N2.out⟩
def lenAt (b : Nat) (w : World) : Nat := match w.cell? ⟨b, 0, none⟩ with | some (.slice _ n _) => n | _ => 0
theorem lenAt_eq {w : World} {b : Nat} {l : List Nat} {v : Value} (h : VAt w b l v) : lenAt b w = l.length := by
  obtain ⟨a, c, rfl⟩ := row8_slice h.2.1
  have c0 : w.cell? ⟨b, 0, none⟩ = some (.slice a l.length c) := blk_cell h.1 0
  unfold lenAt; rw [c0]
end Go.Proofs.Ytmdladcfckoglaa
