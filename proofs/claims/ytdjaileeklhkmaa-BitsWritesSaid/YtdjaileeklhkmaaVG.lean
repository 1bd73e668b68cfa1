/- the reference's writer: Gamma, Align, Len, Bytes -/
import Derived.Test.YtdjaileeklhkmaaVP
import Derived.Deep.AppendLies
import Derived.Deep.RegionHeld3
import Derived.Laws.OwnMore
namespace Go.Proofs.Ytdjaileeklhkmaa
open Go.RowKit Go.Shelf

theorem upd_grown_new {w w1 w2 : World} {row : Option Nat} (u : Upd NoB w w1) (hg : w1.grownBy w2 row) (h : ∀ k, row = some k → w.heap.size ≤ k) : Upd NoB w w2 := u.grown hg (fun k hk hlt => by have := h k hk; omega)
/-- Two rows, one appended to the other, as bits. -/
theorem row8_of {w : World} {v : Value} {n m : Nat} {xs ys : List Nat} (h : w.ownsRow 0 5 1 v (n + m) (u8s xs ++ u8s ys)) (hn : xs.length = n) (hm : ys.length = m) (h1 : ∀ x ∈ xs, x ≤ 1) (h2 : ∀ y ∈ ys, y ≤ 1) : Row8 w v (xs ++ ys) := by
  refine ⟨?_, fun j => getD_255 (fun y hy => (List.mem_append.1 hy).elim (h1 y) (h2 y)) j⟩
  rw [List.length_append, hn, hm, u8s_append]; exact h
theorem row8_later {w w' : World} {v : Value} {zs : List Nat} (h : Row8 w v zs) (u : Upd NoB w w') : Row8 w' v zs := ⟨u.row h.1 (fun k _ => noB k), h.2⟩
theorem row8_cells {w : World} {g n c : Nat} {bs : List Nat} (h : Row8 w (.slice (some ⟨g, 0, none⟩) n c) bs) : ∀ j u, (u8s bs)[j]? = some u → w.cell? ((⟨g, 0, none⟩ : Addr).add j) = some u := by
  obtain ⟨a, c', e⟩ := row8_slice h
  injection e with e1 e2 e3
  subst e2
  intro j u hu
  have hj : j < bs.length := by
    rw [u8s_get] at hu
    by_cases hj : j < bs.length
    · exact hj
    · rw [if_neg hj] at hu; cases hu
  rw [addr_add, Nat.zero_add, h.1.cellAt j (by omega), hu]
set_option maxRecDepth 100000 in
set_option maxHeartbeats 4000000 in
theorem vGamma_any (b : Nat) (l : List Nat) (v : Value) (n : Int) (w : World) (h : VAt w b l v) (hl : l.length ≤ 1048576) :
    Calls Try.prog 54 #[.pointer (some ⟨b, 0, none⟩), .int .i64 n] w fun e w' => VRes b v w l (gammaBad n) (numBits 0 (Nat.log2 n.toNat) ++ numBits n (Nat.log2 n.toNat + 1)) e w' := by
  obtain ⟨i0, hi, hz0, hz1, hz2⟩ := info_parts Try.info5
  have H := Lib.hid h; clear h
  by_cases h1 : n < 1
  · have hb : gammaBad n := fun hh => by omega
    have Hb := Lib.hid hb; clear hb
    go_enter Try.func54, Try.ntmps54
    go_wp2
    go_ret
    exact VRes.bad Hb.out
  by_cases h2 : 2097151 < n
  · have hb : gammaBad n := fun hh => by omega
    have Hb := Lib.hid hb; clear hb
    go_enter Try.func54, Try.ntmps54
    go_wp2
    go_ret
    exact VRes.bad Hb.out
  obtain ⟨x, rfl⟩ := Int.eq_ofNat_of_zero_le (show 0 ≤ n by omega)
  rw [Int.toNat_natCast]
  have hx0 : 1 ≤ x := by omega
  have hx1 : x < 2097152 := by omega
  have hb : ¬ gammaBad (x : Int) := fun hh => hh ⟨by omega, by omega⟩
  have Hb := Lib.hid hb; clear hb h1
  go_enter Try.func54, Try.ntmps54
  go_wp2_with fail
  go_loop [5] (fun i => ∃ k : Nat, k ≤ 20 ∧ 2 ^ k ≤ x ∧ i = .int .i64 k) (fun i => 21 - (intOf i).toNat)
  case atStart => exact ⟨0, by omega, by simpa using hx0, rfl⟩
  case round =>
    obtain ⟨k, hk, hkx, rfl⟩ := hrel
    have hpow := Nat.pow_succ 2 k
    have hpe : (2 : Int) ^ (k + 1) = ((2 ^ (k + 1) : Nat) : Int) := by simp
    have hpb : 2 ^ (k + 1) ≤ 2 ^ 21 := Nat.pow_le_pow_right (by decide) (by omega)
    have e21 : 2 ^ 21 = 2097152 := by decide
    have hpi : (2 : Int) ^ (k + 1) ≤ 2097152 := by rw [hpe]; omega
    have hp0 : (0 : Int) ≤ 2 ^ (k + 1) := by rw [hpe]; omega
    by_cases hlt : 2 ^ (k + 1) ≤ x
    · have hk2 : k + 1 ≤ 20 := by
        rcases Nat.lt_or_ge k 20 with h | h
        · omega
        · have := Nat.pow_le_pow_right (n := 2) (by decide) (show 21 ≤ k + 1 by omega)
          omega
      have t1 : decide ((2 : Int) ^ (k + 1) ≤ (x : Int)) = true := decide_eq_true (by rw [hpe]; omega)
      have Hlt := Lib.hid hlt; clear hlt hpow hkx e21 hpb hpe
      go_wp2
      go_round
      case rel => exact ⟨k + 1, hk2, Hlt.out, by go_num⟩
      case measure => simp [intOf]; omega
    · have hlog : Nat.log2 x = k := log2_up hkx (by omega)
      have t1 : decide ((2 : Int) ^ (k + 1) ≤ (x : Int)) = false := decide_eq_false (by rw [hpe]; omega)
      have Hlog := Lib.hid hlog
      have hmk : ∀ w : World, (Instr.makeSlice 27 (.int .i64 (k : Int)) (.int .i64 (k : Int))).run Try.prog w = .ok (.slice (some ⟨w.heap.size, 0, none⟩) k k) (w.alloc (.cells (u8s (List.replicate k 0)).toArray 5)) := fun w => by
        have hm := run_make (P := Try.prog) w 27 5 i0 (.int .u8 0) Try.underlying27 hi hz0 .i64 .i64 k k (by omega) (Int.le_refl _) (by rw [hz2]; omega) (by omega)
        have e := toList_madeCells_one (.int .u8 0) k
        rw [hm, hz1]
        have e2 : madeCells (Value.int .u8 0).cells (k * 1) = (u8s (List.replicate k 0)).toArray := by
          rw [← Array.toArray_toList (xs := madeCells _ _), Nat.mul_one]
          show (madeCells #[.int .u8 0] k).toList.toArray = _
          rw [e]; simp [u8s]
        rw [Nat.mul_one] at e2
        simp [e2]
      have hzr : ∀ w : World, Row8 (w.alloc (.cells (u8s (List.replicate k 0)).toArray 5)) (.slice (some ⟨w.heap.size, 0, none⟩) k k) (List.replicate k 0) := fun w => by
        have := lit8 w (List.replicate k 0) (all255 (fun y hy => by have := List.eq_of_mem_replicate hy; omega)) (by simp; omega)
        simpa using this
      have Hzo := Lib.hid (fun w : World => (by have := (hzr w).1; rwa [List.length_replicate] at this : (w.alloc (.cells (u8s (List.replicate k 0)).toArray 5)).ownsRow 0 5 1 (.slice (some ⟨w.heap.size, 0, none⟩) k k) k (u8s (List.replicate k 0))))
      have hxn : (x : Int) ≤ 9223372036854775807 := by omega
      have k1 : IntKind.i64.wrap ((k : Int) + 1) = ((k + 1 : Nat) : Int) := by rw [IntWalk.i64_in _ (by omega)]; omega
      have hput : ∀ (g c : Nat) (W : World), Row8 W (.slice (some ⟨g, 0, none⟩) (k + (k + 1)) c) (numBits 0 k ++ numBits x (k + 1)) → VAt W b l v → Calls Try.prog 75 #[.pointer (some ⟨b, 0, none⟩), .slice (some ⟨g, 0, none⟩) (k + (k + 1)) c] W fun e w' => VRes b v W l (gammaBad (x : Int)) (numBits 0 k ++ numBits x (k + 1)) e w' := fun g c W hr hv => by
        have hln : (numBits 0 k ++ numBits (x : Int) (k + 1)).length = k + (k + 1) := by rw [List.length_append, numBits_length, numBits_length]
        have := vput_any b l v g 0 c (numBits 0 k ++ numBits x (k + 1)) W hv hl (by rw [hln]; exact hr.bytes) (fun y hy => (List.mem_append.1 hy).elim (numBits_01 _ _ y) (numBits_01 _ _ y)) (by rw [hln]; omega) _ Hb.out
        rw [hln] at this; exact this
      have Hput := Lib.hid hput
      have hone := u8s_one (numBits x (k + 1))
      have hnl : (u8s (numBits x (k + 1))).length = (k + 1) * 1 := by rw [u8s_length, numBits_length]; omega
      have c3 : k + (k + 1) ≤ maxLen := by unfold maxLen; omega
      have c4 : (k + (k + 1)) * 1 ≤ 140737488355328 := by omega
      have hk1 : 0 < k + 1 := by omega
      have hk40 : k + 1 ≤ 40 := by omega
      have hxm : (-9223372036854775808 : Int) ≤ (x : Int) := by omega
      have Hone := Lib.hid hone; have Hnl := Lib.hid hnl; have C3 := Lib.hid c3; have C4 := Lib.hid c4; have Hk1 := Lib.hid hk1; have Hk40 := Lib.hid hk40; have Hxm := Lib.hid hxm; have Hxn := Lib.hid hxn
      clear hlog hpow hlt hkx e21 hpb hpe hzr hput hone hnl c3 c4 hk1 hk40 hxm
      go_wp2
      go_region_held3 (fun _ => True) (exact trivial)
        (first | (go_at_call 75; refine (Hput.out _ _ _ (by exact R6.out) (by exact H.out.later U6.out)).mono ?_; rintro e w7 ⟨r, rfl, hr⟩; have Hr := Lib.hid hr; clear hr) | (go_at_call 76; refine (qnumber_any x (k + 1) _ Hk40.out Hxm.out Hxn.out).mono ?_; rintro e w5 ⟨g, c, rfl, r5, u5, g5⟩; have R5 := Lib.hid r5; have U5 := Lib.hid u5; have G5 := Lib.hid g5; clear r5 u5 g5) | ((refine step_append_lies _ (by rfl) _ _ _ (by rfl) 0 5 i0 (.int .u8 0) 1 1 Try.underlying27 hi hz0 hz1 hz2 (by rfl) (by decide) _ k (u8s (List.replicate k 0)) (by rfl) (by first | exact Hzo.out w5 | exact U5.out.row (by exact Hzo.out w) (fun k _ => noB k)) ⟨g, 0, none⟩ (k + 1) c (u8s (numBits x (k + 1))) (by rfl) Hnl.out (by first | exact row8_cells R5.out | exact row8_cells (row8_later R5.out ((Upd.refl NoB w5).alloc _))) Hone.out Hk1.out C3.out C4.out (Nat.zero_le _) _ (by rfl) ?_); intro g6 c6 w6 hown6 hg6 hat6 hlt6; have U6 := Lib.hid (upd_grown_new (w := w) (by repeat (first | exact (Upd.then (by repeat (first | exact Upd.refl _ _ | refine Upd.drew ?_ | refine Upd.alloc ?_ _)) U5.out) | refine Upd.drew ?_ | refine Upd.alloc ?_ _)) hg6 (fun kk hk => by have hs5 : w.heap.size ≤ w5.heap.size := Nat.le_trans (by simp) U5.out.size; first | (have e := Option.some.inj (show some w.heap.size = some kk from hk); omega) | (have e := Option.some.inj (show some w5.heap.size = some kk from hk); omega))); have R6 := Lib.hid (show Row8 w6 (.slice (some ⟨g6, 0, none⟩) (k + (k + 1)) c6) (numBits 0 k ++ numBits x (k + 1)) by rw [vnumBits_zero]; exact row8_of hown6 (by simp) (numBits_length _ _) (fun y hy => by have := List.eq_of_mem_replicate hy; omega) (numBits_01 _ _)); clear hown6 hg6 hat6 hlt6))
      all_goals
        go_wp2
        go_ret
        rw [Hlog.out]
        exact VRes.after U6.out ⟨r, rfl, Hr.out⟩
end Go.Proofs.Ytdjaileeklhkmaa
