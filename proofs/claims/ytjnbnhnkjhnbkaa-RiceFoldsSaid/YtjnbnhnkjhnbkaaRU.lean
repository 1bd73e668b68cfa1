/- the reference's reader: Unary -/
import Derived.Test.YtjnbnhnkjhnbkaaRQ
namespace Go.Proofs.Ytjnbnhnkjhnbkaa
open Go.RowKit Go.Shelf

def unaQ (bs : List Nat) (at_ : Nat) (n : Int) : Int × Int × Nat :=
  if n < 0 ∨ 1000 < n then (0, 1, at_) else
    if (zscan n.toNat (bs.drop at_) 0).2 = 0 then ((zscan n.toNat (bs.drop at_) 0).1, 0, at_ + ((zscan n.toNat (bs.drop at_) 0).1 + 1)) else (0, (zscan n.toNat (bs.drop at_) 0).2, at_)
theorem zscan_at {l : List Nat} {k m : Nat} (h : ∀ j, j < k → l[j]? = some 0) (hk : k ≤ m) : zscan m l 0 = zscan m (l.drop k) k := by
  have hl : (l.take k).length = k := by
    rw [List.length_take]
    by_cases hk0 : k = 0
    · omega
    · have := (List.getElem?_eq_some_iff.1 (h (k - 1) (by omega))).1
      omega
  have hz : ∀ y ∈ l.take k, y = 0 := fun y hy => by
    obtain ⟨j, hj⟩ := List.getElem?_of_mem hy
    rw [List.getElem?_take] at hj
    by_cases hjk : j < k
    · rw [if_pos hjk, h j hjk] at hj; cases hj; rfl
    · rw [if_neg hjk] at hj; cases hj
  have := zscan_skip m (l.take k) (l.drop k) 0 hz (by omega)
  rw [List.take_append_drop, hl, Nat.zero_add] at this
  exact this
theorem zscan_one {l : List Nat} {k m : Nat} (h : ∀ j, j < k → l[j]? = some 0) (hk : k ≤ m) (h1 : l[k]? = some 1) : zscan m l 0 = (k, 0) := by
  rw [zscan_at h hk, List.drop_eq_getElem_cons (List.getElem?_eq_some_iff.1 h1).1, (List.getElem?_eq_some_iff.1 h1).2]
  rfl
theorem zscan_short {l : List Nat} {k m : Nat} (h : ∀ j, j < k → l[j]? = some 0) (hk : k ≤ m) (h1 : l.length ≤ k) : zscan m l 0 = (0, 3) := by
  rw [zscan_at h hk, List.drop_of_length_le h1]
  rfl
theorem zscan_form {l : List Nat} {m : Nat} (h : ∀ j, j < m + 1 → l[j]? = some 0) : zscan m l 0 = (0, 4) := by
  have h1 := h m (by omega)
  rw [zscan_at (fun j hj => h j (by omega)) (Nat.le_refl m), List.drop_eq_getElem_cons (List.getElem?_eq_some_iff.1 h1).1, (List.getElem?_eq_some_iff.1 h1).2, zscan, if_neg (by decide), if_pos rfl]
theorem qunary_nil (n : Int) (w : World) : Calls Try.prog 79 #[.pointer none, .int .i64 n] w fun e w' => e = .returned (.tuple #[.int .i64 0, .int .i64 1]) ∧ w = w' := by
  go_enter Try.func79, Try.ntmps79
  go_wp2
  go_ret2
  exact ⟨rfl, rfl⟩
set_option maxRecDepth 100000 in
set_option maxHeartbeats 2000000 in
theorem qunary_any (b : Nat) (sv : Value) (bs : List Nat) (at_ : Nat) (n : Int) (w : World) (h : QAt w b sv bs at_) :
    Calls Try.prog 79 #[.pointer (some ⟨b, 0, none⟩), .int .i64 n] w fun e w' => QRes b sv bs w (unaQ bs at_ n) e w' := by
  obtain ⟨a, cap, rfl, hcap⟩ := h.form
  have c0 := h.c0
  have c1 := h.c1
  have f1 := blk_free h.1 1
  have hl := h.2.2.2.2.1
  have ha := h.2.2.2.1
  have H := Lib.hid h; clear h
  by_cases h1 : n < 0
  · have hr : unaQ bs at_ n = (0, 1, at_) := if_pos (.inl h1)
    have Hr := Lib.hid hr; clear hr
    go_enter Try.func79, Try.ntmps79
    go_wp2
    go_ret2
    rw [Hr.out]
    exact ⟨rfl, H.out, Upd.refl _ _⟩
  by_cases h2 : 1000 < n
  · have hr : unaQ bs at_ n = (0, 1, at_) := if_pos (.inr h2)
    have Hr := Lib.hid hr; clear hr
    go_enter Try.func79, Try.ntmps79
    go_wp2
    go_ret2
    rw [Hr.out]
    exact ⟨rfl, H.out, Upd.refl _ _⟩
  obtain ⟨m, rfl⟩ := Int.eq_ofNat_of_zero_le (show 0 ≤ n by omega)
  have hr : unaQ bs at_ m = if (zscan m (bs.drop at_) 0).2 = 0 then (((zscan m (bs.drop at_) 0).1 : Int), 0, at_ + ((zscan m (bs.drop at_) 0).1 + 1)) else (0, ((zscan m (bs.drop at_) 0).2 : Int), at_) := by
    rw [unaQ, if_neg (by omega), Int.toNat_natCast]
  have Hr := Lib.hid hr; clear hr
  obtain ⟨L, hL⟩ : ∃ L, L = bs.length := ⟨_, rfl⟩
  have HL := Lib.hid hL
  rw [← hL] at c0 hl ha hcap
  rw [← hL]
  clear hL
  go_enter Try.func79, Try.ntmps79
  go_wp2
  go_loopw [6] (fun i wr => ∃ k q : Nat, k ≤ m + 1 ∧ i = .int .i64 k ∧ (∀ j, j < k → (bs.drop at_)[j]? = some 0) ∧ wr = w.drewN q) (fun i _ => m + 1 - (intOf i).toNat)
  case atStart => exact ⟨0, 0, Nat.zero_le _, rfl, fun j hj => absurd hj (Nat.not_lt_zero _), rfl⟩
  case round =>
    obtain ⟨k, q, hk, rfl, hz, rfl⟩ := hrel
    have Hz := Lib.hid hz; clear hz
    by_cases hlt : k ≤ m
    · have t1 : decide ((k : Int) ≤ (m : Int)) = true := decide_eq_true (by omega)
      have k1 : IntKind.i64.wrap ((at_ : Int) + k) = ((at_ + k : Nat) : Int) := by rw [IntWalk.i64_in _ (by omega)]; omega
      by_cases hsh : L ≤ at_ + k
      · have t2 : decide ((L : Int) ≤ ((at_ + k : Nat) : Int)) = true := decide_eq_true (by omega)
        have hs := zscan_short Hz.out hlt (by rw [List.length_drop, ← HL.out]; omega)
        have Hs := Lib.hid hs; clear hs
        generalize at_ + k = p at *
        go_wp2
        go_quiet (fail)
        go_wp2
        go_ret2
        rw [Hr.out, Hs.out, HL.out]
        exact ⟨rfl, (H.out.drewN _).drewN _, upd_drewN (upd_drewN (Upd.refl _ _) _) _⟩
      · have t2 : decide ((L : Int) ≤ ((at_ + k : Nat) : Int)) = false := decide_eq_false (by omega)
        obtain ⟨x, hx⟩ : ∃ x, bs[at_ + k]? = some x := ⟨_, List.getElem?_eq_getElem (by rw [← HL.out]; omega)⟩
        have hx1 := H.out.2.2.1 x (List.mem_of_getElem? hx)
        have hcell : ∃ sb so, a = some ⟨sb, so, none⟩ ∧ w.cell? ⟨sb, so + (at_ + k), none⟩ = some (.int .u8 x) := by
          obtain ⟨_, a', c', he, _, hz⟩ := H.out.2.1
          cases he
          rcases hz with hz | ⟨sb, so, rfl, hz⟩
          · rw [hz] at hx; simp at hx
          · refine ⟨sb, so, rfl, ?_⟩
            have := hz (at_ + k) (by rw [← HL.out]; omega)
            rwa [List.getD_eq_getElem?_getD, hx] at this
        obtain ⟨sb, so, rfl, hcell⟩ := hcell
        have hpl : at_ + k < L := by omega
        have hdx : (bs.drop at_)[k]? = some x := by rw [List.getElem?_drop]; exact hx
        have Hx := Lib.hid hdx
        obtain ⟨p, hp⟩ : ∃ p, p = at_ + k := ⟨_, rfl⟩
        rw [← hp] at k1 t2 hcell hpl
        have Hp := Lib.hid hp
        clear hx hdx hp hsh
        by_cases hx0 : x = 1
        · subst hx0
          have hs := zscan_one Hz.out hlt Hx.out
          have Hs := Lib.hid hs; clear hs
          have hmv := fun q2 => (H.out.drewN q2).move (p + 1) (by rw [← HL.out]; omega)
          have Hmv := Lib.hid hmv; clear hmv
          have e1 : (at_ : Int) + (k + 1) = ((p + 1 : Nat) : Int) := by have := Hp.out; omega
          have He1 := Lib.hid e1; clear e1
          go_wp2
          go_quiet (fail)
          go_wp2
          go_quiet (fail)
          go_wp2
          go_ret2
          rw [Hr.out, Hs.out, He1.out, HL.out]
          rename_i n1 _
          have hm := Hmv.out (q + n1 + nq)
          have e2 : p + 1 = at_ + (k + 1) := by have := Hp.out; omega
          refine ⟨rfl, ?_, ?_⟩
          · show QAt _ b _ bs (at_ + (k + 1))
            rw [← e2]
            exact hm.1
          · exact (upd_drewN (Upd.refl _ _) _).trans hm.2 (fun _ _ h => h)
        · have hx0' : x = 0 := by omega
          subst hx0'
          go_wp2
          go_quiet (fail)
          go_wp2
          go_quiet (fail)
          go_wp2
          go_roundw
          case rel =>
            refine ⟨k + 1, _, by omega, by go_num, fun j hj => ?_, rfl⟩
            by_cases hjk : j < k
            · exact Hz.out j hjk
            · obtain rfl : j = k := by omega
              exact Hx.out
          case measure => simp [intOf]; omega
    · obtain rfl : k = m + 1 := by omega
      have hs := zscan_form Hz.out
      have Hs := Lib.hid hs; clear hs
      go_wp2
      go_ret2
      rw [Hr.out, Hs.out, HL.out]
      exact ⟨rfl, H.out.drewN _, upd_drewN (Upd.refl _ _) _⟩
end Go.Proofs.Ytjnbnhnkjhnbkaa
