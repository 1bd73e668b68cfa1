/- the reference's writer: put, Number, unary -/
import Derived.Test.YtjnbnhnkjhnbkaaRE
import Derived.Maps.AppendAt
namespace Go.Proofs.Ytjnbnhnkjhnbkaa
open Go.RowKit Go.Shelf

/-- A writer of the reference: its bits, each a byte. -/
def VAt (w : World) (b : Nat) (l : List Nat) (v : Value) : Prop := w.heap[b]? = some (.cells #[v] 37 (0, 0)) ∧ Row8 w v l ∧ (∀ x ∈ l, x ≤ 1)
theorem VAt.upd {w w' : World} {b : Nat} {l : List Nat} {v : Value} (h : VAt w b l v) {S : Nat → Prop} (u : Upd S w w') (hs : ∀ k, wfoot b v k → ¬ S k) : VAt w' b l v :=
  ⟨u.heap h.1 (hs b (.inl rfl)), ⟨u.row h.2.1.1 (fun k hk => hs k (.inr hk)), h.2.1.2⟩, h.2.2⟩
def VPost (b : Nat) (v0 : Value) (w : World) (l : List Nat) (w' : World) : Prop := ∃ v, VAt w' b l v ∧ Upd (wfoot b v0) w w' ∧ newOr w v0 v
/-- What a call of a writer of the reference comes to. -/
def VRes (b : Nat) (v : Value) (w : World) (l : List Nat) (bad : Prop) (bs : List Nat) (e : Ending) (w' : World) : Prop :=
  ∃ r : Int, e = .returned (.int .i64 r) ∧ ((bad ∧ r = 1 ∧ Upd NoB w w') ∨ (¬ bad ∧ 1048576 < l.length + bs.length ∧ r = 2 ∧ Upd NoB w w') ∨ (¬ bad ∧ l.length + bs.length ≤ 1048576 ∧ r = 0 ∧ VPost b v w (l ++ bs) w'))
theorem VRes.bad {b : Nat} {v : Value} {w : World} {l : List Nat} {bad : Prop} {bs : List Nat} (h : bad) : VRes b v w l bad bs (.returned (.int .i64 1)) w := ⟨1, rfl, .inl ⟨h, rfl, Upd.refl _ _⟩⟩
theorem VRes.after {b : Nat} {v : Value} {w w1 : World} {l : List Nat} {bad : Prop} {bs : List Nat} {e : Ending} {w' : World} (u : Upd NoB w w1) (h : VRes b v w1 l bad bs e w') : VRes b v w l bad bs e w' := by
  obtain ⟨r, rfl, ⟨h1, h2, h3⟩ | ⟨h1, h0, h2, h3⟩ | ⟨h1, h0, h2, v2, h3, h4, h5⟩⟩ := h
  · exact ⟨r, rfl, .inl ⟨h1, h2, u.then h3⟩⟩
  · exact ⟨r, rfl, .inr (.inl ⟨h1, h0, h2, u.then h3⟩)⟩
  · refine ⟨r, rfl, .inr (.inr ⟨h1, h0, h2, v2, h3, ?_, fun k hk => ?_⟩)⟩
    · exact (u.mono (fun k _ hk => (noB k hk).elim)).trans h4 (fun _ _ h => h)
    · rcases h5 k hk with h | h
      · exact .inl h
      · have := u.size; exact .inr (by omega)
theorem row_form {w : World} {base : Nat} {e : TypeId} {size : Nat} {v : Value} {n : Nat} {xs : List Value} (h : w.ownsRow base e size v n xs) : ∃ a c, v = .slice a n c := by
  rcases h.2 with ⟨rfl, rfl⟩ | ⟨g, cap, cur, rfl, _⟩
  · exact ⟨none, 0, rfl⟩
  · exact ⟨_, _, rfl⟩
theorem VAt.sep {w : World} {b : Nat} {l : List Nat} {v : Value} (h : VAt w b l v) : v.ownBlock ≠ some b := row_ne h.2.1.1 h.1 (by decide)
theorem u8s_append (xs ys : List Nat) : u8s (xs ++ ys) = u8s xs ++ u8s ys := by simp [u8s]
/-- The writer behind an append and the store. -/
theorem VAt.app {w w' : World} {b : Nat} {l bs : List Nat} {v v' : Value} (h : VAt w b l v) (h01 : ∀ x ∈ bs, x ≤ 1) (hown : w'.ownsRow 0 5 1 v' (l.length + bs.length) (u8s l ++ u8s bs)) (hg : w.grownBy w' v.ownBlock) (hn : newOr w v v') :
    VPost b v w (l ++ bs) (w'.setCell ⟨b, 0, none⟩ v') := by
  have u1 : Upd (wfoot b v) w w' := (Upd.refl _ _).grown hg (fun k hk _ => .inr hk)
  have hb : w'.heap[b]? = some (.cells #[v] 37 (0, 0)) := ((Upd.refl (fun k => v.ownBlock = some k) w).grown hg (fun k hk _ => hk)).heap h.1 (fun e => h.sep e)
  have hs : v'.ownBlock ≠ some b := row_ne hown hb (by decide)
  have u2 : Upd (fun k => k = b) w' (w'.setCell ⟨b, 0, none⟩ v') := (Upd.refl _ _).setCell _ (fun _ => rfl)
  refine ⟨v', ⟨by have := block_set (i := 0) hb v'; simpa using this, ⟨?_, fun j => ?_⟩, fun x hx => ?_⟩, u1.trans u2 (fun i _ e => .inl e), hn⟩
  · rw [List.length_append, u8s_append]
    exact u2.row hown (fun k hk e => hs (by rw [hk, e]))
  · exact getD_255 (fun x hx => (List.mem_append.1 hx).elim (h.2.2 x) (h01 x)) j
  · exact (List.mem_append.1 hx).elim (h.2.2 x) (h01 x)
set_option maxRecDepth 100000 in
set_option maxHeartbeats 1000000 in
theorem vput_any (b : Nat) (l : List Nat) (v : Value) (sb so cap : Nat) (bs : List Nat) (w : World) (h : VAt w b l v) (hl : l.length ≤ 1048576) (hs : Bytes w (.slice (some ⟨sb, so, none⟩) bs.length cap) bs) (h01 : ∀ x ∈ bs, x ≤ 1) (hbl : bs.length ≤ 140737488355328) (bad : Prop) (hbad : ¬ bad) :
    Calls Try.prog 66 #[.pointer (some ⟨b, 0, none⟩), .slice (some ⟨sb, so, none⟩) bs.length cap] w fun e w' => VRes b v w l bad bs e w' := by
  obtain ⟨i0, hi, hz0, hz1, hz2⟩ := info_parts Try.info5
  obtain ⟨va, vc, rfl⟩ := row8_slice h.2.1
  have c0 : w.cell? ⟨b, 0, none⟩ = some (.slice va l.length vc) := blk_cell h.1 0
  have f0 := blk_free h.1 0
  have hcell : ∀ j u, (u8s bs)[j]? = some u → w.cell? ((⟨sb, so, none⟩ : Addr).add j) = some u := by
    obtain ⟨_, a', cap', he, _, hc⟩ := hs
    intro j u hu
    rw [u8s_get] at hu
    by_cases hj : j < bs.length
    · rw [if_pos hj] at hu
      rcases hc with hc | ⟨sb', so', hso, hc⟩
      · rw [hc] at hj; simp at hj
      · injection he with e1 e2 e3
        rw [← e1] at hso
        injection hso with hso
        cases hso
        rw [addr_add, hc j hj, hu]
    · rw [if_neg hj] at hu; cases hu
  have H := Lib.hid h; have H01 := Lib.hid h01; have Hbad := Lib.hid hbad
  have hrow := h.2.1.1
  have hone := u8s_one bs
  have hnl : (u8s bs).length = bs.length * 1 := by rw [u8s_length]; omega
  clear h hs h01 hbad
  obtain ⟨L, hL⟩ : ∃ L, L = l.length := ⟨_, rfl⟩
  obtain ⟨M, hM⟩ : ∃ M, M = bs.length := ⟨_, rfl⟩
  rw [← hL] at c0 hl hrow
  rw [← hM] at hnl hbl ⊢
  have HL := Lib.hid hL; have HM := Lib.hid hM
  clear hL hM
  by_cases hfull : 1048576 < L + M
  · have t1 : decide ((1048576 : Int) < (L : Int) + (M : Int)) = true := decide_eq_true (by omega)
    go_enter Try.func66, Try.ntmps66
    go_wp2
    go_ret
    exact ⟨2, rfl, .inr (.inl ⟨Hbad.out, by rw [← HL.out, ← HM.out]; exact hfull, rfl, Upd.refl _ _⟩)⟩
  have t1 : decide ((1048576 : Int) < (L : Int) + (M : Int)) = false := decide_eq_false (by omega)
  go_enter Try.func66, Try.ntmps66
  go_wp2_with (at_builtin; refine wpList_append_own_at w rfl _ _ 32 rfl 0 5 i0 (.int .u8 0) 1 1 Try.underlying32 hi hz0 hz1 hz2 rfl (by decide) _ L _ rfl hrow ⟨sb, so, none⟩ M cap (u8s bs) rfl hnl hcell hone ?c3 ?c4 (Nat.zero_le _) ?_)
  case c3 => unfold maxLen; omega
  case c4 => omega
  intro v' w1 hown hgr _ hnw
  obtain ⟨va', vc', rfl⟩ := row_form hown
  have hnew : newOr w (.slice va L vc) (.slice va' (L + M) vc') := fun k hk => by
    rcases hnw with h | h
    · exact .inl (by rw [← h, hk])
    · rw [h] at hk; injection hk with hk; exact .inr (by omega)
  have hb1 : w1.heap[b]? = some (.cells #[.slice va L vc] 37 (0, 0)) := by
    have := ((Upd.refl (fun k => (Value.slice va l.length vc).ownBlock = some k) w).grown (by rw [← HL.out]; exact hgr) (fun k hk _ => hk)).heap H.out.1 (fun e => H.out.sep e)
    rw [← HL.out] at this; exact this
  have f1 := blk_free hb1 0
  have d0 := blk_cell hb1 0
  have hp : VPost b (.slice va L vc) w (l ++ bs) (w1.setCell ⟨b, 0, none⟩ (.slice va' (L + M) vc')) := by
    have h0 : VAt w b l (.slice va L vc) := by have := H.out; rw [← HL.out] at this; exact this
    exact h0.app H01.out (by rw [← HL.out, ← HM.out]; exact hown) hgr hnew
  have Hp := Lib.hid hp
  clear hp hgr hnew hown hb1 c0 hnw hcell hone hnl
  go_wp2
  go_ret
  exact ⟨0, rfl, .inr (.inr ⟨Hbad.out, by rw [← HL.out, ← HM.out]; omega, rfl, by rw [← HL.out]; exact Hp.out⟩)⟩
end Go.Proofs.Ytjnbnhnkjhnbkaa
