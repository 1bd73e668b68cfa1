/- the writer: write -/
import Derived.Test.YtjnbnhnkjhnbkaaFld
namespace Go.Proofs.Ytjnbnhnkjhnbkaa
open Go.RowKit Go.Shelf

theorem wloop_val (fs : List Fld) (k : Nat) (hk : k ≤ fs.length) (hf : fs.length ≤ 1000) : fldSum (fs.take k) ≤ 1001000 := by
  have := fldSum_take fs k
  omega
theorem fldSum_next {fs : List Fld} {k : Nat} {p : Fld} (h : fs[k]? = some p) : fldSum (fs.take (k + 1)) = fldSum (fs.take k) + p.1.2 := by
  rw [List.take_add_one, h, Option.toList_some, fldSum_snoc]

/-- What Values and number share: nothing. -/
theorem notcells_grown {S : Nat → Prop} {W W' : World} (h : Upd S W W') (hs : ∀ k, S k → ∃ c t fr, W.heap[k]? = some (.cells c t fr)) (B : Nat) : KeepsFrom B W W' :=
  ⟨h.size, fun k o _ hk ho => h.heap hk (fun hS => by
    obtain ⟨c, t, fr, hc⟩ := hs k hS
    rw [hc] at hk; cases hk; cases ho)⟩
theorem WAt.cells {w : World} {b : Nat} {l : List Nat} {v : Value} (h : WAt w b l v) : ∀ k, wfoot b v k → ∃ c t fr, w.heap[k]? = some (.cells c t fr) := by
  rintro k (rfl | hk)
  · exact ⟨_, _, _, h.1⟩
  · rcases h.2.1.2 with ⟨rfl, _⟩ | ⟨g, cap, cur, rfl, _, hg, _⟩
    · simp [Value.ownBlock] at hk
    · have : g = k := by simpa [Value.ownBlock] using hk
      subst this
      exact ⟨_, _, _, hg⟩
theorem WAt.lt {w : World} {b : Nat} {l : List Nat} {v : Value} (h : WAt w b l v) : ∀ k, wfoot b v k → k < w.heap.size := fun k hk => by
  obtain ⟨c, t, fr, hc⟩ := h.cells k hk
  exact lt_of_block hc
theorem WAt.grown {w w' : World} {b : Nat} {l : List Nat} {v : Value} (h : WAt w b l v) {row : Option Nat} (hg : w.grownBy w' row) (hr : ∀ r, row = some r → ∃ o : Obj, w.heap[r]? = some o ∧ o.isCells = false) : WAt w' b l v :=
  h.upd (S := fun k => row = some k) (Upd.grown (Upd.refl _ w) hg (fun k hk _ => hk)) (fun k hk hrow => by
    obtain ⟨o, ho, hc⟩ := hr k hrow
    obtain ⟨c, t, fr, hcc⟩ := h.cells k hk
    rw [hcc] at ho; cases ho; cases hc)

set_option maxRecDepth 100000 in
set_option maxHeartbeats 1000000 in
theorem write_full (b : Nat) (l : List Nat) (v sv : Value) (fs : List Fld) (w : World) (h : WAt w b l v) (hl : l.length ≤ 1099511627776) (hs : Flds w sv fs) (hf : fs.length ≤ 1000)
    (hfull : 1048576 < l.length + fldSum fs) :
    Calls Try.prog 95 #[.pointer (some ⟨b, 0, none⟩), sv] w fun e w' => e = .returned (.int .i64 2) ∧ Upd NoB w w' := by
  have hw1 := h.len
  have hbs := lt_of_block h.1
  obtain ⟨g, cap, rfl, _, hc⟩ := hs
  have Hc := Lib.hid @hc; clear hc
  go_enter Try.func95, Try.ntmps95
  go_wp2_with fail
  go_loopw [5, 10] (fun n i wr => ∃ k : Nat, k ≤ fs.length ∧ i = .int .i64 k ∧ n = .int .i64 (fldSum (fs.take k) : Nat) ∧ Upd NoB w wr) (fun _ i _ => fs.length - (intOf i).toNat)
  case atStart => exact ⟨0, Nat.zero_le _, rfl, rfl, Upd.refl _ _⟩
  case round =>
    obtain ⟨k, hk, rfl, rfl, hu⟩ := hrel
    have hsum := wloop_val fs k hk hf
    by_cases hlt : k < fs.length
    · obtain ⟨⟨⟨x, n⟩, hx⟩, hp⟩ : ∃ p : Fld, fs[k]? = some p := ⟨fs[k], List.getElem?_eq_getElem hlt⟩
      have ⟨c0, c1⟩ := Hc.out k _ hp
      have hn := fldSum_next hp
      dsimp only at c0 c1 hn hx
      have d0 := hu.cell c0 (noB _)
      have d1 := hu.cell c1 (noB _)
      have Hn := Lib.hid hn; clear hn
      have Hp := Lib.hid hp; clear hp
      clear c0 c1
      go_wp2
      go_roundw
      case rel => exact ⟨k + 1, by omega, by go_num, by rw [Hn.out]; go_num, hu.alloc _⟩
      case measure => simp [intOf] <;> omega
    · obtain rfl : k = fs.length := by omega
      rw [List.take_length] at hsum ⊢
      have hw2 := hu.cell hw1 (noB _)
      have hgt : (1048576 : Int) - l.length < fldSum fs := by omega
      go_wp2_with (go_at_call 62; refine (room_any b l.length _ hw2 hl).mono ?_; rintro e w2 ⟨rfl, rfl⟩)
      go_ret
      exact ⟨rfl, hu⟩

theorem row_ne' {w : World} {base : Nat} {e e' : TypeId} {size : Nat} {v : Value} {n : Nat} {xs : List Value} {b : Nat} {c : Array Value} {fr : Nat × Nat}
    (h : w.ownsRow base e size v n xs) (hb : w.heap[b]? = some (.cells c e' fr)) (he : e ≠ e') : ∀ k, v.ownBlock = some k → k ≠ b := fun k hk e => row_ne h hb he (by rw [hk, e])
/-- A block of another element type is none of a writer's. -/
theorem WAt.not {w : World} {b : Nat} {l : List Nat} {v : Value} (h : WAt w b l v) {k : Nat} {c : Array Value} {t : TypeId} {fr : Nat × Nat} (hk : w.heap[k]? = some (.cells c t fr)) (h1 : t ≠ 79) (h2 : t ≠ 5) : ¬ wfoot b v k := by
  rintro (rfl | hv)
  · rw [h.1] at hk; cases hk; exact h1 rfl
  · exact row_ne h.2.1 hk (fun e => h2 e.symm) hv

set_option maxRecDepth 100000 in
set_option maxHeartbeats 1000000 in
theorem feedw (b : Nat) (l : List Nat) (v sv : Value) (fs : List Fld) (w : World) (h : WAt w b l v) (hl : l.length ≤ 1048576) (hf : fs.length ≤ 1000) (B : Nat) (hB : w.heap[B]? = some (.cells #[sv] 122 (0, 0))) (hs : Flds w sv fs) :
    Calls Try.prog 107 #[.func (.func 113) #[] #[.pointer (some ⟨B, 0, none⟩)], .func (.func 109) #[.pointer (some ⟨b, 0, none⟩)] #[]] w fun e w' =>
      e = .returned (.tuple #[]) ∧ WPost b v w (l ++ fldBits fs) w' := by
  obtain ⟨g, cap, rfl, ⟨cg, frg, hg⟩, hc⟩ := hs
  have hD : ∀ k, valD B (.slice (some ⟨g, 0, none⟩) fs.length cap) k → k < w.heap.size := by
    rintro k (rfl | hk)
    · exact lt_of_block hB
    · have : g = k := by simpa [Value.ownBlock] using hk
      subst this; exact lt_of_block hg
  refine (feedf_in (first := #[.pointer (some ⟨b, 0, none⟩)]) (cap := #[]) (Sp := fun pre => pre <+: fs) (N := fs.length) w (enters_of Try.func113 (by kernel_rfl) rfl) (enters_of Try.func109 (by kernel_rfl) rfl)
    (values_seq B _ fs w hf (by simp [World.cell?, hB]) ⟨g, cap, rfl, ⟨cg, frg, hg⟩, hc⟩ hD) (fun h k => h.trans k) ?_ ?_
    (fun pre W => (∃ v', WAt W b (l ++ fldBits pre) v' ∧ Upd (wfoot b v) w W ∧ newOr w v v') ∧ W.heap[B]? = some (.cells #[.slice (some ⟨g, 0, none⟩) fs.length cap] 122 (0, 0)) ∧ W.heap[g]? = some (.cells cg 113 frg)) ?_ ?_ ?_ ?_).mono ?_
  · intro W k o' hk
    exact keepD_putObj (fun hd => by have := hD _ hd; omega)
  · intro W o' hsz k hk
    exact Below.heap_alloc _ _ _ (Nat.lt_of_lt_of_le (hD k hk) hsz)
  · rintro s W W' row ⟨⟨v', ha, hu, hn⟩, h1, h2⟩ hgr hr
    have hne : ∀ k c t fr, W.heap[k]? = some (.cells c t fr) → some k ≠ row := fun k c t fr hk e => by
      obtain ⟨o, ho, hco⟩ := (hr k e.symm).2
      rw [hk] at ho; cases ho; cases hco
    refine ⟨⟨v', ha.grown hgr (fun r e => (hr r e).2), hu.grown hgr (fun k e hk => ?_), hn⟩, (hgr.block _ (lt_of_block h1) (hne _ _ _ _ h1)).trans h1, (hgr.block _ (lt_of_block h2) (hne _ _ _ _ h2)).trans h2⟩
    have := (hr k e).1; omega
  · rintro pre W ⟨⟨v', ha, hu, hn⟩, h1, h2⟩
    exact hu.size
  · exact ⟨⟨v, by simpa [fldBits] using h, Upd.refl _ _, newOr.refl _ _⟩, hB, hg⟩
  · rintro pre x W ⟨⟨v', ha, hu, hn⟩, h1, h2⟩ hN hbox
    have hsum := fldSum_take pre pre.length
    rw [List.take_length] at hsum
    have hx := x.2
    refine (number_any b (l ++ fldBits pre) v' x.1.1 x.1.2 W ha (by rw [List.length_append, fldBits_length]; omega) (by omega) hx.2.1 hx.2.2).mono ?_
    rintro e W' ⟨rfl, v2, ha2, hu2, hn2⟩
    have k1 : W'.heap[B]? = _ := hu2.heap h1 (ha.not h1 (by decide) (by decide))
    have k2 : W'.heap[g]? = _ := hu2.heap h2 (ha.not h2 (by decide) (by decide))
    have k3 := hu2.heap hbox (ha.not hbox (by decide) (by decide))
    refine ⟨⟨_, rfl⟩, ⟨⟨v2, ?_, ?_, hn.trans hn2 hu.size⟩, k1, k2⟩, ?_, notcells_grown hu2 ha.cells _, ?_⟩
    · rw [fldBits_snoc, ← List.append_assoc]; exact ha2
    · refine hu.trans hu2 ?_
      rintro i hi (rfl | hi')
      · exact .inl rfl
      · rcases hn i hi' with h | h
        · exact .inr h
        · omega
    · rintro k (rfl | hk)
      · exact k1.trans h1.symm
      · have : g = k := by simpa [Value.ownBlock] using hk
        subst this
        exact k2.trans h2.symm
    · rintro k rfl
      exact k3.trans hbox.symm
  · rintro e W' ⟨rfl, ys, rfl, ⟨hp, _, _⟩⟩
    exact ⟨rfl, hp⟩

set_option maxRecDepth 100000 in
set_option maxHeartbeats 1000000 in
theorem write_ok (b : Nat) (l : List Nat) (v sv : Value) (fs : List Fld) (w : World) (h : WAt w b l v) (hl : l.length ≤ 1099511627776) (hs : Flds w sv fs) (hf : fs.length ≤ 1000)
    (hfit : l.length + fldSum fs ≤ 1048576) :
    Calls Try.prog 95 #[.pointer (some ⟨b, 0, none⟩), sv] w fun e w' => e = .returned (.int .i64 0) ∧ WPost b v w (l ++ fldBits fs) w' := by
  have hw1 := h.len
  have hbs := lt_of_block h.1
  have hl1 : l.length ≤ 1048576 := by omega
  have hs0 := Lib.hid hs
  obtain ⟨g, cap, rfl, ⟨cg, frg, hg⟩, hc⟩ := hs
  have Hg := Lib.hid hg; clear hg
  have H := Lib.hid h; clear h
  have hown : ∀ k, wfoot b v k → ¬ NoB k := fun k _ => noB k
  have Hc := Lib.hid @hc; clear hc
  go_enter Try.func95, Try.ntmps95
  go_wp2_with fail
  go_loopw [5, 10] (fun n i wr => ∃ k : Nat, k ≤ fs.length ∧ i = .int .i64 k ∧ n = .int .i64 (fldSum (fs.take k) : Nat) ∧ Upd NoB w wr) (fun _ i _ => fs.length - (intOf i).toNat)
  case atStart => exact ⟨0, Nat.zero_le _, rfl, rfl, Upd.refl _ _⟩
  case round =>
    obtain ⟨k, hk, rfl, rfl, hu⟩ := hrel
    have hsum := wloop_val fs k hk hf
    by_cases hlt : k < fs.length
    · obtain ⟨⟨⟨x, n⟩, hx⟩, hp⟩ : ∃ p : Fld, fs[k]? = some p := ⟨fs[k], List.getElem?_eq_getElem hlt⟩
      have ⟨c0, c1⟩ := Hc.out k _ hp
      have hn := fldSum_next hp
      dsimp only at c0 c1 hn hx
      have d0 := hu.cell c0 (noB _)
      have d1 := hu.cell c1 (noB _)
      have Hn := Lib.hid hn; clear hn
      have Hp := Lib.hid hp; clear hp
      clear c0 c1
      go_wp2
      go_roundw
      case rel => exact ⟨k + 1, by omega, by go_num, by rw [Hn.out]; go_num, hu.alloc _⟩
      case measure => simp [intOf] <;> omega
    · obtain rfl : k = fs.length := by omega
      rw [List.take_length] at hsum ⊢
      have hw2 := hu.cell hw1 (noB _)
      have hgt : ¬ (1048576 : Int) - l.length < fldSum fs := by omega
      have ha2 := H.out.upd hu hown
      have hd : ∀ k, valD g (.slice (some ⟨g, 0, none⟩) fs.length cap) k → k < w.heap.size := by
        rintro k (rfl | hk)
        · exact lt_of_block Hg.out
        · have : g = k := by simpa [Value.ownBlock] using hk
          subst this; exact lt_of_block Hg.out
      have hk2 := hu.keepD (D := fun k => k = g) (fun k hk => ⟨by subst hk; exact lt_of_block Hg.out, noB k⟩)
      have hs2 := hs0.out.keep hk2 (fun k hk => by simpa [Value.ownBlock] using hk.symm)
      have hg2 : g < wr.heap.size := Nat.lt_of_lt_of_le (lt_of_block Hg.out) hu.size
      have Ha2 := Lib.hid ha2; clear ha2
      have Hd := Lib.hid hd; clear hd
      have Hk2 := Lib.hid hk2; clear hk2
      have Hs2 := Lib.hid hs2; clear hs2
      have hk3 : KeepD (fun k => k = g) wr (wr.alloc (.cells #[.slice (some ⟨g, 0, none⟩) fs.length cap] 122)) := fun k hk => by subst hk; exact Below.heap_alloc _ _ _ hg2
      have hs3 := Hs2.out.keep hk3 (fun k hk => by simpa [Value.ownBlock] using hk.symm)
      have ha3 := Ha2.out.upd (w' := wr.alloc (.cells #[.slice (some ⟨g, 0, none⟩) fs.length cap] 122)) ((Upd.refl NoB wr).alloc _) hown
      have hB3 := heap_alloc_new wr (.cells #[.slice (some ⟨g, 0, none⟩) fs.length cap] 122)
      have Hs3 := Lib.hid hs3; clear hs3
      have Ha3 := Lib.hid ha3; clear ha3
      have HB3 := Lib.hid hB3; clear hB3
      have Hk3 := Lib.hid hk3; clear hk3
      go_wp2_with (first | (go_at_call 62; refine (room_any b l.length _ hw2 hl).mono ?_; rintro e w2 ⟨rfl, rfl⟩) | (go_at_call 108; refine (values_in _ _ ⟨_, _, _, rfl⟩).mono ?_; rintro e w2 ⟨rfl, rfl⟩) | (go_at_call 107; refine (feedw b l v _ fs _ Ha3.out hl1 hf _ HB3.out Hs3.out).mono ?_; rintro e w3 ⟨rfl, hp⟩))
      go_ret
      refine ⟨rfl, ?_⟩
      obtain ⟨v2, hv1, hv2, hv3⟩ := hp
      refine ⟨v2, hv1, ?_, fun k hk => ?_⟩
      · exact ((hu.alloc _).mono (fun k _ hk => (noB k hk).elim)).trans hv2 (fun _ _ h => h)
      · rcases hv3 k hk with h | h
        · exact .inl h
        · have := hu.size; simp at h; exact .inr (by omega)
end Go.Proofs.Ytjnbnhnkjhnbkaa
