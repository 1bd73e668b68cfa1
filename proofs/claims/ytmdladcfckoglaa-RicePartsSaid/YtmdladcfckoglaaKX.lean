/- two writers side by side (carried over from the law of bits) -/
import Derived.Test.YtmdladcfckoglaaKQ
namespace Go.Proofs.Ytmdladcfckoglaa
open Go.RowKit Go.Shelf

/-- Both writers, with the same bits. -/
structure Two (w wr : World) (p q : Nat) (l : List Nat) (l2 : List Nat) (v u : Value) : Prop where
  wat : WAt wr p l v
  vat : VAt wr q l2 u
  upd : Upd NoB w wr
  nv : newB w v
  nu : newB w u
  part : ∀ k, v.ownBlock = some k → u.ownBlock ≠ some k
  len : l.length ≤ 1048576
theorem Two.later {w wr w2 : World} {p q : Nat} {l l2 : List Nat} {v u : Value} (h : Two w wr p q l l2 v u) (d : Upd NoB wr w2) : Two w w2 p q l l2 v u :=
  ⟨h.wat.upd d (fun k _ => noB k), h.vat.later d, h.upd.then d, h.nv, h.nu, h.part, h.len⟩
theorem Two.apart {w wr : World} {p q : Nat} {l l2 : List Nat} {v u : Value} (h : Two w wr p q l l2 v u) : p ≠ q ∧ v.ownBlock ≠ some q ∧ u.ownBlock ≠ some p := by
  refine ⟨fun e => ?_, row_ne h.wat.2.1 h.vat.1 (by decide), row_ne h.vat.2.1.1 h.wat.1 (by decide)⟩
  have h1 := h.wat.1
  have h2 := h.vat.1
  rw [e, h2] at h1
  simp at h1
theorem Two.step1 {w wr w2 : World} {p q : Nat} {l l2 bs : List Nat} {v u : Value} {bad : Prop} {r : Int} (h : Two w wr p q l l2 v u) (hp : w.heap.size ≤ p) (hr : WRes p v wr l bad bs (.returned (.int .i64 r)) w2) :
    ∃ v', Two w w2 p q (if r = 0 then l ++ bs else l) l2 v' u ∧ Upd (wfoot p v) wr w2 := by
  obtain ⟨r', e, ⟨_, rfl, d⟩ | ⟨_, _, rfl, d⟩ | ⟨_, hf, rfl, v', a', d, n'⟩⟩ := hr
  · cases e; exact ⟨v, by rw [if_neg (by decide)]; exact h.later d, d.mono (fun _ _ h => h.elim)⟩
  · cases e; exact ⟨v, by rw [if_neg (by decide)]; exact h.later d, d.mono (fun _ _ h => h.elim)⟩
  · cases e
    obtain ⟨e1, e2, e3⟩ := h.apart
    refine ⟨v', ?_, d⟩
    rw [if_pos rfl]
    refine ⟨a', h.vat.upd d (fun k hk hw => ?_), h.upd.trans d (fun i hi hw => ?_), fun k hk => ?_, h.nu, fun k hk hu => ?_, by rw [List.length_append]; exact hf⟩
    · rcases hk with rfl | hk <;> rcases hw with hw | hw
      · exact e1 hw.symm
      · exact e2 hw
      · subst hw; exact e3 hk
      · exact h.part k hw hk
    · rcases hw with rfl | hw
      · omega
      · have := h.nv i hw; omega
    · rcases n' k hk with h' | h'
      · exact h.nv k h'
      · have := h.upd.size; omega
    · rcases n' k hk with h' | h'
      · exact h.part k h' hu
      · have := (h.vat.2.1.1.lt k hu).2; omega
theorem Two.step2 {w wr w2 : World} {p q : Nat} {l l2 bs : List Nat} {v u : Value} {bad : Prop} {r : Int} (h : Two w wr p q l l2 v u) (hq : w.heap.size ≤ q) (hr : VRes q u wr l2 bad bs (.returned (.int .i64 r)) w2) :
    ∃ u', Two w w2 p q l (if r = 0 then l2 ++ bs else l2) v u' ∧ Upd (wfoot q u) wr w2 := by
  obtain ⟨r', e, ⟨_, rfl, d⟩ | ⟨_, _, rfl, d⟩ | ⟨_, hf, rfl, u', a', d, n'⟩⟩ := hr
  · cases e; exact ⟨u, by rw [if_neg (by decide)]; exact h.later d, d.mono (fun _ _ h => h.elim)⟩
  · cases e; exact ⟨u, by rw [if_neg (by decide)]; exact h.later d, d.mono (fun _ _ h => h.elim)⟩
  · cases e
    obtain ⟨e1, e2, e3⟩ := h.apart
    refine ⟨u', ?_, d⟩
    rw [if_pos rfl]
    refine ⟨h.wat.upd d (fun k hk hw => ?_), a', h.upd.trans d (fun i hi hw => ?_), h.nv, fun k hk => ?_, fun k hk hu => ?_, h.len⟩
    · rcases hk with rfl | hk <;> rcases hw with hw | hw
      · exact e1 hw
      · exact e3 hw
      · subst hw; exact e2 hk
      · exact h.part k hk hw
    · rcases hw with rfl | hw
      · omega
      · have := h.nu i hw; omega
    · rcases n' k hk with h' | h'
      · exact h.nu k h'
      · have := h.upd.size; omega
    · rcases n' k hu with h' | h'
      · exact h.part k hk h'
      · have := (h.wat.2.1.lt k hk).2; omega
theorem res_same {p q : Nat} {v u : Value} {wr w2 w3 w4 : World} {l bs : List Nat} {bad : Prop} {r r' : Int} (h : WRes p v wr l bad bs (.returned (.int .i64 r)) w2) (k : VRes q u w3 l bad bs (.returned (.int .i64 r')) w4) : r' = r := by
  obtain ⟨a, e, ha⟩ := h
  obtain ⟨b, e', hb⟩ := k
  cases e; cases e'
  rcases ha with ⟨h1, rfl, _⟩ | ⟨h1, h2, rfl, _⟩ | ⟨h1, h2, rfl, _⟩ <;> rcases hb with ⟨k1, rfl, _⟩ | ⟨k1, k2, rfl, _⟩ | ⟨k1, k2, rfl, _⟩ <;> first | rfl | exact absurd h1 k1 | exact absurd k1 h1 | omega
theorem two_foot {wr : World} {p : Nat} {l : List Nat} {v : Value} (h : WAt wr p l v) : ¬ wfoot p v wr.heap.size := by
  rintro (e | e)
  · have := lt_of_block h.1; omega
  · have := (h.2.1.lt _ e).2; omega
theorem two_foot2 {wr : World} {p : Nat} {l : List Nat} {v : Value} (h : VAt wr p l v) : ¬ wfoot p v wr.heap.size := by
  rintro (e | e)
  · have := lt_of_block h.1; omega
  · have := (h.2.1.1.lt _ e).2; omega
theorem VAt_new (w : World) : VAt (w.alloc (.cells #[.slice none 0 0] 37)) w.heap.size [] (.slice none 0 0) :=
  ⟨heap_alloc_new w _, row8_nil _, fun x hx => by simp at hx⟩
theorem two_start {w w1 : World} {p : Nat} (u1 : Upd NoB w w1) (h : WAt w1 p [] (.slice none 0 0)) : Two w (w1.alloc (.cells #[.slice none 0 0] 37)) p w1.heap.size [] [] (.slice none 0 0) (.slice none 0 0) :=
  ⟨h.upd ((Upd.refl NoB _).alloc _) (fun k _ => noB k), VAt_new w1, u1.alloc _, newB_nil _, newB_nil _, fun k hk => by simp [Value.ownBlock] at hk, Nat.zero_le _⟩
/-- What both answer. -/
noncomputable def rOf (l : List Nat) (bad : Prop) (bs : List Nat) : Int := open Classical in if bad then 1 else if 1048576 < l.length + bs.length then 2 else 0
theorem WRes.val {p : Nat} {v : Value} {w w' : World} {l bs : List Nat} {bad : Prop} {e : Ending} (h : WRes p v w l bad bs e w') : e = .returned (.int .i64 (rOf l bad bs)) := by
  obtain ⟨r, rfl, ⟨h1, rfl, _⟩ | ⟨h1, h2, rfl, _⟩ | ⟨h1, h2, rfl, _⟩⟩ := h <;> unfold rOf
  · rw [if_pos h1]
  · rw [if_neg h1, if_pos h2]
  · rw [if_neg h1, if_neg (by omega)]
theorem VRes.val {p : Nat} {v : Value} {w w' : World} {l bs : List Nat} {bad : Prop} {e : Ending} (h : VRes p v w l bad bs e w') : e = .returned (.int .i64 (rOf l bad bs)) := by
  obtain ⟨r, rfl, ⟨h1, rfl, _⟩ | ⟨h1, h2, rfl, _⟩ | ⟨h1, h2, rfl, _⟩⟩ := h <;> unfold rOf
  · rw [if_pos h1]
  · rw [if_neg h1, if_pos h2]
  · rw [if_neg h1, if_neg (by omega)]
theorem two_end {w wr : World} {p q : Nat} {l bs : List Nat} {v u : Value} {r r' : Int} (e : r' = r) (h : Two w wr p q (if r = 0 then l ++ bs else l) (if r' = 0 then l ++ bs else l) v u) : ∃ l', Two w wr p q l' l' v u := by
  subst e; exact ⟨_, h⟩

theorem Two.post1 {w wr w2 : World} {p q : Nat} {l l2 l' : List Nat} {v u : Value} (h : Two w wr p q l l2 v u) (hp : w.heap.size ≤ p) (hl : l'.length ≤ 1048576) (hr : WPost p v wr l' w2) : ∃ v', Two w w2 p q l' l2 v' u := by
  obtain ⟨v', a', d, n'⟩ := hr
  obtain ⟨e1, e2, e3⟩ := h.apart
  refine ⟨v', a', h.vat.upd d (fun k hk hw => ?_), h.upd.trans d (fun i hi hw => ?_), fun k hk => ?_, h.nu, fun k hk hu => ?_, hl⟩
  · rcases hk with rfl | hk <;> rcases hw with hw | hw
    · exact e1 hw.symm
    · exact e2 hw
    · subst hw; exact e3 hk
    · exact h.part k hw hk
  · rcases hw with rfl | hw
    · omega
    · have := h.nv i hw; omega
  · rcases n' k hk with h' | h'
    · exact h.nv k h'
    · have := h.upd.size; omega
  · rcases n' k hk with h' | h'
    · exact h.part k h' hu
    · have := (h.vat.2.1.1.lt k hu).2; omega
theorem Two.post2 {w wr w2 : World} {p q : Nat} {l l2 l' : List Nat} {v u : Value} (h : Two w wr p q l l2 v u) (hq : w.heap.size ≤ q) (hr : VPost q u wr l' w2) : ∃ u', Two w w2 p q l l' v u' := by
  obtain ⟨u', a', d, n'⟩ := hr
  obtain ⟨e1, e2, e3⟩ := h.apart
  refine ⟨u', h.wat.upd d (fun k hk hw => ?_), a', h.upd.trans d (fun i hi hw => ?_), h.nv, fun k hk => ?_, fun k hk hu => ?_, h.len⟩
  · rcases hk with rfl | hk <;> rcases hw with hw | hw
    · exact e1 hw
    · exact e3 hw
    · subst hw; exact e2 hk
    · exact h.part k hk hw
  · rcases hw with rfl | hw
    · omega
    · have := h.nu i hw; omega
  · rcases n' k hk with h' | h'
    · exact h.nu k h'
    · have := h.upd.size; omega
  · rcases n' k hu with h' | h'
    · exact h.part k hk h'
    · have := (h.wat.2.1.lt k hk).2; omega
end Go.Proofs.Ytmdladcfckoglaa
