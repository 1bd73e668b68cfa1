/- the reference's reader: next, value, At, Left, Seek -/
import Derived.Test.YtjnbnhnkjhnbkaaKW
namespace Go.Proofs.Ytjnbnhnkjhnbkaa
open Go.RowKit Go.Shelf

theorem run_slice2 {P : Program} (w : World) (t e : TypeId) (i : TypeInfo) (hu : P.underlying t = some (.slice e)) (hi : P.info? e = some i) (h1 : i.size = 1) (a : Option Addr) (n cap l h : Nat) (hl : l ≤ h) (hh : h ≤ cap) :
    (Instr.slice t (.slice a n cap) (some (.int .i64 (l : Int))) (some (.int .i64 (h : Int))) none).run P w = .ok (.slice (if cap = l then a else a.map (·.add l)) (h - l) (cap - l)) w := by
  simp [Instr.slice, Instr.sliceBounds, Instr.sliceBound, asIntOf, run_underlying hu, sizeOf, typeInfo, hi, h1, go_sem, hl, hh]
theorem Bytes.sub {w : World} {a : Option Addr} {cap : Nat} {bs : List Nat} (h : Bytes w (.slice a bs.length cap) bs) {l k : Nat} (hk : l + k ≤ bs.length) : Bytes w (.slice (if cap = l then a else a.map (·.add l)) k (cap - l)) ((bs.drop l).take k) := by
  obtain ⟨h1, a', cap', he, hlc, h2⟩ := h
  cases he
  have hlen : ((bs.drop l).take k).length = k := by simp; omega
  have hget : ∀ j, j < k → ((bs.drop l).take k).getD j 0 = bs.getD (l + j) 0 := fun j hj => by
    simp only [List.getD_eq_getElem?_getD, List.getElem?_take, if_pos hj, List.getElem?_drop]
  refine ⟨fun j => ?_, _, cap - l, by rw [hlen], by rw [hlen]; omega, ?_⟩
  · by_cases hj : j < k
    · rw [hget j hj]; exact h1 _
    · simp only [List.getD_eq_getElem?_getD]
      rw [List.getElem?_eq_none (by rw [hlen]; omega)]; simp
  · by_cases hk0 : k = 0
    · exact .inl (List.eq_nil_of_length_eq_zero (by rw [hlen, hk0]))
    · rcases h2 with rfl | ⟨b, off, rfl, h2⟩
      · simp at hk; omega
      · rw [if_neg (by omega)]
        refine .inr ⟨b, off + l, by rw [Option.map_some, addr_add], fun j hj => ?_⟩
        rw [hlen] at hj
        rw [hget j hj, Nat.add_assoc]
        exact h2 (l + j) (by omega)

/-- A reader of the reference: its bits, each a byte, and its place. -/
def QAt (w : World) (b : Nat) (sv : Value) (bs : List Nat) (at_ : Nat) : Prop :=
  w.heap[b]? = some (.cells #[sv, .int .i64 at_] 99 (0, 0)) ∧ Bytes w sv bs ∧ (∀ x ∈ bs, x ≤ 1) ∧ at_ ≤ bs.length ∧ bs.length ≤ 1048576 ∧ (bs ≠ [] → sv.ownBlock ≠ some b)
theorem QAt.c0 {w : World} {b : Nat} {sv : Value} {bs : List Nat} {at_ : Nat} (h : QAt w b sv bs at_) : w.cell? ⟨b, 0, none⟩ = some sv := blk_cell h.1 0
theorem QAt.c1 {w : World} {b : Nat} {sv : Value} {bs : List Nat} {at_ : Nat} (h : QAt w b sv bs at_) : w.cell? ⟨b, 1, none⟩ = some (.int .i64 at_) := blk_cell h.1 1
theorem QAt.drewN {w : World} {b : Nat} {sv : Value} {bs : List Nat} {at_ : Nat} (h : QAt w b sv bs at_) (n : Nat) : QAt (w.drewN n) b sv bs at_ :=
  ⟨h.1, bytes_later h.2.1 (upd_drewN (Upd.refl _ _) n), h.2.2⟩
theorem QAt.move {w : World} {b : Nat} {sv : Value} {bs : List Nat} {at_ : Nat} (h : QAt w b sv bs at_) (k : Nat) (hk : k ≤ bs.length) :
    QAt (w.setCell ⟨b, 1, none⟩ (.int .i64 k)) b sv bs k ∧ Upd (fun k => k = b) w (w.setCell ⟨b, 1, none⟩ (.int .i64 k)) := by
  have u : Upd (fun k => k = b) w (w.setCell ⟨b, 1, none⟩ (.int .i64 k)) := (Upd.refl _ w).setCell _ (fun _ => rfl)
  refine ⟨⟨?_, bytes_upd h.2.1 u (fun hz j hj e => h.2.2.2.2.2 hz (by rw [hj, e])), h.2.2.1, hk, h.2.2.2.2⟩, u⟩
  have := block_set (i := 1) h.1 (.int .i64 (k : Int))
  simpa using this
theorem QAt.upd {w w' : World} {b : Nat} {sv : Value} {bs : List Nat} {at_ : Nat} (h : QAt w b sv bs at_) {S : Nat → Prop} (u : Upd S w w') (hs : ∀ k, (k = b ∨ (bs ≠ [] ∧ sv.ownBlock = some k)) → ¬ S k) : QAt w' b sv bs at_ :=
  ⟨u.heap h.1 (hs b (.inl rfl)), bytes_upd h.2.1 u (fun hz k hk => hs k (.inr ⟨hz, hk⟩)), h.2.2⟩
theorem QAt.form {w : World} {b : Nat} {sv : Value} {bs : List Nat} {at_ : Nat} (h : QAt w b sv bs at_) : ∃ a cap, sv = .slice a bs.length cap ∧ bs.length ≤ cap := by
  obtain ⟨_, ⟨_, a, cap, rfl, hc, _⟩, _⟩ := h; exact ⟨a, cap, rfl, hc⟩

theorem qat_any (b : Nat) (at_ : Nat) (w : World) (h2 : w.cell? ⟨b, 1, none⟩ = some (.int .i64 at_)) :
    Calls Try.prog 40 #[.pointer (some ⟨b, 0, none⟩)] w fun e w' => e = .returned (.int .i64 at_) ∧ w = w' := by
  go_enter Try.func40, Try.ntmps40
  go_wp2
  go_ret
  exact ⟨rfl, rfl⟩
set_option maxRecDepth 100000 in
set_option maxHeartbeats 1000000 in
theorem qseek_any (b : Nat) (sv : Value) (bs : List Nat) (at_ : Nat) (n : Int) (w : World) (h : QAt w b sv bs at_) :
    Calls Try.prog 36 #[.pointer (some ⟨b, 0, none⟩), .int .i64 n] w fun e w' => e = .returned (.int .i64 (seekR bs.length at_ n).1) ∧ QAt w' b sv bs (seekR bs.length at_ n).2 ∧ Upd (fun k => k = b) w w' := by
  obtain ⟨a, cap, rfl, _⟩ := h.form
  have c0 := h.c0
  have c1 := h.c1
  have f1 := blk_free h.1 1
  have H := Lib.hid h; clear h
  by_cases h1 : n < 0
  · have hr : seekR bs.length at_ n = (6, at_) := if_pos (.inl h1)
    have Hr := Lib.hid hr; clear hr
    go_enter Try.func36, Try.ntmps36
    go_wp2
    go_ret
    rw [Hr.out]
    exact ⟨rfl, H.out, Upd.refl _ _⟩
  by_cases h2 : (bs.length : Int) < n
  · have hr : seekR bs.length at_ n = (6, at_) := if_pos (.inr h2)
    have Hr := Lib.hid hr; clear hr
    go_enter Try.func36, Try.ntmps36
    go_wp2
    go_ret
    rw [Hr.out]
    exact ⟨rfl, H.out, Upd.refl _ _⟩
  obtain ⟨m, rfl⟩ := Int.eq_ofNat_of_zero_le (show 0 ≤ n by omega)
  have hr : seekR bs.length at_ m = (0, m) := by rw [seekR, if_neg (by omega)]; rfl
  have hm := H.out.move m (by omega)
  have Hm := Lib.hid hm; have Hr := Lib.hid hr; clear hm hr
  go_enter Try.func36, Try.ntmps36
  go_wp2
  go_ret
  rw [Hr.out]
  exact ⟨rfl, Hm.out.1, Hm.out.2⟩

def nextR (bs : List Nat) (at_ : Nat) (n : Nat) : List Nat × Int × Nat := if (bs.length : Int) - at_ < n then ([], 3, at_) else ((bs.drop at_).take n, 0, at_ + n)
set_option maxRecDepth 100000 in
set_option maxHeartbeats 1000000 in
theorem next_any (b : Nat) (sv : Value) (bs : List Nat) (at_ n : Nat) (w : World) (h : QAt w b sv bs at_) :
    Calls Try.prog 99 #[.pointer (some ⟨b, 0, none⟩), .int .i64 n] w fun e w' => ∃ v, e = .returned (.tuple #[v, .int .i64 (nextR bs at_ n).2.1]) ∧ Bytes w' v (nextR bs at_ n).1 ∧ QAt w' b sv bs (nextR bs at_ n).2.2 ∧ Upd (fun k => k = b) w w' := by
  obtain ⟨a, cap, rfl, hcap⟩ := h.form
  have c0 := h.c0
  have c1 := h.c1
  have f1 := blk_free h.1 1
  have hl := h.2.2.2.2.1
  have ha := h.2.2.2.1
  have H := Lib.hid h; clear h
  obtain ⟨L, hL⟩ : ∃ L, L = bs.length := ⟨_, rfl⟩
  have HL := Lib.hid hL
  rw [← hL] at c0 hl ha hcap
  have k1 : IntKind.i64.wrap ((L : Int) - at_) = (L : Int) - at_ := IntWalk.i64_in _ (by omega)
  by_cases h3 : (L : Int) - at_ < n
  · have hr : nextR bs at_ n = ([], 3, at_) := by rw [nextR, ← hL, if_pos h3]
    have Hr := Lib.hid hr
    have t3 : decide ((L : Int) - at_ < n) = true := decide_eq_true h3
    rw [← hL]
    clear hr hL h3
    go_enter Try.func99, Try.ntmps99
    go_wp2
    go_quiet (fail)
    go_wp2
    go_ret2
    rw [Hr.out, HL.out]
    exact ⟨_, rfl, bytes_nil _, H.out.drewN _, upd_drewN (Upd.refl _ _) _⟩
  · have hr : nextR bs at_ n = ((bs.drop at_).take n, 0, at_ + n) := by rw [nextR, ← hL, if_neg h3]
    have Hr := Lib.hid hr
    have t3 : decide ((L : Int) - at_ < n) = false := decide_eq_false h3
    have hn : at_ + n ≤ L := by omega
    have hm := fun q => (H.out.drewN q).move (at_ + n) (by rw [← hL]; exact hn)
    have hsub := H.out.2.1.sub (l := at_) (k := n) (by rw [← hL]; exact hn)
    obtain ⟨i0, hi, hz0, hz1, hz2⟩ := info_parts Try.info5
    have hsl := fun (w : World) => run_slice2 (P := Try.prog) w 32 5 i0 Try.underlying32 hi hz1 a L cap at_ (at_ + n) (by omega) (by omega)
    have e0 : at_ + n - at_ = n := by omega
    simp only [e0, Int.natCast_add] at hsl
    obtain ⟨av, hav⟩ : ∃ av, av = (if cap = at_ then a else a.map (·.add at_)) := ⟨_, rfl⟩
    rw [← hav] at hsl hsub
    have hown : ∀ k, (Value.slice av n (cap - at_)).ownBlock = some k → (Value.slice a bs.length cap).ownBlock = some k := by
      intro k hk
      rw [hav] at hk
      cases a with
      | none => simp [Value.ownBlock] at hk
      | some ad =>
        by_cases hc : cap = at_
        · rw [if_pos hc] at hk; exact hk
        · rw [if_neg hc] at hk
          have ha : (ad.add at_).block = ad.block := by unfold Addr.add; split <;> rfl
          simpa [Value.ownBlock, ha] using hk
    have Hown := Lib.hid hown
    simp only [Int.natCast_add] at hm
    rw [← hL]
    have Hm := Lib.hid hm; have Hsub := Lib.hid hsub
    clear hr hL h3 hm hsub e0 hi hz0 hz1 hz2 hav hown
    go_enter Try.func99, Try.ntmps99
    go_wp2
    go_quiet (fail)
    go_wp2
    go_quiet (fail)
    go_wp2
    go_ret2
    rw [Hr.out, HL.out]
    rename_i n1
    have hm := Hm.out (n1 + nq)
    refine ⟨_, rfl, bytes_upd (bytes_later Hsub.out (upd_drewN (Upd.refl _ _) _)) hm.2 (fun hz k hk (e : k = b) => ?_), hm.1, (upd_drewN (Upd.refl _ _) _).trans hm.2 (fun _ _ h => h)⟩
    have hb : bs ≠ [] := by rintro rfl; exact hz (by simp)
    exact H.out.2.2.2.2.2 hb (by rw [Hown.out k hk, e])
end Go.Proofs.Ytjnbnhnkjhnbkaa
