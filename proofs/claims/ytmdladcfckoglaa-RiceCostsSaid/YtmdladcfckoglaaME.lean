/- the reference's reader: next, value, At, Left, Seek | the reference's reader: Get, Signed, Unary | the reference's reader: Unary | the reference's reader and the reader say the same -/
import Derived.Test.YtmdladcfckoglaaMD
namespace Go.Proofs.Ytmdladcfckoglaa
open Go.RowKit Go.Shelf

theorem run_slice2 {P : Program} (w : World) (t e : TypeId) (i : TypeInfo) (hu : P.underlying t = some (.slice e)) (hi : P.info? e = some i) (h1 : i.size = 1) (a : Option Addr) (n cap l h : Nat) (hl : l ≤ h) (hh : h ≤ cap) :
    (Instr.slice t (.slice a n cap) (some (.int .i64 (l : Int))) (some (.int .i64 (h : Int))) none).run P w = .ok (.slice (if cap = l then a else a.map (·.add l)) (h - l) (cap - l)) w := by
  simp [Instr.slice, Instr.sliceBounds, Instr.sliceBound, asIntOf, run_underlying hu, sizeOf, typeInfo, hi, h1, go_sem, hl, hh]
theorem Bytes.sub {w : World} {a : Option Addr} {cap : Nat} {bs : List Nat} (h : Bytes w (.slice a bs.length cap) bs) {l k : Nat} (hk : l + k ≤ bs.length) : Bytes w (.slice (if cap = l then a else a.map (·.add l)) k (cap - l)) ((bs.drop l).take k) := by
  obtain ⟨h1, a', cap', he, hlc, h2⟩ := h
  cases he
  have hlen : ((bs.drop l).take k).length = k := by simp; omega
  have hget : ∀ j, j < k → ((bs.drop l).take k).getD j 0 = bs.getD (l + j) 0 := fun j hj => by
    simp only [List.getD_eq_getElem?_getD, List.getElem?_take, if_pos hj, List.getElem?_drop]
  refine ⟨fun j => ?_, _, cap - l, by rw [hlen], by rw [hlen]; omega, ?_⟩
  · by_cases hj : j < k
    · rw [hget j hj]; exact h1 _
    · simp only [List.getD_eq_getElem?_getD]
      rw [List.getElem?_eq_none (by rw [hlen]; omega)]; simp
  · by_cases hk0 : k = 0
    · exact .inl (List.eq_nil_of_length_eq_zero (by rw [hlen, hk0]))
    · rcases h2 with rfl | ⟨b, off, rfl, h2⟩
      · simp at hk; omega
      · rw [if_neg (by omega)]
        refine .inr ⟨b, off + l, by rw [Option.map_some, addr_add], fun j hj => ?_⟩
        rw [hlen] at hj
        rw [hget j hj, Nat.add_assoc]
        exact h2 (l + j) (by omega)

/-- A reader of the reference: its bits, each a byte, and its place. -/
def QAt (w : World) (b : Nat) (sv : Value) (bs : List Nat) (at_ : Nat) : Prop :=
  w.heap[b]? = some (.cells #[sv, .int .i64 at_] 99 (0, 0)) ∧ Bytes w sv bs ∧ (∀ x ∈ bs, x ≤ 1) ∧ at_ ≤ bs.length ∧ bs.length ≤ 1048576 ∧ (bs ≠ [] → sv.ownBlock ≠ some b)
theorem QAt.c0 {w : World} {b : Nat} {sv : Value} {bs : List Nat} {at_ : Nat} (h : QAt w b sv bs at_) : w.cell? ⟨b, 0, none⟩ = some sv := blk_cell h.1 0
theorem QAt.c1 {w : World} {b : Nat} {sv : Value} {bs : List Nat} {at_ : Nat} (h : QAt w b sv bs at_) : w.cell? ⟨b, 1, none⟩ = some (.int .i64 at_) := blk_cell h.1 1
theorem QAt.drewN {w : World} {b : Nat} {sv : Value} {bs : List Nat} {at_ : Nat} (h : QAt w b sv bs at_) (n : Nat) : QAt (w.drewN n) b sv bs at_ :=
  ⟨h.1, bytes_later h.2.1 (upd_drewN (Upd.refl _ _) n), h.2.2⟩
theorem QAt.move {w : World} {b : Nat} {sv : Value} {bs : List Nat} {at_ : Nat} (h : QAt w b sv bs at_) (k : Nat) (hk : k ≤ bs.length) :
    QAt (w.setCell ⟨b, 1, none⟩ (.int .i64 k)) b sv bs k ∧ Upd (fun k => k = b) w (w.setCell ⟨b, 1, none⟩ (.int .i64 k)) := by
  have u : Upd (fun k => k = b) w (w.setCell ⟨b, 1, none⟩ (.int .i64 k)) := (Upd.refl _ w).setCell _ (fun _ => rfl)
  refine ⟨⟨?_, bytes_upd h.2.1 u (fun hz j hj e => h.2.2.2.2.2 hz (by rw [hj, e])), h.2.2.1, hk, h.2.2.2.2⟩, u⟩
  have := block_set (i := 1) h.1 (.int .i64 (k : Int))
  simpa using this
theorem QAt.upd {w w' : World} {b : Nat} {sv : Value} {bs : List Nat} {at_ : Nat} (h : QAt w b sv bs at_) {S : Nat → Prop} (u : Upd S w w') (hs : ∀ k, (k = b ∨ (bs ≠ [] ∧ sv.ownBlock = some k)) → ¬ S k) : QAt w' b sv bs at_ :=
  ⟨u.heap h.1 (hs b (.inl rfl)), bytes_upd h.2.1 u (fun hz k hk => hs k (.inr ⟨hz, hk⟩)), h.2.2⟩
theorem QAt.form {w : World} {b : Nat} {sv : Value} {bs : List Nat} {at_ : Nat} (h : QAt w b sv bs at_) : ∃ a cap, sv = .slice a bs.length cap ∧ bs.length ≤ cap := by
  obtain ⟨_, ⟨_, a, cap, rfl, hc, _⟩, _⟩ := h; exact ⟨a, cap, rfl, hc⟩

theorem qat_any (b : Nat) (at_ : Nat) (w : World) (h2 : w.cell? ⟨b, 1, none⟩ = some (.int .i64 at_)) :
    Calls Try.prog 40 #[.pointer (some ⟨b, 0, none⟩)] w fun e w' => e = .returned (.int .i64 at_) ∧ w = w' := by
  go_enter Try.func40, Try.ntmps40
  go_wp2
  go_ret
  exact ⟨rfl, rfl⟩
set_option maxRecDepth 100000 in
set_option maxHeartbeats 1000000 in
theorem qseek_any (b : Nat) (sv : Value) (bs : List Nat) (at_ : Nat) (n : Int) (w : World) (h : QAt w b sv bs at_) :
    Calls Try.prog 36 #[.pointer (some ⟨b, 0, none⟩), .int .i64 n] w fun e w' => e = .returned (.int .i64 (seekR bs.length at_ n).1) ∧ QAt w' b sv bs (seekR bs.length at_ n).2 ∧ Upd (fun k => k = b) w w' := by
  obtain ⟨a, cap, rfl, _⟩ := h.form
  have c0 := h.c0
  have c1 := h.c1
  have f1 := blk_free h.1 1
  have H := Lib.hid h; clear h
  by_cases h1 : n < 0
  · have hr : seekR bs.length at_ n = (6, at_) := if_pos (.inl h1)
    have Hr := Lib.hid hr; clear hr
    go_enter Try.func36, Try.ntmps36
    go_wp2
    go_ret
    rw [Hr.out]
    exact ⟨rfl, H.out, Upd.refl _ _⟩
  by_cases h2 : (bs.length : Int) < n
  · have hr : seekR bs.length at_ n = (6, at_) := if_pos (.inr h2)
    have Hr := Lib.hid hr; clear hr
    go_enter Try.func36, Try.ntmps36
    go_wp2
    go_ret
    rw [Hr.out]
    exact ⟨rfl, H.out, Upd.refl _ _⟩
  obtain ⟨m, rfl⟩ := Int.eq_ofNat_of_zero_le (show 0 ≤ n by omega)
  have hr : seekR bs.length at_ m = (0, m) := by rw [seekR, if_neg (by omega)]; rfl
  have hm := H.out.move m (by omega)
  have Hm := Lib.hid hm; have Hr := Lib.hid hr; clear hm hr
  go_enter Try.func36, Try.ntmps36
  go_wp2
  go_ret
  rw [Hr.out]
  exact ⟨rfl, Hm.out.1, Hm.out.2⟩

def nextR (bs : List Nat) (at_ : Nat) (n : Nat) : List Nat × Int × Nat := if (bs.length : Int) - at_ < n then ([], 3, at_) else ((bs.drop at_).take n, 0, at_ + n)
set_option maxRecDepth 100000 in
set_option maxHeartbeats 1000000 in
theorem next_any (b : Nat) (sv : Value) (bs : List Nat) (at_ n : Nat) (w : World) (h : QAt w b sv bs at_) :
    Calls Try.prog 99 #[.pointer (some ⟨b, 0, none⟩), .int .i64 n] w fun e w' => ∃ v, e = .returned (.tuple #[v, .int .i64 (nextR bs at_ n).2.1]) ∧ Bytes w' v (nextR bs at_ n).1 ∧ QAt w' b sv bs (nextR bs at_ n).2.2 ∧ Upd (fun k => k = b) w w' := by
  obtain ⟨a, cap, rfl, hcap⟩ := h.form
  have c0 := h.c0
  have c1 := h.c1
  have f1 := blk_free h.1 1
  have hl := h.2.2.2.2.1
  have ha := h.2.2.2.1
  have H := Lib.hid h; clear h
  obtain ⟨L, hL⟩ : ∃ L, L = bs.length := ⟨_, rfl⟩
  have HL := Lib.hid hL
  rw [← hL] at c0 hl ha hcap
  have k1 : IntKind.i64.wrap ((L : Int) - at_) = (L : Int) - at_ := IntWalk.i64_in _ (by omega)
  by_cases h3 : (L : Int) - at_ < n
  · have hr : nextR bs at_ n = ([], 3, at_) := by rw [nextR, ← hL, if_pos h3]
    have Hr := Lib.hid hr
    have t3 : decide ((L : Int) - at_ < n) = true := decide_eq_true h3
    rw [← hL]
    clear hr hL h3
    go_enter Try.func99, Try.ntmps99
    go_wp2
    go_quiet (fail)
    go_wp2
    go_ret2
    rw [Hr.out, HL.out]
    exact ⟨_, rfl, bytes_nil _, H.out.drewN _, upd_drewN (Upd.refl _ _) _⟩
  · have hr : nextR bs at_ n = ((bs.drop at_).take n, 0, at_ + n) := by rw [nextR, ← hL, if_neg h3]
    have Hr := Lib.hid hr
    have t3 : decide ((L : Int) - at_ < n) = false := decide_eq_false h3
    have hn : at_ + n ≤ L := by omega
    have hm := fun q => (H.out.drewN q).move (at_ + n) (by rw [← hL]; exact hn)
    have hsub := H.out.2.1.sub (l := at_) (k := n) (by rw [← hL]; exact hn)
    obtain ⟨i0, hi, hz0, hz1, hz2⟩ := info_parts Try.info5
    have hsl := fun (w : World) => run_slice2 (P := Try.prog) w 32 5 i0 Try.underlying32 hi hz1 a L cap at_ (at_ + n) (by omega) (by omega)
    have e0 : at_ + n - at_ = n := by omega
    simp only [e0, Int.natCast_add] at hsl
    obtain ⟨av, hav⟩ : ∃ av, av = (if cap = at_ then a else a.map (·.add at_)) := ⟨_, rfl⟩
    rw [← hav] at hsl hsub
    have hown : ∀ k, (Value.slice av n (cap - at_)).ownBlock = some k → (Value.slice a bs.length cap).ownBlock = some k := by
      intro k hk
      rw [hav] at hk
      cases a with
      | none => simp [Value.ownBlock] at hk
      | some ad =>
        by_cases hc : cap = at_
        · rw [if_pos hc] at hk; exact hk
        · rw [if_neg hc] at hk
          have ha : (ad.add at_).block = ad.block := by unfold Addr.add; split <;> rfl
          simpa [Value.ownBlock, ha] using hk
    have Hown := Lib.hid hown
    simp only [Int.natCast_add] at hm
    rw [← hL]
    have Hm := Lib.hid hm; have Hsub := Lib.hid hsub
    clear hr hL h3 hm hsub e0 hi hz0 hz1 hz2 hav hown
    go_enter Try.func99, Try.ntmps99
    go_wp2
    go_quiet (fail)
    go_wp2
    go_quiet (fail)
    go_wp2
    go_ret2
    rw [Hr.out, HL.out]
    rename_i n1
    have hm := Hm.out (n1 + nq)
    refine ⟨_, rfl, bytes_upd (bytes_later Hsub.out (upd_drewN (Upd.refl _ _) _)) hm.2 (fun hz k hk (e : k = b) => ?_), hm.1, (upd_drewN (Upd.refl _ _) _).trans hm.2 (fun _ _ h => h)⟩
    have hb : bs ≠ [] := by rintro rfl; exact hz (by simp)
    exact H.out.2.2.2.2.2 hb (by rw [Hown.out k hk, e])
end Go.Proofs.Ytmdladcfckoglaa

namespace Go.Proofs.Ytmdladcfckoglaa
open Go.RowKit Go.Shelf

set_option maxRecDepth 100000 in
set_option maxHeartbeats 1000000 in
theorem qvalue_any (sv : Value) (bs : List Nat) (w : World) (h : Bytes w sv bs) (h01 : ∀ x ∈ bs, x ≤ 1) (hl : bs.length ≤ 40) :
    Calls Try.prog 100 #[sv] w fun e w' => e = .returned (.int .i64 (valBits bs : Nat)) ∧ w = w' := by
  obtain ⟨_, a, cap, rfl, _, hz⟩ := h
  have HZ := Lib.hid hz; clear hz
  have H01 := Lib.hid h01; clear h01
  obtain ⟨L, hL⟩ : ∃ L, L = bs.length := ⟨_, rfl⟩
  have HL := Lib.hid hL
  rw [← hL] at hl ⊢
  clear hL
  go_enter Try.func100, Try.ntmps100
  go_wp2
  go_loop [3, 8] (fun v i => ∃ k : Nat, k ≤ L ∧ i = .int .i64 k ∧ v = .int .i64 (valBits (bs.take k) : Nat)) (fun _ i => L - (intOf i).toNat)
  case atStart => exact ⟨0, Nat.zero_le _, rfl, rfl⟩
  case round =>
    obtain ⟨k, hk, rfl, rfl⟩ := hrel
    by_cases hlt : k < L
    · obtain ⟨x, hx⟩ : ∃ x, bs[k]? = some x := ⟨_, List.getElem?_eq_getElem (by rw [← HL.out]; exact hlt)⟩
      have hx1 := H01.out x (List.mem_of_getElem? hx)
      have hnext : valBits (bs.take (k + 1)) = 2 * valBits (bs.take k) + x := by rw [List.take_add_one, hx]; exact valBits_snoc _ _
      have hv : valBits (bs.take k) < 2 ^ 40 := Nat.lt_of_lt_of_le (valBits_lt (fun y hy => H01.out y (List.mem_of_mem_take hy))) (Nat.pow_le_pow_right (by decide) (by rw [List.length_take]; omega))
      rcases HZ.out with hz | ⟨b, off, rfl, hz⟩
      · rw [hz] at hx; simp at hx
      have hcell := hz k (by rw [← HL.out]; exact hlt)
      rw [List.getD_eq_getElem?_getD, hx] at hcell
      simp only [Option.getD_some] at hcell
      generalize valBits (bs.take k) = v at *
      have hv2 : v < 1099511627776 := hv
      have Hx := Lib.hid hx; have Hnext := Lib.hid hnext
      clear hz hx hnext hv
      go_wp2
      go_round
      case rel => exact ⟨k + 1, by omega, by go_num, by rw [Hnext.out]; go_num⟩
      case measure => simp [intOf]; omega
    · obtain rfl : k = L := by omega
      go_wp2
      go_ret
      rw [HL.out, List.take_length]
      exact ⟨rfl, rfl⟩

def getQ (bs : List Nat) (at_ : Nat) (n : Int) : Int × Int × Nat :=
  if n < 0 ∨ 32 < n then (0, 1, at_) else ((valBits (nextR bs at_ n.toNat).1 : Int), (nextR bs at_ n.toNat).2)
/-- What a call of a reader of the reference comes to. -/
def QRes (b : Nat) (sv : Value) (bs : List Nat) (w : World) (r : Int × Int × Nat) (e : Ending) (w' : World) : Prop :=
  e = .returned (.tuple #[.int .i64 r.1, .int .i64 r.2.1]) ∧ QAt w' b sv bs r.2.2 ∧ Upd (fun k => k = b) w w'
theorem nextR_len (bs : List Nat) (at_ n : Nat) : (nextR bs at_ n).1.length ≤ n := by
  unfold nextR; split
  · simp
  · simp; omega
theorem nextR_01 {bs : List Nat} (h : ∀ x ∈ bs, x ≤ 1) (at_ n : Nat) : ∀ x ∈ (nextR bs at_ n).1, x ≤ 1 := by
  unfold nextR; split
  · simp
  · intro x hx; exact h x (List.mem_of_mem_drop (List.mem_of_mem_take hx))
theorem qget_nil (n : Int) (w : World) : Calls Try.prog 80 #[.pointer none, .int .i64 n] w fun e w' => e = .returned (.tuple #[.int .i64 0, .int .i64 1]) ∧ w = w' := by
  go_enter Try.func80, Try.ntmps80
  go_wp2
  go_ret2
  exact ⟨rfl, rfl⟩
set_option maxRecDepth 100000 in
set_option maxHeartbeats 1000000 in
theorem qget_any (b : Nat) (sv : Value) (bs : List Nat) (at_ : Nat) (n : Int) (w : World) (h : QAt w b sv bs at_) :
    Calls Try.prog 80 #[.pointer (some ⟨b, 0, none⟩), .int .i64 n] w fun e w' => QRes b sv bs w (getQ bs at_ n) e w' := by
  have H := Lib.hid h; clear h
  by_cases h1 : n < 0
  · have hr : getQ bs at_ n = (0, 1, at_) := if_pos (.inl h1)
    have Hr := Lib.hid hr; clear hr
    go_enter Try.func80, Try.ntmps80
    go_wp2
    go_ret2
    rw [Hr.out]
    exact ⟨rfl, H.out, Upd.refl _ _⟩
  by_cases h2 : 32 < n
  · have hr : getQ bs at_ n = (0, 1, at_) := if_pos (.inr h2)
    have Hr := Lib.hid hr; clear hr
    go_enter Try.func80, Try.ntmps80
    go_wp2
    go_ret2
    rw [Hr.out]
    exact ⟨rfl, H.out, Upd.refl _ _⟩
  obtain ⟨m, rfl⟩ := Int.eq_ofNat_of_zero_le (show 0 ≤ n by omega)
  have hr : getQ bs at_ m = ((valBits (nextR bs at_ m).1 : Int), (nextR bs at_ m).2) := by rw [getQ, if_neg (by omega), Int.toNat_natCast]
  have hlen := nextR_len bs at_ m
  have h01 := nextR_01 H.out.2.2.1 at_ m
  have Hr := Lib.hid hr; have Hlen := Lib.hid hlen; have H01 := Lib.hid h01
  clear hr hlen h01
  go_enter Try.func80, Try.ntmps80
  go_wp2_with fail
  refine (next_any b sv bs at_ m w H.out).mono ?_
  rintro e w2 ⟨v, rfl, hb, hq, hu⟩
  obtain ⟨va, vc, rfl⟩ : ∃ va vc, v = .slice va (nextR bs at_ m).1.length vc := by obtain ⟨_, a, c, he, _⟩ := hb; exact ⟨a, c, he⟩
  generalize nextR bs at_ m = R at *
  obtain ⟨R1, R2, R3⟩ := R
  have HB := Lib.hid hb; have HQ := Lib.hid hq; have HU := Lib.hid hu
  clear hb hq hu
  go_wp2_with fail
  refine (qvalue_any _ R1 w2 HB.out H01.out (by have := Hlen.out; have : R1.length ≤ m := this; omega)).mono ?_
  rintro e w3 ⟨rfl, rfl⟩
  go_wp2_with fail
  go_ret2
  rw [Hr.out]
  exact ⟨rfl, HQ.out, HU.out⟩
end Go.Proofs.Ytmdladcfckoglaa

namespace Go.Proofs.Ytmdladcfckoglaa
open Go.RowKit Go.Shelf

def unaQ (bs : List Nat) (at_ : Nat) (n : Int) : Int × Int × Nat :=
  if n < 0 ∨ 1000 < n then (0, 1, at_) else
    if (zscan n.toNat (bs.drop at_) 0).2 = 0 then ((zscan n.toNat (bs.drop at_) 0).1, 0, at_ + ((zscan n.toNat (bs.drop at_) 0).1 + 1)) else (0, (zscan n.toNat (bs.drop at_) 0).2, at_)
theorem zscan_at {l : List Nat} {k m : Nat} (h : ∀ j, j < k → l[j]? = some 0) (hk : k ≤ m) : zscan m l 0 = zscan m (l.drop k) k := by
  have hl : (l.take k).length = k := by
    rw [List.length_take]
    by_cases hk0 : k = 0
    · omega
    · have := (List.getElem?_eq_some_iff.1 (h (k - 1) (by omega))).1
      omega
  have hz : ∀ y ∈ l.take k, y = 0 := fun y hy => by
    obtain ⟨j, hj⟩ := List.getElem?_of_mem hy
    rw [List.getElem?_take] at hj
    by_cases hjk : j < k
    · rw [if_pos hjk, h j hjk] at hj; cases hj; rfl
    · rw [if_neg hjk] at hj; cases hj
  have := zscan_skip m (l.take k) (l.drop k) 0 hz (by omega)
  rw [List.take_append_drop, hl, Nat.zero_add] at this
  exact this
theorem zscan_one {l : List Nat} {k m : Nat} (h : ∀ j, j < k → l[j]? = some 0) (hk : k ≤ m) (h1 : l[k]? = some 1) : zscan m l 0 = (k, 0) := by
  rw [zscan_at h hk, List.drop_eq_getElem_cons (List.getElem?_eq_some_iff.1 h1).1, (List.getElem?_eq_some_iff.1 h1).2]
  rfl
theorem zscan_short {l : List Nat} {k m : Nat} (h : ∀ j, j < k → l[j]? = some 0) (hk : k ≤ m) (h1 : l.length ≤ k) : zscan m l 0 = (0, 3) := by
  rw [zscan_at h hk, List.drop_of_length_le h1]
  rfl
theorem zscan_form {l : List Nat} {m : Nat} (h : ∀ j, j < m + 1 → l[j]? = some 0) : zscan m l 0 = (0, 4) := by
  have h1 := h m (by omega)
  rw [zscan_at (fun j hj => h j (by omega)) (Nat.le_refl m), List.drop_eq_getElem_cons (List.getElem?_eq_some_iff.1 h1).1, (List.getElem?_eq_some_iff.1 h1).2, zscan, if_neg (by decide), if_pos rfl]
theorem qunary_nil (n : Int) (w : World) : Calls Try.prog 79 #[.pointer none, .int .i64 n] w fun e w' => e = .returned (.tuple #[.int .i64 0, .int .i64 1]) ∧ w = w' := by
  go_enter Try.func79, Try.ntmps79
  go_wp2
  go_ret2
  exact ⟨rfl, rfl⟩
set_option maxRecDepth 100000 in
set_option maxHeartbeats 2000000 in
theorem qunary_any (b : Nat) (sv : Value) (bs : List Nat) (at_ : Nat) (n : Int) (w : World) (h : QAt w b sv bs at_) :
    Calls Try.prog 79 #[.pointer (some ⟨b, 0, none⟩), .int .i64 n] w fun e w' => QRes b sv bs w (unaQ bs at_ n) e w' := by
  obtain ⟨a, cap, rfl, hcap⟩ := h.form
  have c0 := h.c0
  have c1 := h.c1
  have f1 := blk_free h.1 1
  have hl := h.2.2.2.2.1
  have ha := h.2.2.2.1
  have H := Lib.hid h; clear h
  by_cases h1 : n < 0
  · have hr : unaQ bs at_ n = (0, 1, at_) := if_pos (.inl h1)
    have Hr := Lib.hid hr; clear hr
    go_enter Try.func79, Try.ntmps79
    go_wp2
    go_ret2
    rw [Hr.out]
    exact ⟨rfl, H.out, Upd.refl _ _⟩
  by_cases h2 : 1000 < n
  · have hr : unaQ bs at_ n = (0, 1, at_) := if_pos (.inr h2)
    have Hr := Lib.hid hr; clear hr
    go_enter Try.func79, Try.ntmps79
    go_wp2
    go_ret2
    rw [Hr.out]
    exact ⟨rfl, H.out, Upd.refl _ _⟩
  obtain ⟨m, rfl⟩ := Int.eq_ofNat_of_zero_le (show 0 ≤ n by omega)
  have hr : unaQ bs at_ m = if (zscan m (bs.drop at_) 0).2 = 0 then (((zscan m (bs.drop at_) 0).1 : Int), 0, at_ + ((zscan m (bs.drop at_) 0).1 + 1)) else (0, ((zscan m (bs.drop at_) 0).2 : Int), at_) := by
    rw [unaQ, if_neg (by omega), Int.toNat_natCast]
  have Hr := Lib.hid hr; clear hr
  obtain ⟨L, hL⟩ : ∃ L, L = bs.length := ⟨_, rfl⟩
  have HL := Lib.hid hL
  rw [← hL] at c0 hl ha hcap
  rw [← hL]
  clear hL
  go_enter Try.func79, Try.ntmps79
  go_wp2
  go_loopw [6] (fun i wr => ∃ k q : Nat, k ≤ m + 1 ∧ i = .int .i64 k ∧ (∀ j, j < k → (bs.drop at_)[j]? = some 0) ∧ wr = w.drewN q) (fun i _ => m + 1 - (intOf i).toNat)
  case atStart => exact ⟨0, 0, Nat.zero_le _, rfl, fun j hj => absurd hj (Nat.not_lt_zero _), rfl⟩
  case round =>
    obtain ⟨k, q, hk, rfl, hz, rfl⟩ := hrel
    have Hz := Lib.hid hz; clear hz
    by_cases hlt : k ≤ m
    · have t1 : decide ((k : Int) ≤ (m : Int)) = true := decide_eq_true (by omega)
      have k1 : IntKind.i64.wrap ((at_ : Int) + k) = ((at_ + k : Nat) : Int) := by rw [IntWalk.i64_in _ (by omega)]; omega
      by_cases hsh : L ≤ at_ + k
      · have t2 : decide ((L : Int) ≤ ((at_ + k : Nat) : Int)) = true := decide_eq_true (by omega)
        have hs := zscan_short Hz.out hlt (by rw [List.length_drop, ← HL.out]; omega)
        have Hs := Lib.hid hs; clear hs
        generalize at_ + k = p at *
        go_wp2
        go_quiet (fail)
        go_wp2
        go_ret2
        rw [Hr.out, Hs.out, HL.out]
        exact ⟨rfl, (H.out.drewN _).drewN _, upd_drewN (upd_drewN (Upd.refl _ _) _) _⟩
      · have t2 : decide ((L : Int) ≤ ((at_ + k : Nat) : Int)) = false := decide_eq_false (by omega)
        obtain ⟨x, hx⟩ : ∃ x, bs[at_ + k]? = some x := ⟨_, List.getElem?_eq_getElem (by rw [← HL.out]; omega)⟩
        have hx1 := H.out.2.2.1 x (List.mem_of_getElem? hx)
        have hcell : ∃ sb so, a = some ⟨sb, so, none⟩ ∧ w.cell? ⟨sb, so + (at_ + k), none⟩ = some (.int .u8 x) := by
          obtain ⟨_, a', c', he, _, hz⟩ := H.out.2.1
          cases he
          rcases hz with hz | ⟨sb, so, rfl, hz⟩
          · rw [hz] at hx; simp at hx
          · refine ⟨sb, so, rfl, ?_⟩
            have := hz (at_ + k) (by rw [← HL.out]; omega)
            rwa [List.getD_eq_getElem?_getD, hx] at this
        obtain ⟨sb, so, rfl, hcell⟩ := hcell
        have hpl : at_ + k < L := by omega
        have hdx : (bs.drop at_)[k]? = some x := by rw [List.getElem?_drop]; exact hx
        have Hx := Lib.hid hdx
        obtain ⟨p, hp⟩ : ∃ p, p = at_ + k := ⟨_, rfl⟩
        rw [← hp] at k1 t2 hcell hpl
        have Hp := Lib.hid hp
        clear hx hdx hp hsh
        by_cases hx0 : x = 1
        · subst hx0
          have hs := zscan_one Hz.out hlt Hx.out
          have Hs := Lib.hid hs; clear hs
          have hmv := fun q2 => (H.out.drewN q2).move (p + 1) (by rw [← HL.out]; omega)
          have Hmv := Lib.hid hmv; clear hmv
          have e1 : (at_ : Int) + (k + 1) = ((p + 1 : Nat) : Int) := by have := Hp.out; omega
          have He1 := Lib.hid e1; clear e1
          go_wp2
          go_quiet (fail)
          go_wp2
          go_quiet (fail)
          go_wp2
          go_ret2
          rw [Hr.out, Hs.out, He1.out, HL.out]
          rename_i n1 _
          have hm := Hmv.out (q + n1 + nq)
          have e2 : p + 1 = at_ + (k + 1) := by have := Hp.out; omega
          refine ⟨rfl, ?_, ?_⟩
          · show QAt _ b _ bs (at_ + (k + 1))
            rw [← e2]
            exact hm.1
          · exact (upd_drewN (Upd.refl _ _) _).trans hm.2 (fun _ _ h => h)
        · have hx0' : x = 0 := by omega
          subst hx0'
          go_wp2
          go_quiet (fail)
          go_wp2
          go_quiet (fail)
          go_wp2
          go_roundw
          case rel =>
            refine ⟨k + 1, _, by omega, by go_num, fun j hj => ?_, rfl⟩
            by_cases hjk : j < k
            · exact Hz.out j hjk
            · obtain rfl : j = k := by omega
              exact Hx.out
          case measure => simp [intOf]; omega
    · obtain rfl : k = m + 1 := by omega
      have hs := zscan_form Hz.out
      have Hs := Lib.hid hs; clear hs
      go_wp2
      go_ret2
      rw [Hr.out, Hs.out, HL.out]
      exact ⟨rfl, H.out.drewN _, upd_drewN (Upd.refl _ _) _⟩
end Go.Proofs.Ytmdladcfckoglaa

namespace Go.Proofs.Ytmdladcfckoglaa
open Go.RowKit Go.Shelf

theorem bitsOf_get (zs : List Nat) (s n k : Nat) : (bitsOf zs s n)[k]? = if k < n then some (bitOf zs (s + k)) else none := by
  unfold bitsOf
  by_cases h : k < n
  · rw [if_pos h]; simp [h]
  · rw [if_neg h]; exact List.getElem?_eq_none (by simp; omega)
theorem bitsOf_drop (zs : List Nat) (s n k : Nat) : (bitsOf zs s n).drop k = bitsOf zs (s + k) (n - k) := by
  refine List.ext_getElem? fun j => ?_
  rw [List.getElem?_drop, bitsOf_get, bitsOf_get]
  by_cases h : k + j < n
  · rw [if_pos h, if_pos (by omega), Nat.add_assoc]
  · rw [if_neg h, if_neg (by omega)]
theorem bitsOf_firsts (zs : List Nat) (s n k : Nat) (h : k ≤ n) : (bitsOf zs s n).take k = bitsOf zs s k := by
  refine List.ext_getElem? fun j => ?_
  rw [List.getElem?_take, bitsOf_get, bitsOf_get]
  by_cases hj : j < k
  · rw [if_pos hj, if_pos (by omega), if_pos hj]
  · rw [if_neg hj, if_neg hj]
theorem nextR_bits (zs : List Nat) (cnt at_ n : Nat) (h : at_ ≤ cnt) : nextR (bitsOf zs 0 cnt) at_ n = if (cnt : Int) - at_ < n then ([], 3, at_) else (bitsOf zs at_ n, 0, at_ + n) := by
  unfold nextR
  rw [bitsOf_length, bitsOf_drop, Nat.zero_add]
  by_cases h3 : (cnt : Int) - at_ < n
  · rw [if_pos h3, if_pos h3]
  · rw [if_neg h3, if_neg h3, bitsOf_firsts _ _ _ _ (by omega)]
theorem getQ_eq (zs : List Nat) (cnt at_ : Nat) (n : Int) (h : at_ ≤ cnt) : getQ (bitsOf zs 0 cnt) at_ n = getR zs cnt at_ n := by
  unfold getQ getR
  by_cases h1 : n < 0 ∨ 32 < n
  · rw [if_pos h1, if_pos h1]
  · rw [if_neg h1, if_neg h1, nextR_bits _ _ _ _ h, Int.toNat_of_nonneg (by omega)]
    by_cases h3 : (cnt : Int) - at_ < n
    · rw [if_pos h3, if_pos h3]; rfl
    · rw [if_neg h3, if_neg h3]
theorem valBits_cons (x : Nat) (l : List Nat) : valBits (x :: l) = x * 2 ^ l.length + valBits l := by
  have : ∀ (l : List Nat) (v : Nat), l.foldl (fun v x => 2 * v + x) v = v * 2 ^ l.length + l.foldl (fun v x => 2 * v + x) 0 := by
    intro l
    induction l with
    | nil => intro v; simp
    | cons y l ih =>
      intro v
      rw [List.foldl_cons, ih, List.foldl_cons, ih (2 * 0 + y), List.length_cons, Nat.pow_succ, Nat.add_mul]
      rw [Nat.mul_zero, Nat.zero_add, Nat.mul_comm (2 ^ l.length) 2, ← Nat.mul_assoc, Nat.mul_comm v 2, Nat.add_assoc]
  unfold valBits
  rw [List.foldl_cons, this, Nat.mul_zero, Nat.zero_add]
theorem bitsOf_cons (zs : List Nat) (s n : Nat) : bitsOf zs s (n + 1) = bitOf zs s :: bitsOf zs (s + 1) n := by
  unfold bitsOf
  rw [List.range_succ_eq_map, List.map_cons, List.map_map]
  congr 1
  refine List.map_congr_left fun i _ => ?_
  simp only [Function.comp]
  congr 1; omega
theorem unaQ_eq (zs : List Nat) (cnt at_ : Nat) (n : Int) : unaQ (bitsOf zs 0 cnt) at_ n = unaR zs cnt at_ n := by
  unfold unaQ unaR
  rw [bitsOf_drop, Nat.zero_add]
theorem zscan_bit (most : Nat) : ∀ (l : List Nat) (n : Nat), (zscan most l n).2 = 0 → n ≤ (zscan most l n).1 ∧ l[(zscan most l n).1 - n]? = some 1
  | [], n, h => by cases h
  | x :: l, n, h => by
    unfold zscan at h ⊢
    by_cases hx : x = 1
    · rw [if_pos hx]; simp [hx]
    · rw [if_neg hx] at h ⊢
      by_cases hn : n = most
      · rw [if_pos hn] at h; cases h
      · rw [if_neg hn] at h ⊢
        obtain ⟨h1, h2⟩ := zscan_bit most l (n + 1) h
        refine ⟨by omega, ?_⟩
        obtain ⟨d, hd⟩ : ∃ d, (zscan most l (n + 1)).1 = n + 1 + d := ⟨_, (Nat.add_sub_of_le h1).symm⟩
        rw [hd] at h2 ⊢
        rw [show n + 1 + d - (n + 1) = d by omega] at h2
        rw [show n + 1 + d - n = d + 1 by omega, List.getElem?_cons_succ]
        exact h2
/-- Bytes that are cut off say no bits less. -/
theorem bitsOf_cut (zs : List Nat) (n m : Nat) (h : n ≤ 8 * m) : bitsOf (zs.take m) 0 n = bitsOf zs 0 n := by
  refine List.ext_getElem? fun j => ?_
  rw [bitsOf_get, bitsOf_get]
  by_cases hj : j < n
  · rw [if_pos hj, if_pos hj]
    unfold bitOf
    simp only [Nat.zero_add, List.getD_eq_getElem?_getD, List.getElem?_take, if_pos (show j / 8 < m by omega)]
  · rw [if_neg hj, if_neg hj]

/-! Open of the reference -/
def QORes (w : World) (zs : List Nat) (n : Int) (e : Ending) (w' : World) : Prop :=
  ((n < 0 ∨ 8 * (zs.length : Int) < n) ∧ e = .returned (.tuple #[.pointer none, .int .i64 1]) ∧ Upd NoB w w') ∨
  (¬ (n < 0 ∨ 8 * (zs.length : Int) < n) ∧ 1048576 < n ∧ e = .returned (.tuple #[.pointer none, .int .i64 2]) ∧ Upd NoB w w') ∨
  (¬ (n < 0 ∨ 8 * (zs.length : Int) < n) ∧ n ≤ 1048576 ∧ ∃ p sv, e = .returned (.tuple #[.pointer (some ⟨p, 0, none⟩), .int .i64 0]) ∧ w.heap.size ≤ p ∧ QAt w' p sv (bitsOf zs 0 n.toNat) 0 ∧ newB w sv ∧ Upd NoB w w')
set_option maxRecDepth 100000 in
set_option maxHeartbeats 1000000 in
theorem qopen_any (sv : Value) (zs : List Nat) (n : Int) (w : World) (h : Bytes w sv zs) (hl : zs.length ≤ 1099511627776) :
    Calls Try.prog 34 #[sv, .int .i64 n] w fun e w' => QORes w zs n e w' := by
  obtain ⟨a, cap, rfl⟩ : ∃ a cap, sv = .slice a zs.length cap := by obtain ⟨_, a, cap, rfl, _⟩ := h; exact ⟨a, cap, rfl⟩
  by_cases h1 : n < 0
  · have hr : n < 0 ∨ 8 * (zs.length : Int) < n := .inl h1
    have Hr := Lib.hid hr; clear hr h
    go_enter Try.func34, Try.ntmps34
    go_wp2
    go_ret2
    exact .inl ⟨Hr.out, rfl, Upd.refl _ _⟩
  by_cases h2 : 8 * (zs.length : Int) < n
  · have hr : n < 0 ∨ 8 * (zs.length : Int) < n := .inr h2
    have Hr := Lib.hid hr; clear hr h
    go_enter Try.func34, Try.ntmps34
    go_wp2
    go_ret2
    exact .inl ⟨Hr.out, rfl, Upd.refl _ _⟩
  have hr : ¬ (n < 0 ∨ 8 * (zs.length : Int) < n) := by omega
  have Hr := Lib.hid hr; clear hr
  by_cases h3 : 1048576 < n
  · clear h
    go_enter Try.func34, Try.ntmps34
    go_wp2
    go_ret2
    exact .inr (.inl ⟨Hr.out, h3, rfl, Upd.refl _ _⟩)
  obtain ⟨m, rfl⟩ := Int.eq_ofNat_of_zero_le (show 0 ≤ n by omega)
  have hof := of_any _ zs m w h (by omega) hl
  have Hof := Lib.hid hof; clear hof h
  go_enter Try.func34, Try.ntmps34
  go_wp2_with fail
  refine (Hof.out).mono ?_
  rintro e w2 ⟨v, rfl, r2, u2, n2⟩
  obtain ⟨va, vc, hv⟩ := row8_slice r2
  rw [bitsOf_length] at hv
  subst hv
  have R2 := Lib.hid r2; have U2 := Lib.hid u2; have N2 := Lib.hid n2
  clear r2 u2 n2
  go_wp2_with fail
  go_ret2
  have hb := heap_alloc_new w2 (.cells #[.slice va m vc, .int .i64 0] 99)
  have u3 : Upd NoB w2 (w2.alloc (.cells #[.slice va m vc, .int .i64 0] 99)) := (Upd.refl _ _).alloc _
  refine .inr (.inr ⟨Hr.out, by omega, w2.heap.size, .slice va m vc, rfl, U2.out.size, ⟨hb, ?_, ?_, Nat.zero_le _, ?_, ?_⟩, N2.out, U2.out.then u3⟩)
  · rw [Int.toNat_natCast]; exact bytes_later R2.out.bytes u3
  · rw [Int.toNat_natCast]; exact bitsOf_01 _ _ _
  · rw [Int.toNat_natCast, bitsOf_length]; omega
  · intro _ e
    have := (R2.out.1.lt _ e).2; omega
end Go.Proofs.Ytmdladcfckoglaa
